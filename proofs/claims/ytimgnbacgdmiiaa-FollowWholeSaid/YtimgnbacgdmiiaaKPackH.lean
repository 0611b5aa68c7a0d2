/-
  cmp.Compare of texts; pack.met and joined, of sets.
  pack.met and joined: walked.
  pack.Join, Meet, Has, Same.
-/
import Derived.Test.YtimgnbacgdmiiaaKPackE
import Derived.Deep.RegionWith
namespace Go.Proofs.Ytimgnbacgdmiiaa
open Go.RowKit PK
set_option linter.unusedVariables false
attribute [local go_sem ↓] append_appM

theorem isNaN_any (s : ByteArray) (w : World) : Calls Try.prog 112 #[.string s] w fun e w' => e = .returned (.bool false) ∧ w' = w := by
  go_enter Try.func112, Try.ntmps112
  go_wp2_with fail
  go_ret
  exact ⟨ret_boolP (by simp), rfl⟩
def cmpT (x y : Tx) : Int := if x < y then -1 else if y < x then 1 else 0
theorem compare_any (x y : Tx) (w : World) (s t : ByteArray) (hs : s = ⟨x.toArray⟩) (ht : t = ⟨y.toArray⟩) :
    Calls Try.prog 101 #[.string s, .string t] w fun e w' => e = .returned (.int .i64 (cmpT x y)) ∧ w' = w := by
  subst hs; subst ht
  have hless := bytesLess_eq x y
  by_cases h1 : x < y
  · have hc : cmpT x y = -1 := by unfold cmpT; rw [if_pos h1]
    rw [hc]
    rw [decide_eq_true h1] at hless
    clear h1 hc
    go_enter Try.func101, Try.ntmps101
    go_wp2_with fail
    refine (isNaN_any _ w).mono ?_
    rintro e w1 ⟨rfl, rfl⟩
    go_wp2_with fail
    refine (isNaN_any _ w1).mono ?_
    rintro e w2 ⟨rfl, rfl⟩
    go_wp2_with fail
    go_ret
    exact ⟨rfl, rfl⟩
  · rw [decide_eq_false h1] at hless
    by_cases h2 : y < x
    · have hc : cmpT x y = 1 := by unfold cmpT; rw [if_neg h1, if_pos h2]
      have he : (x == y) = false := by
        have : x ≠ y := fun e => by subst e; exact tx_irrefl _ h2
        simpa using this
      rw [hc]
      clear h1 h2 hc
      go_enter Try.func101, Try.ntmps101
      go_wp2_with fail
      refine (isNaN_any _ w).mono ?_
      rintro e w1 ⟨rfl, rfl⟩
      go_wp2_with fail
      refine (isNaN_any _ w1).mono ?_
      rintro e w2 ⟨rfl, rfl⟩
      go_wp2_with fail
      go_ret
      exact ⟨rfl, rfl⟩
    · have hc : cmpT x y = 0 := by unfold cmpT; rw [if_neg h1, if_neg h2]
      have he : (x == y) = true := by
        have : x = y := tx_eq h1 h2
        simpa using this
      rw [hc]
      clear h1 h2 hc
      go_enter Try.func101, Try.ntmps101
      go_wp2_with fail
      refine (isNaN_any _ w).mono ?_
      rintro e w1 ⟨rfl, rfl⟩
      go_wp2_with fail
      refine (isNaN_any _ w1).mono ?_
      rintro e w2 ⟨rfl, rfl⟩
      go_wp2_with fail
      go_ret
      exact ⟨rfl, rfl⟩

/-- What the merges come to. -/
def metR : List Tx → List Tx → List Tx
  | [], _ => []
  | _ :: _, [] => []
  | x :: a, y :: b => if x < y then metR a (y :: b) else if y < x then metR (x :: a) b else x :: metR a b
termination_by a b => a.length + b.length
def joinR : List Tx → List Tx → List Tx
  | [], b => b
  | x :: a, [] => x :: a
  | x :: a, y :: b => if x < y then x :: joinR a (y :: b) else if y < x then y :: joinR (x :: a) b else x :: joinR a b
termination_by a b => a.length + b.length
theorem metR_nil (a : List Tx) : metR a [] = [] := by cases a <;> simp [metR]
theorem joinR_nil (a : List Tx) : joinR a [] = a := by cases a <;> simp [joinR]
theorem metR_lt {x y : Tx} (a b : List Tx) (h : x < y) : metR (x :: a) (y :: b) = metR a (y :: b) := by rw [metR, if_pos h]
theorem metR_gt {x y : Tx} (a b : List Tx) (h1 : ¬ x < y) (h : y < x) : metR (x :: a) (y :: b) = metR (x :: a) b := by rw [metR, if_neg h1, if_pos h]
theorem metR_eq {x y : Tx} (a b : List Tx) (h1 : ¬ x < y) (h : ¬ y < x) : metR (x :: a) (y :: b) = x :: metR a b := by rw [metR, if_neg h1, if_neg h]
theorem joinR_lt {x y : Tx} (a b : List Tx) (h : x < y) : joinR (x :: a) (y :: b) = x :: joinR a (y :: b) := by rw [joinR, if_pos h]
theorem joinR_gt {x y : Tx} (a b : List Tx) (h1 : ¬ x < y) (h : y < x) : joinR (x :: a) (y :: b) = y :: joinR (x :: a) b := by rw [joinR, if_neg h1, if_pos h]
theorem joinR_eq {x y : Tx} (a b : List Tx) (h1 : ¬ x < y) (h : ¬ y < x) : joinR (x :: a) (y :: b) = x :: joinR a b := by rw [joinR, if_neg h1, if_neg h]
theorem joinR_mem : ∀ (n : Nat) (a b : List Tx), a.length + b.length ≤ n → ∀ z, z ∈ joinR a b ↔ z ∈ a ∨ z ∈ b := by
  intro n
  induction n with
  | zero =>
    intro a b h z
    have h1 := List.length_eq_zero_iff.1 (show a.length = 0 by omega)
    have h2 := List.length_eq_zero_iff.1 (show b.length = 0 by omega)
    subst h1; subst h2; simp [joinR]
  | succ n ih =>
    intro a b h z
    rcases a with _ | ⟨x, a⟩
    · simp [joinR]
    · rcases b with _ | ⟨y, b⟩
      · simp [joinR]
      · simp only [List.length_cons] at h
        by_cases h1 : x < y
        · rw [joinR_lt a b h1, List.mem_cons, ih a (y :: b) (by simp; omega) z]; simp only [List.mem_cons, or_assoc]
        · by_cases h2 : y < x
          · rw [joinR_gt a b h1 h2, List.mem_cons, ih (x :: a) b (by simp; omega) z]; simp only [List.mem_cons]
            constructor
            · rintro (h | (h | h) | h)
              · exact .inr (.inl h)
              · exact .inl (.inl h)
              · exact .inl (.inr h)
              · exact .inr (.inr h)
            · rintro ((h | h) | h | h)
              · exact .inr (.inl (.inl h))
              · exact .inr (.inl (.inr h))
              · exact .inl h
              · exact .inr (.inr h)
          · obtain rfl := tx_eq h1 h2
            rw [joinR_eq a b h1 h2, List.mem_cons, ih a b (by omega) z]; simp only [List.mem_cons]
            constructor
            · rintro (h | h | h)
              · exact .inl (.inl h)
              · exact .inl (.inr h)
              · exact .inr (.inr h)
            · rintro ((h | h) | h | h)
              · exact .inl h
              · exact .inr (.inl h)
              · exact .inl h
              · exact .inr (.inr h)
theorem joinR_set : ∀ (n : Nat) (a b : List Tx), a.length + b.length ≤ n → IsSet a → IsSet b → IsSet (joinR a b) := by
  intro n
  induction n with
  | zero =>
    intro a b h _ _
    have h1 := List.length_eq_zero_iff.1 (show a.length = 0 by omega)
    have h2 := List.length_eq_zero_iff.1 (show b.length = 0 by omega)
    subst h1; subst h2; simp [joinR, IsSet]
  | succ n ih =>
    intro a b h ha hb
    rcases a with _ | ⟨x, a⟩
    · simpa [joinR] using hb
    · rcases b with _ | ⟨y, b⟩
      · simpa [joinR] using ha
      · simp only [List.length_cons] at h
        have ha' := List.pairwise_cons.1 ha
        have hb' := List.pairwise_cons.1 hb
        by_cases h1 : x < y
        · rw [joinR_lt a b h1]
          refine List.pairwise_cons.2 ⟨fun z hz => ?_, ih _ _ (by simp; omega) ha'.2 hb⟩
          rcases (joinR_mem _ _ _ (Nat.le_refl _) z).1 hz with h | h
          · exact ha'.1 z h
          · rcases List.mem_cons.1 h with e | e
            · subst e; exact h1
            · exact tx_trans h1 (hb'.1 z e)
        · by_cases h2 : y < x
          · rw [joinR_gt a b h1 h2]
            refine List.pairwise_cons.2 ⟨fun z hz => ?_, ih _ _ (by simp; omega) ha hb'.2⟩
            rcases (joinR_mem _ _ _ (Nat.le_refl _) z).1 hz with h | h
            · rcases List.mem_cons.1 h with e | e
              · subst e; exact h2
              · exact tx_trans h2 (ha'.1 z e)
            · exact hb'.1 z h
          · obtain rfl := tx_eq h1 h2
            rw [joinR_eq a b h1 h2]
            refine List.pairwise_cons.2 ⟨fun z hz => ?_, ih _ _ (by omega) ha'.2 hb'.2⟩
            rcases (joinR_mem _ _ _ (Nat.le_refl _) z).1 hz with h | h
            · exact ha'.1 z h
            · exact hb'.1 z h
theorem metR_mem : ∀ (n : Nat) (a b : List Tx), a.length + b.length ≤ n → IsSet a → IsSet b → ∀ z, z ∈ metR a b ↔ z ∈ a ∧ z ∈ b := by
  intro n
  induction n with
  | zero =>
    intro a b h _ _ z
    have h1 := List.length_eq_zero_iff.1 (show a.length = 0 by omega)
    subst h1; simp [metR]
  | succ n ih =>
    intro a b h ha hb z
    rcases a with _ | ⟨x, a⟩
    · simp [metR]
    · rcases b with _ | ⟨y, b⟩
      · simp [metR]
      · simp only [List.length_cons] at h
        have ha' := List.pairwise_cons.1 ha
        have hb' := List.pairwise_cons.1 hb
        by_cases h1 : x < y
        · rw [metR_lt a b h1, ih a (y :: b) (by simp; omega) ha'.2 hb z]
          constructor
          · rintro ⟨h, k⟩; exact ⟨List.mem_cons_of_mem _ h, k⟩
          · rintro ⟨h, k⟩
            rcases List.mem_cons.1 h with e | e
            · subst e
              rcases List.mem_cons.1 k with e2 | e2
              · subst e2; exact absurd h1 (tx_irrefl _)
              · exact absurd (tx_trans h1 (hb'.1 z e2)) (tx_irrefl _)
            · exact ⟨e, k⟩
        · by_cases h2 : y < x
          · rw [metR_gt a b h1 h2, ih (x :: a) b (by simp; omega) ha hb'.2 z]
            constructor
            · rintro ⟨h, k⟩; exact ⟨h, List.mem_cons_of_mem _ k⟩
            · rintro ⟨h, k⟩
              rcases List.mem_cons.1 k with e | e
              · subst e
                rcases List.mem_cons.1 h with e2 | e2
                · subst e2; exact absurd h2 (tx_irrefl _)
                · exact absurd (tx_trans h2 (ha'.1 z e2)) (tx_irrefl _)
              · exact ⟨h, e⟩
          · obtain rfl := tx_eq h1 h2
            rw [metR_eq a b h1 h2, List.mem_cons, ih a b (by omega) ha'.2 hb'.2 z]
            constructor
            · rintro (h | ⟨h, k⟩)
              · subst h; exact ⟨List.mem_cons_self, List.mem_cons_self⟩
              · exact ⟨List.mem_cons_of_mem _ h, List.mem_cons_of_mem _ k⟩
            · rintro ⟨h, k⟩
              rcases List.mem_cons.1 h with e | e
              · exact .inl e
              · rcases List.mem_cons.1 k with e2 | e2
                · exact .inl e2
                · exact .inr ⟨e, e2⟩
theorem metR_set : ∀ (n : Nat) (a b : List Tx), a.length + b.length ≤ n → IsSet a → IsSet b → IsSet (metR a b) := by
  intro n
  induction n with
  | zero =>
    intro a b h _ _
    have h1 := List.length_eq_zero_iff.1 (show a.length = 0 by omega)
    subst h1; simp [metR, IsSet]
  | succ n ih =>
    intro a b h ha hb
    rcases a with _ | ⟨x, a⟩
    · simp [metR, IsSet]
    · rcases b with _ | ⟨y, b⟩
      · simp [metR, IsSet]
      · simp only [List.length_cons] at h
        have ha' := List.pairwise_cons.1 ha
        have hb' := List.pairwise_cons.1 hb
        by_cases h1 : x < y
        · rw [metR_lt a b h1]; exact ih _ _ (by simp; omega) ha'.2 hb
        · by_cases h2 : y < x
          · rw [metR_gt a b h1 h2]; exact ih _ _ (by simp; omega) ha hb'.2
          · obtain rfl := tx_eq h1 h2
            rw [metR_eq a b h1 h2]
            exact List.pairwise_cons.2 ⟨fun z hz => ha'.1 z ((metR_mem _ _ _ (Nat.le_refl _) ha'.2 hb'.2 z).1 hz).1, ih _ _ (by omega) ha'.2 hb'.2⟩
theorem metR_sets (a b : List Tx) : metR (toSet a) (toSet b) = meetL a b := set_ext (metR_set _ _ _ (Nat.le_refl _) (toSet_set _) (toSet_set _)) (toSet_set _) fun z => by
  rw [metR_mem _ _ _ (Nat.le_refl _) (toSet_set _) (toSet_set _), toSet_mem, toSet_mem]
  unfold meetL
  rw [toSet_mem, List.mem_filter, decide_eq_true_eq]
theorem joinR_sets (a b : List Tx) : joinR (toSet a) (toSet b) = joinL a b := set_ext (joinR_set _ _ _ (Nat.le_refl _) (toSet_set _) (toSet_set _)) (toSet_set _) fun z => by
  rw [joinR_mem _ _ _ (Nat.le_refl _), toSet_mem, toSet_mem]
  unfold joinL
  rw [toSet_mem, List.mem_append]
/-- The rest of a row. -/
theorem rowTail {w : World} {B n c : Nat} {ao : Option Addr} {x : Value} {xs : List Value} (h : Row w B 1 (.slice ao (n + 1) c) (n + 1) (x :: xs)) :
    ∃ b o, ao = some ⟨b, o, none⟩ ∧ b < B ∧ w.cell? ⟨b, o, none⟩ = some x ∧ 1 ≤ c ∧ (c = 1 → Row w B 1 (.slice (some ⟨b, o, none⟩) n (c - 1)) n xs) ∧ (c ≠ 1 → Row w B 1 (.slice (some ⟨b, o + 1, none⟩) n (c - 1)) n xs) := by
  obtain ⟨_, _, hv, h1, h2⟩ := h.val
  simp only [Value.slice.injEq] at hv
  obtain ⟨_, _, rfl⟩ := hv
  obtain ⟨b, o, rfl, hb, hc⟩ := h.at (by simp)
  have hd := h.drop 1 (by omega)
  refine ⟨b, o, rfl, hb, ?_, by omega, fun e => ?_, fun _ => by simpa using hd⟩
  · simpa using hc 0 x rfl
  · subst e
    obtain rfl : n = 0 := by omega
    have hx : xs = [] := by have := h.1; simp at this; exact this
    subst hx
    exact ⟨rfl, Nat.zero_le _, .inr ⟨_, _, rfl, Nat.zero_le _, Nat.zero_le _, .inl rfl, fun j u hu => by simp at hu⟩⟩
def slen : Value → Nat
  | .slice _ n _ => n
  | _ => 0
end Go.Proofs.Ytimgnbacgdmiiaa
namespace Go.Proofs.Ytimgnbacgdmiiaa
open Go.RowKit PK
set_option linter.unusedVariables false
attribute [local go_sem ↓] append_appM

theorem slen_slice (a : Option Addr) (n c : Nat) : slen (.slice a n c) = n := rfl
theorem pushT2 (X : World) (base n : Nat) (v : Value) (l : List Tx) (x : Tx) (hb : base ≤ X.heap.size) (hn : l.length = n) (hown : X.ownsRow base 9 1 v n (svt l)) (hm : n + 1 ≤ 1000000000000) (s : ByteArray) (hs : s = ⟨x.toArray⟩) :
    ∃ ao c w', Sem.run Try.prog (appM #[32, 32] 32 #[v, .slice (some ⟨X.heap.size, 0, none⟩) 1 1]) (X.alloc (.cells #[.string s] 9)).drew.drew = .ok (.slice ao (n + 1) c) w' ∧ w'.ownsRow base 9 1 (.slice ao (n + 1) c) (n + 1) (svt (l ++ [x])) ∧ Below base X w' ∧ n + 1 ≤ c ∧ c ≤ maxLen := by
  obtain ⟨ao, c, w', h1, h2, h3, h4, h5⟩ := pushT X.drew base n v l x hb hn hown.drew hm s hs
  exact ⟨ao, c, w', h1, h2, (Below.refl base X).drew.trans h3, h4, h5⟩
set_option maxHeartbeats 4000000 in
set_option maxRecDepth 100000 in
theorem joined_any (v1 v2 : Value) (a b : List Tx) (w : World) (r1 : Row w w.heap.size 1 v1 a.length (svt a)) (r2 : Row w w.heap.size 1 v2 b.length (svt b)) (hl : a.length ≤ 100000) (hl2 : b.length ≤ 1000000) :
    Calls Try.prog 80 #[v1, v2] w (OwnT w (joinR a b)) := by
  obtain ⟨i0, hi, hz0, hz1, hz2⟩ := info_parts info_str
  obtain ⟨a1, c1, rfl, hc1, hc1'⟩ := r1.val
  obtain ⟨a2, c2, rfl, hc2, hc2'⟩ := r2.val
  have R1 := Lib.hid r1; have R2 := Lib.hid r2
  have n1 : a.length ≤ 9223372036854775807 := by omega
  have n2 : b.length ≤ 9223372036854775807 := by omega
  have n3 : Hid (((a.length : Int) + (b.length : Int)) = ((a.length + b.length : Nat) : Int)) := Lib.hid (by omega)
  have n4 : (a.length : Int) + (b.length : Int) ≤ 9223372036854775807 := by omega
  clear r1 r2
  go_enter Try.func80, Try.ntmps80
  go_wp2_with (at_make; refine wpList_make_own _ rfl _ _ 32 rfl w.heap.size 9 i0 (.string ByteArray.empty) 1 Try.underlying32 hi hz0 hz1 .i64 .i64 _ (a.length + b.length) rfl rfl n3.out (by rw [hz2]; omega) (by unfold maxLen; omega) (Nat.le_refl _) ?_; intro w0 hown0 hgrow0)
  have Hown0 := Lib.hid hown0
  have Hb0 := Lib.hid ((Below.refl w.heap.size w).grown hgrow0 (Nat.le_refl _) (fun k hk => by cases hk))
  clear hown0 hgrow0
  go_loopw [0, 1, 5, 6] (fun s0 s1 o _ wr => ∃ A C l, Row wr w.heap.size 1 s0 A.length (svt A) ∧ Row wr w.heap.size 1 s1 C.length (svt C) ∧ wr.ownsRow w.heap.size 9 1 o l.length (svt l) ∧ Below w.heap.size w wr ∧ l ++ joinR A C = joinR a b ∧ l.length + A.length + C.length ≤ a.length + b.length) (fun s0 s1 _ _ _ => slen s0 + slen s1)
  case atStart => exact ⟨a, b, [], R1.out.below Hb0.out, R2.out.below Hb0.out, Hown0.out, Hb0.out, rfl, by simp⟩
  case round =>
    obtain ⟨A, C, l, q1, q2, hown, hbel, hmet, hlen⟩ := hrel
    have Hmet := Lib.hid hmet
    have Hown := Lib.hid hown
    have Hlen := Lib.hid hlen
    have Hbel := Lib.hid hbel
    clear hc1 hc1' hc2 hc2' n3
    obtain ⟨a1, c1, rfl, hc1, hc1'⟩ := q1.val
    obtain ⟨a2, c2, rfl, hc2, hc2'⟩ := q2.val
    obtain ⟨ao, co, rfl, hco, hco'⟩ := owns_valPK hown
    unfold maxLen at hc1' hc2' hco'
    by_cases hend : A = [] ∨ C = []
    · have hj : joinR A C = A ++ C := by
        rcases hend with rfl | rfl
        · simp [joinR]
        · rw [joinR_nil, List.append_nil]
      rw [hj] at Hmet
      clear hj
      obtain ⟨p1, d1, w1, f1, own1, g1, x1, y1⟩ := appT wr w.heap.size l.length (.slice ao l.length co) l Hbel.out.size rfl Hown.out w.heap.size A.length _ A q1 (by omega)
      obtain ⟨p2, d2, w2, f2, own2, g2, x2, y2⟩ := appT w1 w.heap.size (l.length + A.length) (.slice p1 (l.length + A.length) d1) (l ++ A) (by have := g1.size; have := hbel.size; omega) (by simp) own1 w.heap.size C.length _ C (q2.below g1) (by omega)
      have Own2 := Lib.hid own2; have G2 := Lib.hid (hbel.trans (g1.trans g2))
      unfold maxLen at y1 y2
      clear q1 q2 hown hmet hlen hbel own1 own2 g1 g2
      have hfin : Hid (w2.ownsRow w.heap.size 9 1 (.slice p2 (l.length + A.length + C.length) d2) (joinR a b).length (svt (joinR a b))) := by
        have h := Own2.out
        rw [List.append_assoc, Hmet.out] at h
        rw [← Hmet.out] at h ⊢
        simp only [List.length_append] at h ⊢
        rw [← Nat.add_assoc]; exact h
      rcases A with _ | ⟨x, A⟩
      · clear hend
        simp only [List.length_nil, Nat.add_zero] at f1 f2 x1 x2 hfin
        go_wp2_with fail
        go_ret
        exact ⟨_, rfl, hfin.out, G2.out⟩
      · obtain rfl : C = [] := by rcases hend with h | h
                                  · cases h
                                  · exact h
        clear hend
        simp only [List.length_cons, List.length_nil, Nat.add_zero] at f1 f2 x1 x2 hfin
        go_wp2_with fail
        go_ret
        exact ⟨_, rfl, hfin.out, G2.out⟩
    · rcases A with _ | ⟨x, A⟩
      · exact absurd (.inl rfl) hend
      rcases C with _ | ⟨y, C⟩
      · exact absurd (.inr rfl) hend
      · clear hend
        simp only [List.length_cons, svt, List.map_cons] at q1 q2
        obtain ⟨b1, o1, rfl, hb1, e1, hcc1, t1, t1'⟩ := rowTail q1
        obtain ⟨b2, o2, rfl, hb2, e2, hcc2, t2, t2'⟩ := rowTail q2
        have T1 := Lib.hid t1; have T1' := Lib.hid t1'; have T2 := Lib.hid t2; have T2' := Lib.hid t2'
        have Q1 := Lib.hid q1; have Q2 := Lib.hid q2
        clear q1 q2 t1 t1' t2 t2' hown hmet hlen hbel
        replace e1 : wr.cell? ⟨b1, o1, none⟩ = some (.string ⟨x.toArray⟩) := e1
        replace e2 : wr.cell? ⟨b2, o2, none⟩ = some (.string ⟨y.toArray⟩) := e2
        have bw : Below w.heap.size wr wr.drew := (Below.refl _ _).drew
        have Bw := Lib.hid bw; clear bw
        simp only [List.length_cons] at hc1 hc2
        have k1 : A.length + 1 ≤ 9223372036854775807 := by omega
        have k2 : C.length + 1 ≤ 9223372036854775807 := by omega
        by_cases hxy : x < y
        · have hcmp : Hid (cmpT x y = -1) := Lib.hid (by unfold cmpT; rw [if_pos hxy])
          rw [joinR_lt A C hxy] at Hmet
          clear hxy
          by_cases h1 : c1 = 1
          · skip
            have Tx := Lib.hid (by have h := T1.out h1; rw [h1] at h; exact h)
            obtain ⟨vo, vc, w3, happ, hown3, hbel3, hv1, hv2⟩ := pushT2 wr w.heap.size l.length (.slice ao l.length co) l x Hbel.out.size rfl Hown.out (by have := Hlen.out; simp at this; omega) _ rfl
            have Hown3 := Lib.hid hown3; have Hbel3 := Lib.hid (Hbel.out.trans hbel3)
            have B3 := Lib.hid hbel3
            have cc : (wr.alloc (.cells #[.string ⟨x.toArray⟩] 9)).cell? ⟨b1, o1, none⟩ = some (.string ⟨x.toArray⟩) := (((Below.refl wr.heap.size wr).alloc (Nat.le_refl _) _).cell (by have := Hbel.out.size; show b1 < _; omega)).trans e1
            clear hown3 hbel3
            unfold maxLen at hv2
            go_wp2_with fail
            go_region_with (go_at_call 101; refine (compare_any x y _ _ _ rfl rfl).mono ?_; rintro e w' ⟨rfl, rfl⟩)
            all_goals
              rw [hcmp.out]
              go_wp2_with fail
              go_region
              all_goals
                go_wp2_with fail
                go_roundw
                case rel => exact ⟨A, y :: C, l ++ [x], (Tx.out).below B3.out, (Q2.out).below B3.out, by have h := Hown3.out; simp only [List.length_append, List.length_cons, List.length_nil]; exact h, Hbel3.out, by rw [List.append_assoc]; exact Hmet.out, by have := Hlen.out; simp at this ⊢; omega⟩
                case measure => simp [slen]; try omega
          · skip
            have Tx := Lib.hid ((T1'.out h1))
            obtain ⟨vo, vc, w3, happ, hown3, hbel3, hv1, hv2⟩ := pushT2 wr w.heap.size l.length (.slice ao l.length co) l x Hbel.out.size rfl Hown.out (by have := Hlen.out; simp at this; omega) _ rfl
            have Hown3 := Lib.hid hown3; have Hbel3 := Lib.hid (Hbel.out.trans hbel3)
            have B3 := Lib.hid hbel3
            have cc : (wr.alloc (.cells #[.string ⟨x.toArray⟩] 9)).cell? ⟨b1, o1, none⟩ = some (.string ⟨x.toArray⟩) := (((Below.refl wr.heap.size wr).alloc (Nat.le_refl _) _).cell (by have := Hbel.out.size; show b1 < _; omega)).trans e1
            clear hown3 hbel3
            unfold maxLen at hv2
            go_wp2_with fail
            go_region_with (go_at_call 101; refine (compare_any x y _ _ _ rfl rfl).mono ?_; rintro e w' ⟨rfl, rfl⟩)
            all_goals
              rw [hcmp.out]
              go_wp2_with fail
              go_region
              all_goals
                go_wp2_with fail
                go_roundw
                case rel => exact ⟨A, y :: C, l ++ [x], (Tx.out).below B3.out, (Q2.out).below B3.out, by have h := Hown3.out; simp only [List.length_append, List.length_cons, List.length_nil]; exact h, Hbel3.out, by rw [List.append_assoc]; exact Hmet.out, by have := Hlen.out; simp at this ⊢; omega⟩
                case measure => simp [slen]; try omega
        · by_cases hyx : y < x
          · have hcmp : Hid (cmpT x y = 1) := Lib.hid (by unfold cmpT; rw [if_neg hxy, if_pos hyx])
            rw [joinR_gt A C hxy hyx] at Hmet
            clear hxy hyx
            by_cases h2 : c2 = 1
            · skip
              have Ty := Lib.hid (by have h := T2.out h2; rw [h2] at h; exact h)
              obtain ⟨vo, vc, w3, happ, hown3, hbel3, hv1, hv2⟩ := pushT2 wr w.heap.size l.length (.slice ao l.length co) l y Hbel.out.size rfl Hown.out (by have := Hlen.out; simp at this; omega) _ rfl
              have Hown3 := Lib.hid hown3; have Hbel3 := Lib.hid (Hbel.out.trans hbel3)
              have B3 := Lib.hid hbel3
              have cc : (wr.alloc (.cells #[.string ⟨y.toArray⟩] 9)).cell? ⟨b2, o2, none⟩ = some (.string ⟨y.toArray⟩) := (((Below.refl wr.heap.size wr).alloc (Nat.le_refl _) _).cell (by have := Hbel.out.size; show b2 < _; omega)).trans e2
              clear hown3 hbel3
              unfold maxLen at hv2
              go_wp2_with fail
              go_region_with (go_at_call 101; refine (compare_any x y _ _ _ rfl rfl).mono ?_; rintro e w' ⟨rfl, rfl⟩)
              all_goals
                rw [hcmp.out]
                go_wp2_with fail
                go_region
                all_goals
                  go_wp2_with fail
                  go_roundw
                  case rel => exact ⟨x :: A, C, l ++ [y], (Q1.out).below B3.out, (Ty.out).below B3.out, by have h := Hown3.out; simp only [List.length_append, List.length_cons, List.length_nil]; exact h, Hbel3.out, by rw [List.append_assoc]; exact Hmet.out, by have := Hlen.out; simp at this ⊢; omega⟩
                  case measure => simp [slen]; try omega
            · skip
              have Ty := Lib.hid ((T2'.out h2))
              obtain ⟨vo, vc, w3, happ, hown3, hbel3, hv1, hv2⟩ := pushT2 wr w.heap.size l.length (.slice ao l.length co) l y Hbel.out.size rfl Hown.out (by have := Hlen.out; simp at this; omega) _ rfl
              have Hown3 := Lib.hid hown3; have Hbel3 := Lib.hid (Hbel.out.trans hbel3)
              have B3 := Lib.hid hbel3
              have cc : (wr.alloc (.cells #[.string ⟨y.toArray⟩] 9)).cell? ⟨b2, o2, none⟩ = some (.string ⟨y.toArray⟩) := (((Below.refl wr.heap.size wr).alloc (Nat.le_refl _) _).cell (by have := Hbel.out.size; show b2 < _; omega)).trans e2
              clear hown3 hbel3
              unfold maxLen at hv2
              go_wp2_with fail
              go_region_with (go_at_call 101; refine (compare_any x y _ _ _ rfl rfl).mono ?_; rintro e w' ⟨rfl, rfl⟩)
              all_goals
                rw [hcmp.out]
                go_wp2_with fail
                go_region
                all_goals
                  go_wp2_with fail
                  go_roundw
                  case rel => exact ⟨x :: A, C, l ++ [y], (Q1.out).below B3.out, (Ty.out).below B3.out, by have h := Hown3.out; simp only [List.length_append, List.length_cons, List.length_nil]; exact h, Hbel3.out, by rw [List.append_assoc]; exact Hmet.out, by have := Hlen.out; simp at this ⊢; omega⟩
                  case measure => simp [slen]; try omega
          · have hcmp : Hid (cmpT x y = 0) := Lib.hid (by unfold cmpT; rw [if_neg hxy, if_neg hyx])
            rw [joinR_eq A C hxy hyx] at Hmet
            clear hxy hyx
            by_cases h1 : c1 = 1
            · by_cases h2 : c2 = 1
              · skip
                have Tx := Lib.hid (by have h := T1.out h1; rw [h1] at h; exact h)
                have Ty := Lib.hid (by have h := T2.out h2; rw [h2] at h; exact h)
                obtain ⟨vo, vc, w3, happ, hown3, hbel3, hv1, hv2⟩ := pushT2 wr w.heap.size l.length (.slice ao l.length co) l x Hbel.out.size rfl Hown.out (by have := Hlen.out; simp at this; omega) _ rfl
                have Hown3 := Lib.hid hown3; have Hbel3 := Lib.hid (Hbel.out.trans hbel3)
                have B3 := Lib.hid hbel3
                have cc : (wr.alloc (.cells #[.string ⟨x.toArray⟩] 9)).cell? ⟨b1, o1, none⟩ = some (.string ⟨x.toArray⟩) := (((Below.refl wr.heap.size wr).alloc (Nat.le_refl _) _).cell (by have := Hbel.out.size; show b1 < _; omega)).trans e1
                clear hown3 hbel3
                unfold maxLen at hv2
                go_wp2_with fail
                go_region_with (go_at_call 101; refine (compare_any x y _ _ _ rfl rfl).mono ?_; rintro e w' ⟨rfl, rfl⟩)
                all_goals
                  rw [hcmp.out]
                  go_wp2_with fail
                  go_region
                  all_goals
                    go_wp2_with fail
                    go_roundw
                    case rel => exact ⟨A, C, l ++ [x], (Tx.out).below B3.out, (Ty.out).below B3.out, by have h := Hown3.out; simp only [List.length_append, List.length_cons, List.length_nil]; exact h, Hbel3.out, by rw [List.append_assoc]; exact Hmet.out, by have := Hlen.out; simp at this ⊢; omega⟩
                    case measure => simp [slen]; try omega
              · skip
                have Tx := Lib.hid (by have h := T1.out h1; rw [h1] at h; exact h)
                have Ty := Lib.hid ((T2'.out h2))
                obtain ⟨vo, vc, w3, happ, hown3, hbel3, hv1, hv2⟩ := pushT2 wr w.heap.size l.length (.slice ao l.length co) l x Hbel.out.size rfl Hown.out (by have := Hlen.out; simp at this; omega) _ rfl
                have Hown3 := Lib.hid hown3; have Hbel3 := Lib.hid (Hbel.out.trans hbel3)
                have B3 := Lib.hid hbel3
                have cc : (wr.alloc (.cells #[.string ⟨x.toArray⟩] 9)).cell? ⟨b1, o1, none⟩ = some (.string ⟨x.toArray⟩) := (((Below.refl wr.heap.size wr).alloc (Nat.le_refl _) _).cell (by have := Hbel.out.size; show b1 < _; omega)).trans e1
                clear hown3 hbel3
                unfold maxLen at hv2
                go_wp2_with fail
                go_region_with (go_at_call 101; refine (compare_any x y _ _ _ rfl rfl).mono ?_; rintro e w' ⟨rfl, rfl⟩)
                all_goals
                  rw [hcmp.out]
                  go_wp2_with fail
                  go_region
                  all_goals
                    go_wp2_with fail
                    go_roundw
                    case rel => exact ⟨A, C, l ++ [x], (Tx.out).below B3.out, (Ty.out).below B3.out, by have h := Hown3.out; simp only [List.length_append, List.length_cons, List.length_nil]; exact h, Hbel3.out, by rw [List.append_assoc]; exact Hmet.out, by have := Hlen.out; simp at this ⊢; omega⟩
                    case measure => simp [slen]; try omega
            · by_cases h2 : c2 = 1
              · skip
                have Tx := Lib.hid ((T1'.out h1))
                have Ty := Lib.hid (by have h := T2.out h2; rw [h2] at h; exact h)
                obtain ⟨vo, vc, w3, happ, hown3, hbel3, hv1, hv2⟩ := pushT2 wr w.heap.size l.length (.slice ao l.length co) l x Hbel.out.size rfl Hown.out (by have := Hlen.out; simp at this; omega) _ rfl
                have Hown3 := Lib.hid hown3; have Hbel3 := Lib.hid (Hbel.out.trans hbel3)
                have B3 := Lib.hid hbel3
                have cc : (wr.alloc (.cells #[.string ⟨x.toArray⟩] 9)).cell? ⟨b1, o1, none⟩ = some (.string ⟨x.toArray⟩) := (((Below.refl wr.heap.size wr).alloc (Nat.le_refl _) _).cell (by have := Hbel.out.size; show b1 < _; omega)).trans e1
                clear hown3 hbel3
                unfold maxLen at hv2
                go_wp2_with fail
                go_region_with (go_at_call 101; refine (compare_any x y _ _ _ rfl rfl).mono ?_; rintro e w' ⟨rfl, rfl⟩)
                all_goals
                  rw [hcmp.out]
                  go_wp2_with fail
                  go_region
                  all_goals
                    go_wp2_with fail
                    go_roundw
                    case rel => exact ⟨A, C, l ++ [x], (Tx.out).below B3.out, (Ty.out).below B3.out, by have h := Hown3.out; simp only [List.length_append, List.length_cons, List.length_nil]; exact h, Hbel3.out, by rw [List.append_assoc]; exact Hmet.out, by have := Hlen.out; simp at this ⊢; omega⟩
                    case measure => simp [slen]; try omega
              · skip
                have Tx := Lib.hid ((T1'.out h1))
                have Ty := Lib.hid ((T2'.out h2))
                obtain ⟨vo, vc, w3, happ, hown3, hbel3, hv1, hv2⟩ := pushT2 wr w.heap.size l.length (.slice ao l.length co) l x Hbel.out.size rfl Hown.out (by have := Hlen.out; simp at this; omega) _ rfl
                have Hown3 := Lib.hid hown3; have Hbel3 := Lib.hid (Hbel.out.trans hbel3)
                have B3 := Lib.hid hbel3
                have cc : (wr.alloc (.cells #[.string ⟨x.toArray⟩] 9)).cell? ⟨b1, o1, none⟩ = some (.string ⟨x.toArray⟩) := (((Below.refl wr.heap.size wr).alloc (Nat.le_refl _) _).cell (by have := Hbel.out.size; show b1 < _; omega)).trans e1
                clear hown3 hbel3
                unfold maxLen at hv2
                go_wp2_with fail
                go_region_with (go_at_call 101; refine (compare_any x y _ _ _ rfl rfl).mono ?_; rintro e w' ⟨rfl, rfl⟩)
                all_goals
                  rw [hcmp.out]
                  go_wp2_with fail
                  go_region
                  all_goals
                    go_wp2_with fail
                    go_roundw
                    case rel => exact ⟨A, C, l ++ [x], (Tx.out).below B3.out, (Ty.out).below B3.out, by have h := Hown3.out; simp only [List.length_append, List.length_cons, List.length_nil]; exact h, Hbel3.out, by rw [List.append_assoc]; exact Hmet.out, by have := Hlen.out; simp at this ⊢; omega⟩
                    case measure => simp [slen]; try omega
end Go.Proofs.Ytimgnbacgdmiiaa
namespace Go.Proofs.Ytimgnbacgdmiiaa
open Go.RowKit PK
set_option linter.unusedVariables false

theorem rowOfOwn {w w' : World} {base n : Nat} {v : Value} {l : List Tx} (h : w.ownsRow base 9 1 v n (svt l)) (hb : Below w.heap.size w w') : Row w' w'.heap.size 1 v n (svt l) :=
  ((Row.of_owns h).below hb).mono hb.size

theorem packJoin_any (v1 v2 : Value) (a b : List Tx) (B1 B2 : Nat) (w : World) (hB1 : B1 ≤ w.heap.size) (hB2 : B2 ≤ w.heap.size) (r1 : Row w B1 1 v1 a.length (svt a)) (r2 : Row w B2 1 v2 b.length (svt b)) (ha : a.length ≤ 100000) (hb : b.length ≤ 1000000) :
    Calls Try.prog 48 #[v1, v2] w (OwnT w (joinL a b)) := by
  have R2 := Lib.hid r2
  have Hm := Lib.hid (packMake_any v1 a B1 w hB1 r1 (by omega))
  have la := toSet_len a; have lb := toSet_len b
  clear r1 r2
  go_enter Try.func48, Try.ntmps48
  go_wp2_with fail
  refine (Hm.out).mono ?_
  rintro e w1 ⟨x1, rfl, own1, b1⟩
  have hs1 := b1.size
  have Hm2 := Lib.hid (packMake_any v2 b B2 w1 (by omega) (R2.out.below (b1.mono hB2)) (by omega))
  have Own1 := Lib.hid own1; have B1' := Lib.hid b1
  clear own1 b1
  go_wp2_with fail
  refine (Hm2.out).mono ?_
  rintro e w2 ⟨x2, rfl, own2, b2⟩
  have hs2 := b2.size
  have Hj := Lib.hid (joined_any x1 x2 (toSet a) (toSet b) w2 (rowOfOwn Own1.out b2) (rowOfOwn own2 (Below.refl _ _)) (by omega) (by omega))
  have B2' := Lib.hid (B1'.out.trans (b2.mono hs1))
  clear own2 b2
  go_wp2_with fail
  refine (Hj.out).mono ?_
  rintro e w3 ⟨x3, rfl, own3, b3⟩
  rw [joinR_sets] at own3
  go_wp2_with fail
  go_ret
  exact ⟨_, rfl, owns_basePK own3 (by omega), B2'.out.trans (b3.mono (by omega))⟩

set_option maxHeartbeats 1000000 in
theorem index_any (v : Value) (l : List Tx) (t : Tx) (B : Nat) (w : World) (hB : B ≤ w.heap.size) (r : Row w B 1 v l.length (svt l)) (s : ByteArray) (hs : s = ⟨t.toArray⟩) :
    Calls Try.prog 103 #[v, .string s] w fun e w' => (∃ i : Int, e = .returned (.int .i64 i) ∧ decide (0 ≤ i) = decide (t ∈ l)) ∧ Below w.heap.size w w' := by
  subst hs
  obtain ⟨ao, c, rfl, hc1, hc2⟩ := r.val
  have hl63 : l.length ≤ 9223372036854775807 := by unfold maxLen at hc2; omega
  have R := Lib.hid r
  clear r
  go_enter Try.func103, Try.ntmps103
  go_wp2_with fail
  go_loopw [5, 8] (fun _ i wr => ∃ k : Nat, k ≤ l.length ∧ i = .int .i64 k ∧ Below w.heap.size w wr ∧ t ∉ l.take k) (fun _ i _ => l.length - (intOf i).toNat)
  case atStart => exact ⟨0, Nat.zero_le _, rfl, Below.refl _ _, by simp⟩
  case round =>
    obtain ⟨k, hk, rfl, hbel, hall⟩ := hrel
    have Hall := Lib.hid hall; clear hall
    by_cases hlt : k < l.length
    · have a1 := R.out.below (hbel.mono hB)
      obtain ⟨b1, o1, rfl, hb1, _⟩ := a1.at (by rw [svt_length]; omega)
      have c10 := a1.cell k _ (svt_at l k hlt)
      have hk0 : (k : Int) < (l.length : Int) := by omega
      have hk1 : (0 : Int) ≤ (k : Int) := by omega
      have Hin : Hid (l[k] = t → t ∈ l) := Lib.hid fun e => by rw [← e]; exact List.getElem_mem hlt
      have Hst : Hid (l[k] ≠ t → t ∉ l.take (k + 1)) := Lib.hid fun e => by
        rw [List.take_succ_eq_append_getElem hlt, List.mem_append]
        rintro (h | h)
        · exact Hall.out h
        · exact e (List.mem_singleton.1 h).symm
      clear a1 Hall
      generalize l[k] = x at *
      by_cases hxt : x = t
      · replace Hin := Lib.hid (Hin.out hxt)
        have hq : (t == x) = true := by simpa using hxt.symm
        clear hxt Hst
        go_wp2_with fail
        go_ret
        exact ⟨⟨_, rfl, by rw [decide_eq_true Hin.out]; exact decide_eq_true hk1⟩, hbel⟩
      · replace Hst := Lib.hid (Hst.out hxt)
        have hq : (t == x) = false := by simpa using fun e => hxt e.symm
        clear hxt Hin
        go_wp2_with fail
        go_roundw
        case rel => exact ⟨k + 1, hlt, by go_num, hbel, Hst.out⟩
        case measure => simp [intOf]; omega
    · obtain rfl : k = l.length := by omega
      have H : Hid (t ∉ l) := Lib.hid (by have := Hall.out; rw [List.take_length] at this; exact this)
      clear Hall
      go_wp2_with fail
      go_ret
      exact ⟨⟨_, rfl, by rw [decide_eq_false H.out]; rfl⟩, hbel⟩

set_option maxRecDepth 100000 in
theorem contains_any (v : Value) (l : List Tx) (t : Tx) (B : Nat) (w : World) (hB : B ≤ w.heap.size) (r : Row w B 1 v l.length (svt l)) (s : ByteArray) (hs : s = ⟨t.toArray⟩) :
    Calls Try.prog 86 #[v, .string s] w (BoolB w (decide (t ∈ l))) := by
  subst hs
  have Hi := Lib.hid (index_any v l t B w hB r _ rfl)
  clear r
  go_enter Try.func86, Try.ntmps86
  go_wp2_with fail
  refine (Hi.out).mono ?_
  rintro e w1 ⟨⟨i, rfl, hi⟩, hb⟩
  have HI := Lib.hid hi
  clear hi
  go_wp2_with fail
  go_ret
  exact ⟨ret_boolP HI.out, hb⟩

set_option maxRecDepth 100000 in
theorem packHas_any (v : Value) (l : List Tx) (t : Tx) (B : Nat) (w : World) (hB : B ≤ w.heap.size) (r : Row w B 1 v l.length (svt l)) (s : ByteArray) (hs : s = ⟨t.toArray⟩) :
    Calls Try.prog 56 #[v, .string s] w (BoolB w (decide (t ∈ l))) := by
  subst hs
  have Hi := Lib.hid (contains_any v l t B w hB r _ rfl)
  clear r
  go_enter Try.func56, Try.ntmps56
  go_wp2_with fail
  refine (Hi.out).mono ?_
  rintro e w1 ⟨rfl, hb⟩
  go_wp2_with fail
  go_ret
  exact ⟨rfl, hb⟩

theorem bx_inj : ∀ {a b : List Tx}, (a.map fun x => ByteArray.mk x.toArray) = (b.map fun x => ByteArray.mk x.toArray) → a = b := by
  intro a
  induction a with
  | nil => intro b h; cases b with
    | nil => rfl
    | cons y b => simp at h
  | cons x a ih => intro b h; cases b with
    | nil => simp at h
    | cons y b =>
      simp only [List.map_cons, List.cons.injEq, ByteArray.mk.injEq] at h
      rw [ih h.2]
      have := congrArg Array.toList h.1
      simp at this
      rw [this]

end Go.Proofs.Ytimgnbacgdmiiaa
