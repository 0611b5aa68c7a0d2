/-
  trie.Make.
-/
import Derived.Test.YtbmaappambmhoaaTriQ
import Derived.Test.YtbmaappambmhoaaTriR
import Derived.Test.YtbmaappambmhoaaTriD
import Derived.Test.YtbmaappambmhoaaPackN
import Derived.Laws.ResultCell
namespace Go.Proofs.Ytbmaappambmhoaa
open Go.RowKit PK Go.Maps Go.WideMaps
set_option linter.unusedVariables false
set_option linter.unusedSimpArgs false

/-- The texts of some sets, each with the first set that has it. -/
def entS (S : List (List Tx)) : En := (toSet S.flatten).map fun t => (t, (whichI S t).toNat)
theorem nr_of {w : World} {B : Nat} {vo : Value} {X : List Cn} (h : Nds w B vo X) : NR w w.heap.size vo (ndsOf X) := by
  refine ⟨X.map fun x => [.int .i64 x.leaf, x.tv, x.kv], ?_, by simp [ndsOf], fun c hc => ?_, fun i hi => ?_⟩
  · have e : (X.map fun x => [Value.int .i64 x.leaf, x.tv, x.kv]).flatten = outN X := rfl
    rw [e, ndsOf_len]; exact Row.of_owns h.out
  · obtain ⟨x, _, rfl⟩ := List.mem_map.1 hc; rfl
  · have hi' : i < X.length := by rw [ndsOf_len] at hi; exact hi
    have h1 := h.each _ (List.getElem_mem hi')
    have e : (ndsOf X)[i] = ⟨X[i].leaf, X[i].toks, X[i].kids⟩ := by simp [ndsOf]
    rw [e]
    exact ⟨X[i].tv, X[i].kv, by simp [hi'], Row.of_owns h1.1, Row.of_owns h1.2⟩
/-- What trie.Make answers. -/
def TMPost (w : World) (k : Int) (S : List (List Tx)) (e : Ending) (w' : World) : Prop :=
  Below w.heap.size w w' ∧ ((errI k S ≠ 0 ∧ e = .returned (.tuple #[.agg #[.int .i64 0, .slice none 0 0], .int .i64 (errI k S)])) ∨
    (errI k S = 0 ∧ ∃ vo, e = .returned (.tuple #[.agg #[.int .i64 k, vo], .int .i64 0]) ∧ NR w' w'.heap.size vo (flat k.toNat 0 (mkT k.toNat (entS S)))))
set_option maxRecDepth 100000 in
theorem pred_any (k : Int) (b : Nat) (w : World) (hc : w.cell? ⟨b, 0, none⟩ = some (.int .i64 k)) (hb : b < w.heap.size) :
    PredAt Try.prog 54 #[.pointer (some ⟨b, 0, none⟩)] (fun t : Tx => .string ⟨t.toArray⟩) (fun t => !((t.length : Int) == k)) w := by
  intro W x hB
  have c := (hB.cell (p := ⟨b, 0, none⟩) hb).trans hc
  show Calls Try.prog 54 #[.string ⟨x.toArray⟩, .pointer (some ⟨b, 0, none⟩)] W (fun e w' => e = .returned (.bool (!((x.length : Int) == k))) ∧ ∃ q, w' = W.drewN q)
  have hs := tx_size x
  generalize (⟨x.toArray⟩ : ByteArray) = s at *
  rw [← hs]
  clear hs hB hc
  go_enter Try.func54, Try.ntmps54
  go_wp2_with fail
  go_ret
  exact ⟨by first | rfl | simp, 0, rfl⟩
/-- The map of the texts of the first i sets, and the first j texts of the next. -/
def FInvM (S : List (List Tx)) (f : Tx → Option Nat) (i j : Nat) : Prop := ∀ t x, f t = some x ↔ (x < i ∧ t ∈ S.getD x []) ∨ (x = i ∧ t ∈ (S.getD i []).take j)
theorem FInvM.zero (S : List (List Tx)) : FInvM S (fun _ => none) 0 0 := fun t x => by simp
theorem FInvM.next {S : List (List Tx)} {f : Tx → Option Nat} {i : Nat} (h : FInvM S f i (S.getD i []).length) : FInvM S f (i + 1) 0 := fun t x => by
  rw [h t x, List.take_length, List.take_zero]
  constructor
  · rintro (⟨h1, h2⟩ | ⟨h1, h2⟩)
    · exact .inl ⟨by omega, h2⟩
    · subst h1; exact .inl ⟨by omega, h2⟩
  · rintro (⟨h1, h2⟩ | ⟨h1, h2⟩)
    · rcases Nat.lt_or_ge x i with h3 | h3
      · exact .inl ⟨h3, h2⟩
      · obtain rfl : x = i := by omega
        exact .inr ⟨rfl, h2⟩
    · cases h2
theorem FInvM.put {S : List (List Tx)} {f : Tx → Option Nat} {i j : Nat} (h : FInvM S f i j) (hj : j < (S.getD i []).length) (hs : f (S.getD i [])[j] = none ∨ f (S.getD i [])[j] = some i) :
    FInvM S (fun t => if t = (S.getD i [])[j] then some i else f t) i (j + 1) := fun t x => by
  rw [List.take_succ_eq_append_getElem hj, List.mem_append, List.mem_singleton]
  show (if t = (S.getD i [])[j] then some i else f t) = some x ↔ _
  by_cases e : t = (S.getD i [])[j]
  · rw [if_pos e]
    constructor
    · intro h1; cases h1; exact .inr ⟨rfl, .inr e⟩
    · rintro (⟨h1, h2⟩ | ⟨h1, _⟩)
      · exfalso
        have h3 := (h t x).2 (.inl ⟨h1, h2⟩)
        rw [e] at h3
        rcases hs with hs | hs <;> rw [hs] at h3 <;> cases h3
        omega
      · rw [h1]
  · rw [if_neg e, h t x]
    constructor
    · rintro (h1 | ⟨h1, h2⟩)
      · exact .inl h1
      · exact .inr ⟨h1, .inl h2⟩
    · rintro (h1 | ⟨h1, h2 | h2⟩)
      · exact .inl h1
      · exact .inr ⟨h1, h2⟩
      · exact absurd h2 e
theorem meet_ne {a b : List Tx} {t : Tx} (h1 : t ∈ a) (h2 : t ∈ b) : meetL a b ≠ [] := by
  intro e
  have : t ∈ meetL a b := by unfold meetL; rw [toSet_mem, List.mem_filter]; exact ⟨h1, decide_eq_true h2⟩
  rw [e] at this; cases this
theorem FInvM.clash {S : List (List Tx)} {f : Tx → Option Nat} {i j x : Nat} (h : FInvM S f i j) (hi : i < S.length) (hj : j < S[i].length) (hx : f S[i][j] = some x) (hne : x ≠ i) : ∃ hx' : x < S.length, x < i ∧ meetL S[i] S[x] ≠ [] := by
  rcases (h _ _).1 hx with ⟨h1, h2⟩ | ⟨h1, _⟩
  · have h3 : x < S.length := by omega
    rw [getD_S S x h3] at h2
    exact ⟨h3, h1, meet_ne (List.getElem_mem hj) h2⟩
  · exact absurd h1 hne
theorem FInvM.apart {S : List (List Tx)} {f : Tx → Option Nat} (h : FInvM S f S.length 0) : ∀ i (hi : i < S.length), ∀ j (hj : j < S.length), j < i → meetL S[i] S[j] = [] := by
  intro i hi j hj hji
  rw [List.eq_nil_iff_forall_not_mem]
  intro t ht
  unfold meetL at ht
  rw [toSet_mem, List.mem_filter] at ht
  have h1 := (h t i).2 (.inl ⟨hi, by rw [getD_S S i hi]; exact ht.1⟩)
  have h2 := (h t j).2 (.inl ⟨hj, by rw [getD_S S j hj]; exact of_decide_eq_true ht.2⟩)
  rw [h1] at h2; cases h2; omega
theorem FInvM.which {S : List (List Tx)} {f : Tx → Option Nat} (h : FInvM S f S.length 0) (t : Tx) (ht : t ∈ S.flatten) : f t = some (whichI S t).toNat ∧ (whichI S t).toNat < S.length := by
  obtain ⟨l, hl, htl⟩ := List.mem_flatten.1 ht
  obtain ⟨x, hx, rfl⟩ := List.getElem_of_mem hl
  have h1 := (h t x).2 (.inl ⟨hx, by rw [getD_S S x hx]; exact htl⟩)
  have h2 := whichI_at S t x hx htl fun j hj hjx hm => by
    have h3 := (h t j).2 (.inl ⟨hj, by rw [getD_S S j hj]; exact hm⟩)
    rw [h1] at h3; cases h3; omega
  rw [h2, Int.toNat_natCast]; exact ⟨h1, hx⟩

theorem containsF_any (k : Int) (b : Nat) (v : Value) (l : List Tx) (base : Nat) (w : World) (hc : w.cell? ⟨b, 0, none⟩ = some (.int .i64 k)) (hb : b < w.heap.size) (hown : w.ownsRow base 9 1 v l.length (svt l)) (hl : l.length ≤ 100000) :
    Calls Try.prog 53 #[v, .func (.func 54) #[] #[.pointer (some ⟨b, 0, none⟩)]] w fun e w' => e = .returned (.bool (l.any fun t => !((t.length : Int) == k))) ∧ ∃ q, w' = w.drewN q := by
  obtain ⟨ao, c, rfl, hc1, hc2⟩ := owns_valP hown
  rcases Nat.eq_zero_or_pos l.length with h0 | h0
  · rw [h0]
    have : l = [] := List.length_eq_zero_iff.1 h0
    subst this
    exact (Try.slices_ContainsFunc_empty (α := Tx) ao c _ w).mono fun e w' h => ⟨h.1, 0, h.2⟩
  · obtain ⟨g, rfl, h1, h2, h3, h4⟩ := owns_cellN hown h0
    have h := Try.slices_ContainsFunc (fun t : Tx => .string ⟨t.toArray⟩) (fun t => !((t.length : Int) == k)) 54 #[.pointer (some ⟨b, 0, none⟩)] (enters_of Try.func54 (by kernel_rfl) rfl) g 0 l.length c l w (pred_any k b w hc hb) (Nat.le_refl _) (by omega) (fun j hj => by
      rw [Nat.zero_add]
      have := h3 j _ (svt_at l j hj)
      rw [this, getElem!_pos l j hj])
    rw [List.take_length] at h
    exact h
theorem badS_flat (k : Int) (S : List (List Tx)) : (S.flatten.any fun t => !((t.length : Int) == k)) = badS k S := by
  unfold badS; rw [List.any_flatten]
theorem FInvM.put' {S : List (List Tx)} {f : Tx → Option Nat} {i j : Nat} {l : List Tx} (h : FInvM S f i j) (hl : S.getD i [] = l) (hj : j < l.length) (hs : f l[j] = none ∨ f l[j] = some i) : FInvM S (fun t => if t = l[j] then some i else f t) i (j + 1) := by
  subst hl; exact h.put hj hs
theorem FInvM.next' {S : List (List Tx)} {f : Tx → Option Nat} {i : Nat} {l : List Tx} (h : FInvM S f i l.length) (hl : S.getD i [] = l) : FInvM S f (i + 1) 0 := by
  subst hl; exact h.next
theorem ts_of_owns {w : World} {base g : Nat} {v : Value} {l : List Tx} (h : w.ownsRow base 9 1 v l.length (svt l)) (hg : g < base) : TS w g w.heap.size v l := by
  obtain ⟨ao, c, rfl, hc1, hc2⟩ := owns_valP h
  refine ⟨ao, c, rfl, hc1, hc2, ?_⟩
  rcases Nat.eq_zero_or_pos l.length with h0 | h0
  · exact .inl (List.length_eq_zero_iff.1 h0)
  · obtain ⟨b, rfl, h1, h2, h3, _⟩ := owns_cellN h h0
    exact .inr ⟨b, 0, rfl, by omega, h2, fun j hj => by rw [Nat.zero_add]; exact h3 j _ (svt_at l j hj)⟩
theorem entS_each {K : Nat} {S : List (List Tx)} {f : Tx → Option Nat} (hb : badS K S = false) (hf : FInvM S f S.length 0) (hl : S.length ≤ 1000) : ∀ e ∈ entS S, e.1.length = K ∧ f ([] ++ e.1) = some e.2 ∧ e.2 < 20000 := by
  intro e he
  unfold entS at he
  obtain ⟨t, ht, rfl⟩ := List.mem_map.1 he
  rw [toSet_mem] at ht
  obtain ⟨h1, h2⟩ := hf.which t ht
  refine ⟨?_, h1, by omega⟩
  rw [← badS_flat, List.any_eq_false] at hb
  have := hb t ht
  simp only [Bool.not_eq_true, Bool.not_eq_false', beq_iff_eq] at this
  exact_mod_cast this
theorem entS_map (S : List (List Tx)) : (entS S).map (fun e => [] ++ e.1) = toSet S.flatten := by
  unfold entS; rw [List.map_map]; simp [Function.comp_def]
theorem entS_len (S : List (List Tx)) : (entS S).length ≤ S.flatten.length := by
  unfold entS; rw [List.length_map]; exact toSet_len _
theorem two_set {W : World} {b : Nat} {x y : Value} {T : TypeId} (h : W.heap[b]? = some (.cells #[x, y] T (0, 0))) (u v : Value) :
    ((W.setCell ⟨b, 0, none⟩ u).setCell ⟨b, 1, none⟩ v).cell? ⟨b, 0, none⟩ = some u ∧ ((W.setCell ⟨b, 0, none⟩ u).setCell ⟨b, 1, none⟩ v).cell? ⟨b, 1, none⟩ = some v := by
  have h2 := ptr_set (ptr_set h 0 u) 1 v
  exact ⟨by rw [cell_of_row _ b _ _ _ (0, 0) h2]; rfl, by rw [cell_of_row _ b _ _ _ (0, 0) h2]; rfl⟩
theorem below_two {W w : World} {b : Nat} (h : Below w.heap.size w W) (hb : w.heap.size ≤ b) (u v : Value) : Below w.heap.size w ((W.setCell ⟨b, 0, none⟩ u).setCell ⟨b, 1, none⟩ v) :=
  (h.setCell (p := ⟨b, 0, none⟩) hb u).setCell (p := ⟨b, 1, none⟩) hb v
set_option maxHeartbeats 4000000 in
set_option maxRecDepth 100000 in
theorem triMake_any (k : Int) (v : Value) (S : List (List Tx)) (B : Nat) (w : World) (hB : B ≤ w.heap.size) (r : RR w B v S) (hl : S.length ≤ 1000) (hls : ∀ l ∈ S, l.length ≤ 50) (hx : ∀ l ∈ S, ∀ x ∈ l, x.length ≤ 1000) (htot : S.flatten.length ≤ 4000) :
    Calls Try.prog 28 #[.int .i64 k, v] w (TMPost w k S) := by
  obtain ⟨ao, c, rfl, hc1, hc2⟩ := r.val
  have hl63 : S.length ≤ 9223372036854775807 := by omega
  have R := Lib.hid r; have Hls := Lib.hid hls; have Hx := Lib.hid hx
  clear r hls hx hc2
  have hb0 : Below w.heap.size w ((w.alloc (.cells #[.int .i64 k] 3)).alloc (.cells #[.int .i64 0, .slice none 0 0] 41)) := ((Below.refl w.heap.size w).alloc (Nat.le_refl _) _).alloc (by simp) _
  have hs0 : ((w.alloc (.cells #[.int .i64 k] 3)).alloc (.cells #[.int .i64 0, .slice none 0 0] 41)).heap.size = w.heap.size + 2 := by simp
  have hs1 : (w.alloc (.cells #[.int .i64 k] 3)).heap.size = w.heap.size + 1 := by simp
  have hk0 : ((w.alloc (.cells #[.int .i64 k] 3)).alloc (.cells #[.int .i64 0, .slice none 0 0] 41)).heap[w.heap.size]? = some (.cells #[.int .i64 k] 3 (0, 0)) := by
    rw [Below.heap_alloc _ _ _ (by rw [hs1]; omega)]; exact heap_alloc_new w _
  have hk1 : ((w.alloc (.cells #[.int .i64 k] 3)).alloc (.cells #[.int .i64 0, .slice none 0 0] 41)).heap[w.heap.size + 1]? = some (.cells #[.int .i64 0, .slice none 0 0] 41 (0, 0)) := by
    have h := heap_alloc_new (w.alloc (.cells #[.int .i64 k] 3)) (.cells #[.int .i64 0, .slice none 0 0] 41)
    rw [hs1] at h; exact h
  have Hb0 := Lib.hid hb0; have Hs0 := Lib.hid hs0; have Hk0 := Lib.hid hk0; have Hk1 := Lib.hid hk1
  clear hb0 hs0 hs1 hk0 hk1
  go_enter Try.func28, Try.ntmps28
  go_upto_region 1 with fail
  generalize (w.alloc (.cells #[.int .i64 k] 3)).alloc (.cells #[.int .i64 0, .slice none 0 0] 41) = W0 at *
  have g0 : W0.cell? ⟨w.heap.size, 0, none⟩ = some (.int .i64 k) := by rw [cell_of_row W0 _ _ _ _ (0, 0) Hk0.out]; rfl
  have g1 : W0.cell? ⟨w.heap.size + 1, 0, none⟩ = some (.int .i64 0) := by rw [cell_of_row W0 _ _ _ _ (0, 0) Hk1.out]; rfl
  have g2 : W0.cell? ⟨w.heap.size + 1, 1, none⟩ = some (.slice none 0 0) := by rw [cell_of_row W0 _ _ _ _ (0, 0) Hk1.out]; rfl
  have g3 : ∀ j, W0.frozen? ⟨w.heap.size + 1, j, none⟩ = false := fun j => by simp [World.frozen?, Hk1.out]
  have g30 := g3 0; have g31 := g3 1
  clear g3
  by_cases h1 : k < 1
  · have HE := Lib.hid (errI_arg (S := S) (.inl h1 : k < 1 ∨ 4 < k))
    go_wp2_with fail
    obtain ⟨q0, q1⟩ := two_set Hk1.out (.int .i64 0) (.slice none 0 0)
    refine bodyPost_ret (v := .tuple #[.agg #[.int .i64 0, .slice none 0 0], .int .i64 2]) (by simp [results, Try.results28, go_sem, q0, q1]) rfl ⟨below_two Hb0.out (by omega) _ _, .inl ⟨by rw [HE.out]; decide, by rw [HE.out]⟩⟩
  by_cases h2 : 4 < k
  · have HE := Lib.hid (errI_arg (S := S) (.inr h2 : k < 1 ∨ 4 < k))
    go_wp2_with fail
    obtain ⟨q0, q1⟩ := two_set Hk1.out (.int .i64 0) (.slice none 0 0)
    refine bodyPost_ret (v := .tuple #[.agg #[.int .i64 0, .slice none 0 0], .int .i64 2]) (by simp [results, Try.results28, go_sem, q0, q1]) rfl ⟨below_two Hb0.out (by omega) _ _, .inl ⟨by rw [HE.out]; decide, by rw [HE.out]⟩⟩
  have Hkr := Lib.hid (show ¬ (k < 1 ∨ 4 < k) by omega)
  have hcat := concat_any (.slice ao S.length c) S B W0 (Nat.le_trans hB Hb0.out.size) (R.out.below (Hb0.out.mono hB)) hl Hls.out
  have Hcat := Lib.hid hcat
  have Hlen := Lib.hid hl
  clear hcat hl
  go_wp2_with fail
  refine (Hcat.out).mono ?_
  rintro e w1 ⟨v1, rfl, own1, b1⟩
  have Hfl : Hid (∃ l, l = S.flatten) := Lib.hid ⟨_, rfl⟩
  obtain ⟨fl, hfl⟩ := Hfl.out
  rw [← hfl] at own1 htot
  have Hown1 := Lib.hid own1; have HB1 := Lib.hid b1; have Hfl := Lib.hid hfl
  have hk0 : w1.heap[w.heap.size]? = some (.cells #[.int .i64 k] 3 (0, 0)) := (b1.block _ (by rw [Hs0.out]; omega)).trans Hk0.out
  have hk1 : w1.heap[w.heap.size + 1]? = some (.cells #[.int .i64 0, .slice none 0 0] 41 (0, 0)) := (b1.block _ (by rw [Hs0.out]; omega)).trans Hk1.out
  have hw1 : w.heap.size + 2 ≤ w1.heap.size := by have := b1.size; rw [Hs0.out] at this; exact this
  have gk : w1.cell? ⟨w.heap.size, 0, none⟩ = some (.int .i64 k) := by rw [cell_of_row w1 _ _ _ _ (0, 0) hk0]; rfl
  have hwk : w.heap.size < w1.heap.size := Nat.lt_of_lt_of_le (by omega) hw1
  have hcon := containsF_any k w.heap.size v1 fl _ w1 gk hwk own1 (Nat.le_trans htot (by omega))
  rw [hfl, badS_flat k S] at hcon
  have Hcon := Lib.hid hcon
  have Hk0 := Lib.hid hk0; have Hk1 := Lib.hid hk1; have Hw1 := Lib.hid hw1
  have Htot := Lib.hid htot
  clear hcon own1 b1 hfl hk0 hk1 hwk g0 g1 g2 g30 g31 Hcat gk hw1 htot h1 h2
  go_wp2_with fail
  refine (Hcon.out).mono ?_
  rintro e w2 ⟨rfl, q, rfl⟩
  have HB1' : Hid (Below w.heap.size w (w1.drewN q)) := Lib.hid (Hb0.out.trans (HB1.out.mono (by rw [Hs0.out]; omega)) |>.trans ((below_drewsP w1 q).mono (by have := Hw1.out; omega)))
  have Hk1' : Hid ((w1.drewN q).heap[w.heap.size + 1]? = some (.cells #[.int .i64 0, .slice none 0 0] 41 (0, 0))) := Hk1
  have Hk0' : Hid ((w1.drewN q).heap[w.heap.size]? = some (.cells #[.int .i64 k] 3 (0, 0))) := Hk0
  have Hown1' : Hid ((w1.drewN q).ownsRow W0.heap.size 9 1 v1 fl.length (svt fl)) := Hown1
  have Hw1' : Hid (w.heap.size + 2 ≤ (w1.drewN q).heap.size) := Hw1
  have HR2 : Hid (RR (w1.drewN q) B (.slice ao S.length c) S) := Lib.hid (R.out.below (HB1'.out.mono hB))
  have HB0 : Hid (B ≤ (w1.drewN q).heap.size) := Lib.hid (Nat.le_trans hB HB1'.out.size)
  clear Hk0 Hk1 Hown1 HB1 Hw1 Hcon
  generalize w1.drewN q = w2 at *
  cases hbad : badS k S
  · have hmm := @run_makeMap Try.prog
    have Hbad := Lib.hid hbad
    clear hbad
    go_wp2_with fail
    go_loopw [31] (fun i wr => ∃ (ki nm : Nat) (f : Tx → Option Nat), ki ≤ S.length ∧ i = .int .i64 ki ∧ Hid (MapS wr w2.heap.size nm f) ∧ Hid (nm ≤ 50 * ki) ∧ Hid (FInvM S f ki 0) ∧ Hid (Below w2.heap.size w2 wr)) (fun i _ => S.length - (intOf i).toNat)
    case atStart => exact ⟨0, 0, _, Nat.zero_le _, rfl, Lib.hid (MapS.made w2), Lib.hid (by omega), Lib.hid (FInvM.zero S), Lib.hid ((Below.refl _ w2).alloc (Nat.le_refl _) _)⟩
    case round =>
      obtain ⟨ki, nm, f, hki, rfl, HM, Hnm, HF, HB⟩ := hrel
      by_cases hlt : ki < S.length
      · obtain ⟨b1, o1, a1, c1, rfl, hb1, c10, rk, hk1, hk2⟩ := (HR2.out.below (HB.out.mono HB0.out)).get ki hlt
        have hk0 : (ki : Int) < (S.length : Int) := by omega
        have hk3 : (0 : Int) ≤ (ki : Int) := by omega
        have HS := Lib.hid (getD_S S ki hlt)
        have Hll := Lib.hid (Hls.out _ (List.getElem_mem hlt))
        have Hlx := Lib.hid (Hx.out _ (List.getElem_mem hlt))
        have Hcl := Lib.hid (fun (f : Tx → Option Nat) (j x : Nat) (h : FInvM S f ki j) (hj : j < S[ki].length) (hx : f S[ki][j] = some x) (hne : x ≠ ki) => (show errI k S = 14 from by
          obtain ⟨h1, h2, h3⟩ := h.clash hlt hj hx hne
          exact errI_clash Hkr.out Hbad.out ki x hlt h1 h2 h3))
        have Hrow : Hid (∀ W, Below w2.heap.size w2 W → Row W B 1 (.slice a1 S[ki].length c1) S[ki].length (svt S[ki])) := Lib.hid fun W hW => by
          obtain ⟨b1', o1', a1', c1', e, _, c10', rk', _, _⟩ := (HR2.out.below (hW.mono HB0.out)).get ki hlt
          simp only [Option.some.injEq, Addr.mk.injEq, and_true] at e
          obtain ⟨rfl, rfl⟩ := e
          have hbw : b1 < w2.heap.size := Nat.lt_of_lt_of_le hb1 HB0.out
          have h1 := (HB.out.cell (p := ⟨b1, o1 + ki, none⟩) hbw).symm.trans c10
          have h2 := (hW.cell (p := ⟨b1, o1 + ki, none⟩) hbw).symm.trans c10'
          rw [h1] at h2
          simp only [Option.some.injEq, Value.slice.injEq] at h2
          obtain ⟨rfl, _, rfl⟩ := h2
          exact rk'
        clear rk
        generalize S[ki] = l at *
        unfold maxLen at hk2
        have hl63' : l.length ≤ 9223372036854775807 := by omega
        clear hk1 hk2
        obtain ⟨wo, rfl⟩ : ∃ wo : World, wo = wr := ⟨_, rfl⟩
        go_wp2_with fail
        go_loopw [38] (fun j wx => ∃ (kj nm : Nat) (f : Tx → Option Nat), kj ≤ l.length ∧ j = .int .i64 kj ∧ Hid (MapS wx w2.heap.size nm f) ∧ Hid (nm ≤ 50 * ki + kj) ∧ Hid (FInvM S f ki kj) ∧ Hid (Below w2.heap.size w2 wx)) (fun j _ => l.length - (intOf j).toNat)
        case atStart => exact ⟨0, nm, f, Nat.zero_le _, rfl, HM, Hnm, HF, HB⟩
        case round =>
          clear HM Hnm HF HB
          obtain ⟨kj, nm, f, hkj, rfl, HM, Hnm, HF, HB⟩ := hrel
          by_cases hjl : kj < l.length
          · have rk := Hrow.out wr HB.out
            obtain ⟨b2, o2, rfl, hb2, _⟩ := rk.at (by rw [svt_length]; omega)
            have c20 := rk.cell kj _ (svt_at l kj hjl)
            have hj0 : (kj : Int) < (l.length : Int) := by omega
            have hj3 : (0 : Int) ≤ (kj : Int) := by omega
            have hxl := Hlx.out _ (List.getElem_mem hjl)
            have hxm : l[kj].length ≤ maxLen := by unfold maxLen; omega
            obtain ⟨vv, hlook, hval⟩ := HM.out.look_ok l[kj] hxm
            obtain ⟨w', hup, hm', hg'⟩ := HM.out.update (by have := Hnm.out; have := Hll.out; have := Hlen.out; unfold maxLen; omega) l[kj] hxm ki
            have Hm' := Lib.hid hm'
            have Hg' := Lib.hid (HB.out.grown hg' HB.out.size (fun g e => by cases e; exact Nat.le_refl _))
            have Hput := Lib.hid (fun h => HF.out.put' HS.out hjl h)
            have Hcl' := Lib.hid (fun x h1 h2 => Hcl.out f kj x HF.out hjl h1 h2)
            have Hnm' : Hid (nm + 1 ≤ 50 * ki + (kj + 1)) := Lib.hid (by have := Hnm.out; omega)
            clear hm' hg' rk hxl hxm Hcl
            generalize l[kj] = x at *
            generalize (⟨x.toArray⟩ : ByteArray) = s at *
            cases hfx : f x with
            | none =>
              have Hput2 := Lib.hid (Hput.out (.inl hfx))
              rw [hfx] at hlook
              simp only [Option.isSome_none] at hlook
              clear hval hfx Hput Hcl'
              go_wp2_with fail
              go_roundw
              case rel => exact ⟨kj + 1, nm + 1, _, hjl, by go_num, Hm', Hnm', Hput2, Hg'⟩
              case measure => simp [intOf]; omega
            | some y =>
              have hv := hval y hfx
              subst hv
              rw [hfx] at hlook
              simp only [Option.isSome_some] at hlook
              by_cases hy : y = ki
              · subst hy
                have Hput2 := Lib.hid (Hput.out (.inr hfx))
                clear hval hfx Hput Hcl'
                go_wp2_with fail
                go_roundw
                case rel => exact ⟨kj + 1, nm + 1, _, hjl, by go_num, Hm', Hnm', Hput2, Hg'⟩
                case measure => simp [intOf]; omega
              · have HE := Lib.hid (Hcl'.out y hfx hy)
                have hyk : ¬ (y : Int) = (ki : Int) := by omega
                clear hval hfx Hput Hcl' Hm' Hg' hup
                have hk1 : wr.heap[w.heap.size + 1]? = some (.cells #[.int .i64 0, .slice none 0 0] 41 (0, 0)) := (HB.out.block _ (by have := Hw1'.out; omega)).trans Hk1'.out
                have g1 : wr.cell? ⟨w.heap.size + 1, 0, none⟩ = some (.int .i64 0) := by rw [cell_of_row wr _ _ _ _ (0, 0) hk1]; rfl
                have g2 : wr.cell? ⟨w.heap.size + 1, 1, none⟩ = some (.slice none 0 0) := by rw [cell_of_row wr _ _ _ _ (0, 0) hk1]; rfl
                have g30 : wr.frozen? ⟨w.heap.size + 1, 0, none⟩ = false := by simp [World.frozen?, hk1]
                have g31 : wr.frozen? ⟨w.heap.size + 1, 1, none⟩ = false := by simp [World.frozen?, hk1]
                have hltw : w.heap.size + 1 < wr.heap.size := by have := Hw1'.out; have := HB.out.size; omega
                obtain ⟨q0, q1⟩ := two_set hk1 (.int .i64 0) (.slice none 0 0)
                have Hend := Lib.hid (below_two (HB1'.out.trans (HB.out.mono HB1'.out.size)) (b := w.heap.size + 1) (by omega) (.int .i64 0) (.slice none 0 0))
                clear hk1
                go_wp2_with fail
                refine bodyPost_ret (v := .tuple #[.agg #[.int .i64 0, .slice none 0 0], .int .i64 14]) (by simp [results, Try.results28, go_sem, q0, q1]) rfl ⟨Hend.out, .inl ⟨by rw [HE.out]; decide, by rw [HE.out]⟩⟩
          · obtain rfl : kj = l.length := by omega
            have HF2 := Lib.hid (HF.out.next' HS.out)
            have Hn2 : Hid (nm ≤ 50 * (ki + 1)) := Lib.hid (by have := Hnm.out; have := Hll.out; omega)
            go_wp2_with fail
            go_roundw
            case rel => exact ⟨ki + 1, nm, f, hlt, by go_num, HM, Hn2, HF2, HB⟩
            case measure => simp [intOf]; omega
      · obtain rfl : ki = S.length := by omega
        obtain ⟨K, hK⟩ : ∃ K : Nat, k = (K : Int) := ⟨k.toNat, by have := Hkr.out; omega⟩
        subst hK
        have hK1 : 0 < K := by have := Hkr.out; omega
        have hK4 : K ≤ 4 := by have := Hkr.out; omega
        have HE : Hid (errI K S = 0) := Lib.hid (errI_ok Hkr.out Hbad.out HF.out.apart)
        have gk0 : wr.heap[w.heap.size]? = some (.cells #[.int .i64 (K : Int)] 3 (0, 0)) := (HB.out.block _ (by have := Hw1'.out; omega)).trans Hk0'.out
        have gk : wr.cell? ⟨w.heap.size, 0, none⟩ = some (.int .i64 (K : Int)) := by rw [cell_of_row wr _ _ _ _ (0, 0) gk0]; rfl
        obtain ⟨g, hg⟩ : ∃ g, g = wr.heap.size := ⟨_, rfl⟩
        obtain ⟨w4, hw4⟩ : ∃ w4, w4 = wr.alloc (.cells #[.int .i64 (K : Int), .slice none 0 0, .map (some w2.heap.size), .bool false] 73) := ⟨_, rfl⟩
        have hs4 : w4.heap.size = g + 1 := by rw [hw4, hg]; simp
        have hb4 : Below wr.heap.size wr w4 := by rw [hw4]; exact (Below.refl _ wr).alloc (Nat.le_refl _) _
        have hp4 : w4.heap[g]? = some (.cells #[.int .i64 (K : Int), .slice none 0 0, .map (some w2.heap.size), .bool false] 73 (0, 0)) := by rw [hw4, hg]; exact heap_alloc_new wr _
        have hown4 : w4.ownsRow W0.heap.size 9 1 v1 fl.length (svt fl) := owns_belowP (owns_belowP Hown1'.out HB.out) hb4
        have hmk := packMake_any v1 fl w4.heap.size w4 (Nat.le_refl _) (Row.of_owns hown4) (Nat.le_trans Htot.out (by omega))
        have Hmk := Lib.hid hmk
        have Hw4 := Lib.hid hw4; have Hs4 := Lib.hid hs4; have Hb4 := Lib.hid hb4; have Hp4 := Lib.hid hp4; have Hg := Lib.hid hg
        clear hw4 hs4 hb4 hp4 hown4 hmk gk0 hlt hg hki
        go_upto_region 20 with fail
        rw [← Hw4.out, ← Hg.out]
        go_wp2_with fail
        refine (Hmk.out).mono ?_
        rintro e w5 ⟨lv, rfl, own5, b5⟩
        have hsz5 : g + 1 ≤ w5.heap.size := by have := b5.size; rw [Hs4.out] at this; exact this
        have hgw : w2.heap.size < g := by have := HM.out.lt; have := Hg.out; omega
        have hm5 : MapS w5 w2.heap.size nm f := ((HM.out.kept (grown_of_below Hb4.out) (by simp)).kept (grown_of_below b5) (by simp))
        have hst5 : MSt w5 w5.heap.size g K (.map (some w2.heap.size)) (.slice none 0 0) [] := ⟨by omega, Nat.le_refl _, (b5.block g (by rw [Hs4.out]; omega)).trans Hp4.out, ⟨World.ownsRow_nil _ _ _ _, (fun x hx => by cases hx), List.pairwise_singleton _ _⟩⟩
        have hts5 : TS w5 g w5.heap.size lv ((entS S).map fun e => [] ++ e.1) := by
          rw [entS_map, ← Hfl.out]; exact ts_of_owns own5 (by rw [Hs4.out]; omega)
        have hel : (entS S).length ≤ 4000 := Nat.le_trans (entS_len S) (by rw [← Hfl.out]; exact Htot.out)
        have hz1 : w2.heap.size < w5.heap.size := Nat.lt_of_lt_of_le hgw (Nat.le_trans (Nat.le_succ g) hsz5)
        have hz2 : w2.heap.size ≠ g := Nat.ne_of_lt hgw
        have hz3 : tsize K (mkT K (entS S)) ≤ 20000 := Nat.le_trans (tsize_mk K (entS S)) (Nat.le_trans (Nat.add_le_add_left (Nat.mul_le_mul hK4 hel) 1) (by decide))
        have hz4 : (entS S).length ≤ 100000 := Nat.le_trans hel (by decide)
        have hz5 : ([] : List Cn).length + tsize K (mkT K (entS S)) ≤ 20000 := by rw [List.length_nil, Nat.zero_add]; exact hz3
        have hz6 := entS_each Hbad.out HF.out Hlen.out
        have Hnode : Hid (Calls Try.prog 55 #[.pointer (some ⟨g, 0, none⟩), lv, .int .i64 0] w5 (NodePost w5.heap.size g K (.map (some w2.heap.size)) w5 [] (flat K 0 (mkT K (entS S))))) := Lib.hid (node_any w5.heap.size g w2.heap.size nm K f hK4 hK1 hz1 hz2 K 0 [] (entS S) lv (.slice none 0 0) [] w5 (Nat.zero_add K) rfl hz6 (fun h => absurd h (Nat.lt_irrefl 0)) hz5 hst5 hm5 hts5 hz4)
        have Hb5 := Lib.hid b5; have Hsz5 := Lib.hid hsz5; have Hgw := Lib.hid hgw; have HK1 := Lib.hid hK1
        clear hz1 hz2 hz3 hz4 hz5 hz6 hts5 hst5 hm5 own5 b5 hel hsz5 hgw hK1 hK4
        go_wp2_with fail
        refine (Hnode.out).mono ?_
        rintro e w6 ⟨rfl, vo, X', hst6, hn6, hk6⟩
        obtain ⟨c0, c1, c2, c3, cf, hgl⟩ := hst6.cell
        have hk1 : w6.heap[w.heap.size + 1]? = some (.cells #[.int .i64 0, .slice none 0 0] 41 (0, 0)) := by
          have h1 := Hw1'.out; have h2 := HB.out.size; have h3 := Hb4.out.size; have h4 := Hb5.out.size; have h5 := Hg.out
          refine (hk6.block _ (by omega) (by omega)).trans ((Hb5.out.block _ (by omega)).trans ((Hb4.out.block _ (by omega)).trans ((HB.out.block _ (by omega)).trans Hk1'.out)))
        have g1 : w6.cell? ⟨w.heap.size + 1, 0, none⟩ = some (.int .i64 0) := by rw [cell_of_row w6 _ _ _ _ (0, 0) hk1]; rfl
        have g2 : w6.cell? ⟨w.heap.size + 1, 1, none⟩ = some (.slice none 0 0) := by rw [cell_of_row w6 _ _ _ _ (0, 0) hk1]; rfl
        have g30 : w6.frozen? ⟨w.heap.size + 1, 0, none⟩ = false := by simp [World.frozen?, hk1]
        have g31 : w6.frozen? ⟨w.heap.size + 1, 1, none⟩ = false := by simp [World.frozen?, hk1]
        have hltw : w.heap.size + 1 < w6.heap.size := (Array.getElem?_eq_some_iff.1 hk1).1
        obtain ⟨vao, vc, rfl, _, _⟩ := owns_valP hst6.nds.out
        obtain ⟨q0, q1⟩ := two_set hk1 (.int .i64 (K : Int)) (.slice vao X'.length vc)
        have hnw : w.heap.size + 1 < w5.heap.size ∧ w.heap.size ≤ g := by
          have h1 := Hw1'.out; have h2 := HB.out.size; have h3 := Hb4.out.size; have h4 := Hb5.out.size; have h5 := Hg.out
          omega
        have hend : TMPost w K S (.returned (.tuple #[.agg #[.int .i64 (K : Int), .slice vao X'.length vc], .int .i64 0])) ((w6.setCell ⟨w.heap.size + 1, 0, none⟩ (.int .i64 (K : Int))).setCell ⟨w.heap.size + 1, 1, none⟩ (.slice vao X'.length vc)) := by
          refine ⟨below_two ?_ (by omega) _ _, .inr ⟨HE.out, _, rfl, ?_⟩⟩
          · have h1 := HB1'.out.trans (HB.out.mono HB1'.out.size)
            have h2 := h1.trans (Hb4.out.mono h1.size)
            have h3 := h2.trans (Hb5.out.mono h2.size)
            exact h3.trans (hk6.below hnw.2 h3.size)
          · rw [Int.toNat_natCast]
            have h1 : Nds ((w6.setCell ⟨w.heap.size + 1, 0, none⟩ (.int .i64 (K : Int))).setCell ⟨w.heap.size + 1, 1, none⟩ (.slice vao X'.length vc)) w5.heap.size (.slice vao X'.length vc) X' := hst6.nds.keep fun j ⟨u, hu, hj⟩ => by
              have h2 := (hst6.nds.lt hu hj).1
              rw [Below.heap_setCell _ _ _ _ (by show j ≠ w.heap.size + 1; omega), Below.heap_setCell _ _ _ _ (by show j ≠ w.heap.size + 1; omega)]
            have h2 := nr_of h1
            rw [hn6] at h2
            exact h2
        have Hend := Lib.hid hend
        clear hend hnw hk6 hn6 hst6 hk1 cf c2 HE
        go_wp2_with fail
        refine bodyPost_ret (v := .tuple #[.agg #[.int .i64 (K : Int), .slice vao X'.length vc], .int .i64 0]) (by simp [results, Try.results28, go_sem, q0, q1]) rfl Hend.out
  · have HE : Hid (errI k S = 4) := Lib.hid (by unfold errI; rw [if_neg Hkr.out, if_pos hbad])
    have g1 : w2.cell? ⟨w.heap.size + 1, 0, none⟩ = some (.int .i64 0) := by rw [cell_of_row w2 _ _ _ _ (0, 0) Hk1'.out]; rfl
    have g2 : w2.cell? ⟨w.heap.size + 1, 1, none⟩ = some (.slice none 0 0) := by rw [cell_of_row w2 _ _ _ _ (0, 0) Hk1'.out]; rfl
    have g30 : w2.frozen? ⟨w.heap.size + 1, 0, none⟩ = false := by simp [World.frozen?, Hk1'.out]
    have g31 : w2.frozen? ⟨w.heap.size + 1, 1, none⟩ = false := by simp [World.frozen?, Hk1'.out]
    have hlt : w.heap.size + 1 < w2.heap.size := by have := Hw1'.out; omega
    clear hbad
    go_wp2_with fail
    obtain ⟨q0, q1⟩ := two_set Hk1'.out (.int .i64 0) (.slice none 0 0)
    refine bodyPost_ret (v := .tuple #[.agg #[.int .i64 0, .slice none 0 0], .int .i64 4]) (by simp [results, Try.results28, go_sem, q0, q1]) rfl ⟨below_two HB1'.out (by omega) _ _, .inl ⟨by rw [HE.out]; decide, by rw [HE.out]⟩⟩
end Go.Proofs.Ytbmaappambmhoaa
