/-
  (trie.Trie).below, whole; trie.May.
-/
import Derived.Test.YtbmaappambmhoaaTriG
namespace Go.Proofs.Ytbmaappambmhoaa
open Go.RowKit PK
set_option linter.unusedVariables false

theorem belowB_out (N : List Nd) (root : Bool) (n : Nat) (i : Nat) (h : N.length ≤ i) : belowB N root n i = none := by
  cases n <;> simp [belowB, List.getElem?_eq_none h]
theorem belowB_leaf (N : List Nd) (root : Bool) (i : Nat) (h : i < N.length) : belowB N root 0 i = if leafB N[i] = true then some ((i + 1 : Nat) : Int) else none := by
  simp only [belowB, Int.toNat_natCast, List.getElem?_eq_getElem h]
  rw [if_neg (by omega)]
  unfold leafB
  generalize N[i] = x
  have h1 : (((x.toks.length : Int) == 0) = true) ↔ x.toks = [] := by rw [beq_iff_eq]; exact ⟨fun h => List.length_eq_zero_iff.1 (by omega), fun h => by simp [h]⟩
  have h2 : (((x.kids.length : Int) == 0) = true) ↔ x.kids = [] := by rw [beq_iff_eq]; exact ⟨fun h => List.length_eq_zero_iff.1 (by omega), fun h => by simp [h]⟩
  simp only [Bool.and_eq_true, h1, h2, decide_eq_true_eq, and_assoc, Int.natCast_add, Int.cast_ofNat_Int]
theorem belowB_step (N : List Nd) (root : Bool) (n i : Nat) (h : i < N.length) : belowB N root (n + 1) i =
    if N[i].leaf ≠ -1 ∨ N[i].toks.length ≠ N[i].kids.length ∨ (N[i].toks = [] ∧ root = false) then none else kidsB (belowB N false n) none N[i].toks N[i].kids ((i + 1 : Nat) : Int) := by
  simp only [belowB, Int.toNat_natCast, List.getElem?_eq_getElem h]
  rw [if_neg (by omega)]; rfl
/-- The token ahead of the k-th. -/
def lastT (ts : List Int) (k : Nat) : Option Int := if k = 0 then none else ts[k - 1]?
theorem kidsB_step (sub : Int → Option Int) (ts ks : List Int) (k : Nat) (next : Int) (hk : k < ts.length) (hk2 : k < ks.length) :
    kidsB sub (lastT ts k) (ts.drop k) (ks.drop k) next =
      if ts[k] < 0 ∨ 255 < ts[k] ∨ (0 < k ∧ ∃ l, ts[k - 1]? = some l ∧ ts[k] ≤ l) ∨ ks[k] ≠ next then none
      else (sub next).bind fun e => kidsB sub (lastT ts (k + 1)) (ts.drop (k + 1)) (ks.drop (k + 1)) e := by
  rw [List.drop_eq_getElem_cons hk, List.drop_eq_getElem_cons hk2]
  have h1 : lastT ts (k + 1) = some ts[k] := by unfold lastT; rw [if_neg (by omega)]; simp [hk]
  rw [h1]
  simp only [kidsB, List.head?_cons, List.tail_cons, ne_eq, Option.some.injEq]
  have h2 : (∃ l, lastT ts k = some l ∧ ts[k] ≤ l) ↔ (0 < k ∧ ∃ l, ts[k - 1]? = some l ∧ ts[k] ≤ l) := by
    unfold lastT
    by_cases hz : k = 0
    · rw [if_pos hz]; subst hz; simp
    · rw [if_neg hz]; simp [Nat.pos_of_ne_zero hz]
  simp only [h2]
theorem kidsB_end (sub : Int → Option Int) (ts ks : List Int) (next : Int) : kidsB sub (lastT ts ts.length) (ts.drop ts.length) (ks.drop ts.length) next = some next := by
  rw [List.drop_length]; cases lastT ts ts.length <;> rfl
theorem cell_new (w : World) (cs : Array Value) (t : TypeId) (i : Nat) (v : Value) (h : cs[i]? = some v) : (w.alloc (.cells cs t)).cell? ⟨w.heap.size, i, none⟩ = some v := by
  have h1 : (w.alloc (.cells cs t)).heap[w.heap.size]? = some (.cells cs t) := Array.getElem?_push_size
  unfold World.cell?; simp only [h1]; exact h
def BelowR (o : Option Int) (len : Nat) (r : Nat) (ok : Bool) : Prop := o = (if ok = true then some (r : Int) else none) ∧ r ≤ len
theorem BelowR.no {o : Option Int} {len : Nat} (h : o = none) : BelowR o len 0 false := ⟨by rw [h]; rfl, Nat.zero_le _⟩
theorem ints_lengthH (l : List Int) : (ints l).length = l.length := by simp [ints]
/-- What below answers. -/
def BelowPost (w : World) (o : Option Int) (len : Nat) (e : Ending) (w' : World) : Prop :=
  ∃ (r : Nat) (ok : Bool), e = .returned (.tuple #[.int .i64 r, .bool ok]) ∧ BelowR o len r ok ∧ Below w.heap.size w w'
theorem ret_pairP {a b : Int} {p q : Bool} (h : a = b) (h2 : p = q) : Ending.returned (.tuple #[.int .i64 a, .bool p]) = .returned (.tuple #[.int .i64 b, .bool q]) := by rw [h, h2]

set_option maxHeartbeats 4000000 in
set_option maxRecDepth 100000 in
theorem below_any (v : Value) (N : List Nd) (K B : Nat) (hl : N.length ≤ 20000) (hK : K ≤ 4) (n : Nat) : ∀ (deep i : Nat) (w : World), deep + n = K → i ≤ N.length → B ≤ w.heap.size → NR w B v N →
    Calls Try.prog 56 #[.agg #[.int .i64 K, v], .int .i64 i, .int .i64 deep] w (BelowPost w (belowB N (decide (deep = 0)) n i) N.length) := by
  induction n with
  | zero =>
    intro deep i w hd hi hB r
    obtain rfl : deep = K := by omega
    rcases Nat.lt_or_ge i N.length with hlt | hge
    · refine (below_leaf v N deep i B w hB r hl hlt).mono ?_
      rintro e w' ⟨rfl, hb⟩
      refine ⟨i + 1, leafB N[i], ret_pairP (by simp) rfl, ⟨belowB_leaf N _ i hlt, hlt⟩, hb⟩
    · obtain ⟨ao, c, rfl, hc1, hc2⟩ := r.val
      unfold maxLen at hc2
      have Hn := Lib.hid (BelowR.no (len := N.length) (belowB_out N (decide (deep = 0)) 0 i hge))
      have BB := Lib.hid ((Below.refl w.heap.size w).alloc (Nat.le_refl _) (.cells #[.int .i64 deep, .slice ao N.length c] 41))
      obtain rfl : i = N.length := by omega
      have hl63 : N.length ≤ 9223372036854775807 := by omega
      have hn : ¬ (N.length : Int) < 0 := by omega
      clear r hB
      go_enter Try.func56, Try.ntmps56
      go_wp2_with fail
      go_ret2
      exact ⟨0, false, rfl, Hn.out, BB.out⟩
  | succ n ih =>
    intro deep i w hd hi hB r
    obtain ⟨ao, c, rfl, hc1, hc2⟩ := r.val
    unfold maxLen at hc2
    have hl63 : N.length ≤ 9223372036854775807 := by omega
    rcases Nat.lt_or_ge i N.length with hlt | hge
    · have hl1 : i + 1 ≤ N.length := hlt
      have hd2 : deep + 1 + n = K := by omega
      obtain ⟨b, off, a1, c1, a2, c2, rfl, hb, e0, e1, e2, r1, r2, k1, k2, k3, k4⟩ := r.get i hlt
      have hmi : (i : Int) < (N.length : Int) := by omega
      have hm0 : (0 : Int) ≤ (i : Int) := by omega
      have hn : ¬ (i : Int) < 0 := by omega
      unfold maxLen at k2 k4
      have hbw : b < w.heap.size := by omega
      have hdk : ((deep : Int) == (K : Int)) = false := by rw [beq_eq_false_iff_ne]; omega
      have hdd : (deep : Int) + 1 = ((deep + 1 : Nat) : Int) := by omega
      have Hs := Lib.hid (belowB_step N (decide (deep = 0)) n i hlt)
      have Hr := Lib.hid r
      have R1 := Lib.hid r1; have R2 := Lib.hid r2
      clear r r1 r2
      have ok1 := Lib.hid k1; have ok2 := Lib.hid k2; have ok3 := Lib.hid k3; have ok4 := Lib.hid k4
      clear k1 k2 k3 k4
      generalize N[i] = x at *
      obtain ⟨lf, tk, kd⟩ := x
      simp only at e0 e1 e2 R1 R2 ok1 ok2 ok3 ok4 Hs
      have Hx1 : Hid (¬ lf = -1 → belowB N (decide (deep = 0)) (n + 1) i = none) := Lib.hid fun h => by rw [Hs.out, if_pos (Or.inl h)]
      have Hx2 : Hid (¬ tk.length = kd.length → belowB N (decide (deep = 0)) (n + 1) i = none) := Lib.hid fun h => by
        rw [Hs.out, if_pos (Or.inr (Or.inl h))]
      have Hx3 : Hid (tk.length = 0 → 0 < deep → belowB N (decide (deep = 0)) (n + 1) i = none) := Lib.hid fun h h2 => by
        rw [Hs.out, if_pos (Or.inr (Or.inr ⟨List.length_eq_zero_iff.1 h, decide_eq_false (by omega)⟩))]
      have Hx4 : Hid (lf = -1 → tk.length = kd.length → (0 < tk.length ∨ ¬ 0 < deep) → belowB N (decide (deep = 0)) (n + 1) i = kidsB (belowB N false n) none tk kd ((i + 1 : Nat) : Int)) := Lib.hid fun h1 h2 h3 => by
        rw [Hs.out, if_neg]
        rintro (h | h | ⟨h, h'⟩)
        · exact h h1
        · exact h h2
        · have h4 := of_decide_eq_false h'
          rcases h3 with h3 | h3
          · rw [h] at h3; simp at h3
          · omega
      clear Hs hdd
      have hmi2 := Lib.hid hl1
      have R := Lib.hid (⟨R1.out, R2.out⟩ : Row w B 1 (.slice a1 tk.length c1) tk.length (ints tk) ∧ Row w B 1 (.slice a2 kd.length c2) kd.length (ints kd))
      clear R1 R2
      obtain ⟨lt, hlt'⟩ : ∃ lt, lt = tk.length := ⟨_, rfl⟩
      obtain ⟨lk, hlk'⟩ : ∃ lk, lk = kd.length := ⟨_, rfl⟩
      rw [← hlt'] at e1 ok1 Hx2 Hx3 Hx4 R
      rw [← hlk'] at e2 ok3 Hx2 Hx4 R
      have Hlt := Lib.hid hlt'; have Hlk := Lib.hid hlk'
      clear hlt' hlk' hlt hl1
      have BB := Lib.hid (((Below.refl w.heap.size w).alloc (Nat.le_refl _) (.cells #[.int .i64 K, .slice (some ⟨b, off, none⟩) N.length c] 41)).alloc (by simp) (.cells #[.int .i64 lf, .slice a1 lt c1, .slice a2 lk c2] 59))
      go_enter Try.func56, Try.ntmps56
      go_upto_region 6 with fail
      by_cases p1 : ¬ lf = -1
      · have Hf := Lib.hid (Hx1.out p1)
        go_wp2_with fail
        go_ret2
        exact ⟨0, false, rfl, BelowR.no Hf.out, BB.out⟩
      replace p1 := Classical.not_not.1 p1
      subst p1
      by_cases p2 : ¬ lt = lk
      · have Hf := Lib.hid (Hx2.out p2)
        go_wp2_with fail
        go_ret2
        exact ⟨0, false, rfl, BelowR.no Hf.out, BB.out⟩
      replace p2 := Classical.not_not.1 p2
      subst p2
      by_cases p3 : lt = 0 ∧ 0 < deep
      · obtain ⟨rfl, p4⟩ := p3
        have Hf := Lib.hid (Hx3.out rfl p4)
        go_wp2_with fail
        go_ret2
        exact ⟨0, false, rfl, BelowR.no Hf.out, BB.out⟩
      rcases Nat.eq_zero_or_pos lt with rfl | hpos
      · have hd0 : ¬ 0 < deep := fun h => p3 ⟨rfl, h⟩
        have Hf := Lib.hid (Hx4.out rfl rfl (.inr hd0))
        rw [List.length_eq_zero_iff.1 Hlt.out.symm] at Hf
        go_wp2_with fail
        go_loopw [9, 81] (fun nx kx wr => nx = .int .i64 ((i + 1 : Nat) : Int) ∧ kx = .int .i64 0 ∧ wr = (w.alloc (.cells #[.int .i64 K, .slice (some ⟨b, off, none⟩) N.length c] 41)).alloc (.cells #[.int .i64 (-1), .slice a1 0 c1, .slice a2 0 c2] 59)) (fun _ _ _ => 0)
        case atStart => exact ⟨by go_num, rfl, rfl⟩
        case round =>
          obtain ⟨rfl, rfl, rfl⟩ := hrel
          go_wp2_with fail
          go_ret2
          exact ⟨i + 1, true, rfl, ⟨by rw [Hf.out]; rfl, hmi2.out⟩, BB.out⟩
      have Hf := Lib.hid (Hx4.out rfl rfl (.inl hpos))
      have Htl := Lib.hid (Hlt.out.symm : tk.length = lt)
      have Hkl := Lib.hid (Hlk.out.symm : kd.length = lt)
      have hlt63 : (lt : Int) ≤ 9223372036854775807 := by have h1 := ok1.out; have h2 := ok2.out; omega
      clear Hx1 Hx2 Hx3 Hx4 p3
      have HW : Hid (Below w.heap.size w ((w.alloc (.cells #[.int .i64 K, .slice (some ⟨b, off, none⟩) N.length c] 41)).alloc (.cells #[.int .i64 (-1), .slice a1 lt c1, .slice a2 lt c2] 59))) := BB
      have hsz2 : ((w.alloc (.cells #[.int .i64 K, .slice (some ⟨b, off, none⟩) N.length c] 41)).alloc (.cells #[.int .i64 (-1), .slice a1 lt c1, .slice a2 lt c2] 59)).heap.size = w.heap.size + 2 := by simp
      have hc0 : ((w.alloc (.cells #[.int .i64 K, .slice (some ⟨b, off, none⟩) N.length c] 41)).alloc (.cells #[.int .i64 (-1), .slice a1 lt c1, .slice a2 lt c2] 59)).cell? ⟨w.heap.size, 0, none⟩ = some (.int .i64 K) := (((Below.refl (w.heap.size + 1) _).alloc (by simp) _).cell (by show w.heap.size < _; omega)).trans (cell_new w _ _ 0 _ rfl)
      have hc1' : ((w.alloc (.cells #[.int .i64 K, .slice (some ⟨b, off, none⟩) N.length c] 41)).alloc (.cells #[.int .i64 (-1), .slice a1 lt c1, .slice a2 lt c2] 59)).cell? ⟨w.heap.size, 1, none⟩ = some (.slice (some ⟨b, off, none⟩) N.length c) := (((Below.refl (w.heap.size + 1) _).alloc (by simp) _).cell (by show w.heap.size < _; omega)).trans (cell_new w _ _ 1 _ rfl)
      have hs1 : (w.alloc (.cells #[.int .i64 K, .slice (some ⟨b, off, none⟩) N.length c] 41)).heap.size = w.heap.size + 1 := by simp
      have hc2' : ((w.alloc (.cells #[.int .i64 K, .slice (some ⟨b, off, none⟩) N.length c] 41)).alloc (.cells #[.int .i64 (-1), .slice a1 lt c1, .slice a2 lt c2] 59)).cell? ⟨w.heap.size + 1, 1, none⟩ = some (.slice a1 lt c1) := by
        have h := cell_new (w.alloc (.cells #[.int .i64 K, .slice (some ⟨b, off, none⟩) N.length c] 41)) #[.int .i64 (-1), .slice a1 lt c1, .slice a2 lt c2] 59 1 _ rfl
        rw [hs1] at h; exact h
      have hc3' : ((w.alloc (.cells #[.int .i64 K, .slice (some ⟨b, off, none⟩) N.length c] 41)).alloc (.cells #[.int .i64 (-1), .slice a1 lt c1, .slice a2 lt c2] 59)).cell? ⟨w.heap.size + 1, 2, none⟩ = some (.slice a2 lt c2) := by
        have h := cell_new (w.alloc (.cells #[.int .i64 K, .slice (some ⟨b, off, none⟩) N.length c] 41)) #[.int .i64 (-1), .slice a1 lt c1, .slice a2 lt c2] 59 2 _ rfl
        rw [hs1] at h; exact h
      have HC : Hid (∀ wr, Below (w.heap.size + 2) ((w.alloc (.cells #[.int .i64 K, .slice (some ⟨b, off, none⟩) N.length c] 41)).alloc (.cells #[.int .i64 (-1), .slice a1 lt c1, .slice a2 lt c2] 59)) wr → wr.cell? ⟨w.heap.size, 0, none⟩ = some (.int .i64 K) ∧ wr.cell? ⟨w.heap.size, 1, none⟩ = some (.slice (some ⟨b, off, none⟩) N.length c) ∧ wr.cell? ⟨w.heap.size + 1, 1, none⟩ = some (.slice a1 lt c1) ∧ wr.cell? ⟨w.heap.size + 1, 2, none⟩ = some (.slice a2 lt c2)) := Lib.hid fun wr h =>
        ⟨(h.cell (by show w.heap.size < _; omega)).trans hc0, (h.cell (by show w.heap.size < _; omega)).trans hc1', (h.cell (by show w.heap.size + 1 < _; omega)).trans hc2', (h.cell (by show w.heap.size + 1 < _; omega)).trans hc3'⟩
      have HS := Lib.hid hsz2
      clear hc0 hc1' hc2' hc3' hs1 hsz2
      have HI : Hid (∀ (x : Nat) (wr : World), x ≤ N.length → Below w.heap.size w wr → Calls Try.prog 56 #[.agg #[.int .i64 K, .slice (some ⟨b, off, none⟩) N.length c], .int .i64 x, .int .i64 ((deep : Int) + 1)] wr (BelowPost wr (belowB N false n x) N.length)) := Lib.hid fun x wr hx hb => by
        have h := ih (deep + 1) x wr hd2 hx (Nat.le_trans hB hb.size) (Hr.out.below (hb.mono hB))
        rw [decide_eq_false (by omega)] at h
        exact h
      clear ih Hr
      have HR : Hid (∀ wr, Below w.heap.size w wr → Row wr B 1 (.slice a1 lt c1) tk.length (ints tk) ∧ Row wr B 1 (.slice a2 lt c2) kd.length (ints kd)) := Lib.hid fun wr hb =>
        ⟨by have h := R.out.1.below (hb.mono hB); rw [Htl.out]; exact h, by have h := R.out.2.below (hb.mono hB); rw [Hkl.out]; exact h⟩
      clear R ok1 ok2 ok3 ok4
      have Hst := Lib.hid (fun (k : Nat) (next : Int) (h1 : k < tk.length) (h2 : k < kd.length) => kidsB_step (belowB N false n) tk kd k next h1 h2)
      have Hend : Hid (∀ x : Nat, kidsB (belowB N false n) (lastT tk lt) (tk.drop lt) (kd.drop lt) x = some (x : Int)) := Lib.hid fun x => by rw [← Htl.out]; exact kidsB_end _ _ _ _
      generalize hO : belowB N (decide (deep = 0)) (n + 1) i = O at *
      clear hO
      generalize hsb : belowB N false n = sub at *
      clear hsb
      go_wp2_with fail
      go_loopw [9, 81] (fun nx kx wr => ∃ k next : Nat, k ≤ lt ∧ nx = .int .i64 next ∧ kx = .int .i64 k ∧ Hid (O = kidsB sub (lastT tk k) (tk.drop k) (kd.drop k) next ∧ next ≤ N.length) ∧ Hid (Below (w.heap.size + 2) ((w.alloc (.cells #[.int .i64 K, .slice (some ⟨b, off, none⟩) N.length c] 41)).alloc (.cells #[.int .i64 (-1), .slice a1 lt c1, .slice a2 lt c2] 59)) wr)) (fun _ kx _ => lt - (intOf kx).toNat)
      case atStart => exact ⟨0, i + 1, Nat.zero_le _, by go_num, rfl, Lib.hid ⟨Hf.out, hmi2.out⟩, Lib.hid (Below.refl _ _)⟩
      case round =>
        obtain ⟨k, next, hk, rfl, rfl, HO, Hb⟩ := hrel
        have HB := Lib.hid (HW.out.trans (Hb.out.mono (by omega)))
        by_cases hlt : k < lt
        · obtain ⟨q0, q1, q2, q3⟩ := HC.out wr Hb.out
          obtain ⟨r1, r2⟩ := HR.out wr HB.out
          have hkt : k < tk.length := by have := Htl.out; omega
          have hkk : k < kd.length := by have := Hkl.out; omega
          rw [Htl.out] at r1; rw [Hkl.out] at r2
          obtain ⟨b1, o1, rfl, hb1, _⟩ := r1.at (by rw [ints_length]; omega)
          obtain ⟨b2, o2, rfl, hb2, _⟩ := r2.at (by rw [ints_length]; omega)
          have e10 := r1.cell k _ (ints_at tk k hkt)
          have e20 := r2.cell k _ (ints_at kd k hkk)
          have hk0 : (k : Int) < (lt : Int) := by omega
          have hk3 : (0 : Int) ≤ (k : Int) := by omega
          have Hs := Lib.hid (Hst.out k next hkt hkk)
          have Hcall := Lib.hid (HI.out next wr HO.out.2 HB.out)
          have hrow := fun j u h => r1.cell j u h
          clear r1 r2
          rcases k with _ | m
          · simp only [Nat.add_zero] at e10 e20
            generalize tk[0] = x at *
            generalize kd[0] = y at *
            by_cases z1 : x < 0
            · have Hn := Lib.hid (show O = none by rw [HO.out.1, Hs.out, if_pos (Or.inl z1)])
              clear Hs Hcall
              go_wp2_with fail
              go_ret2
              exact ⟨0, false, rfl, BelowR.no Hn.out, HB.out⟩
            by_cases z2 : 255 < x
            · have Hn := Lib.hid (show O = none by rw [HO.out.1, Hs.out, if_pos (Or.inr (Or.inl z2))])
              clear Hs Hcall
              go_wp2_with fail
              go_ret2
              exact ⟨0, false, rfl, BelowR.no Hn.out, HB.out⟩
            by_cases z4 : ¬ y = (next : Int)
            · have Hn := Lib.hid (show O = none by rw [HO.out.1, Hs.out, if_pos (Or.inr (Or.inr (Or.inr z4)))])
              clear Hs Hcall
              go_wp2_with fail
              go_ret2
              exact ⟨0, false, rfl, BelowR.no Hn.out, HB.out⟩
            obtain rfl : y = (next : Int) := Classical.not_not.1 z4
            have Hg : Hid (O = (sub (next : Int)).bind fun e => kidsB sub (lastT tk (0 + 1)) (tk.drop (0 + 1)) (kd.drop (0 + 1)) e) := Lib.hid (by
              rw [HO.out.1, Hs.out, if_neg]
              rintro (h | h | ⟨h, h'⟩ | h)
              · exact z1 h
              · exact z2 h
              · exact absurd h (Nat.lt_irrefl 0)
              · exact h rfl)
            clear Hs
            go_wp2_with fail
            refine (Hcall.out).mono ?_
            rintro e w2 ⟨r, ok, rfl, hR, b3⟩
            have HR2 := Lib.hid hR
            have Hb2 := Lib.hid (Hb.out.trans (b3.mono (by have h1 := Hb.out.size; have h2 := HS.out; omega)))
            have HB2 := Lib.hid (HB.out.trans (b3.mono HB.out.size))
            clear hR b3 Hcall
            cases ok
            · have Hn := Lib.hid (show O = none by rw [Hg.out, HR2.out.1]; rfl)
              go_wp2_with fail
              go_ret2
              exact ⟨0, false, rfl, BelowR.no Hn.out, HB2.out⟩
            · have Hn := Lib.hid (show O = kidsB sub (lastT tk (0 + 1)) (tk.drop (0 + 1)) (kd.drop (0 + 1)) r by rw [Hg.out, HR2.out.1]; rfl)
              go_wp2_with fail
              go_roundw
              case rel => exact ⟨0 + 1, r, hlt, rfl, by go_num, Lib.hid ⟨Hn.out, HR2.out.2⟩, Hb2⟩
              case measure => simp [intOf]; omega
          · have Hp := Lib.hid (List.getElem?_eq_getElem (show m < tk.length by omega))
            have c30 := hrow m _ (ints_at tk m (by omega))
            clear hrow
            have hk4 : (((m + 1 : Nat) : Int) - 1) = (m : Int) := by omega
            have hk5 : (m : Int) < (lt : Int) := by omega
            have hm0' : (0 : Int) ≤ (m : Int) := by omega
            have hmp : (0 : Int) < ((m + 1 : Nat) : Int) := by omega
            simp only [Nat.add_sub_cancel] at Hs
            generalize tk[m + 1] = x at *
            generalize kd[m + 1] = y at *
            generalize tk[m] = p at *
            by_cases z1 : x < 0
            · have Hn := Lib.hid (show O = none by rw [HO.out.1, Hs.out, if_pos (Or.inl z1)])
              clear Hs Hcall
              go_wp2_with fail
              go_ret2
              exact ⟨0, false, rfl, BelowR.no Hn.out, HB.out⟩
            by_cases z2 : 255 < x
            · have Hn := Lib.hid (show O = none by rw [HO.out.1, Hs.out, if_pos (Or.inr (Or.inl z2))])
              clear Hs Hcall
              go_wp2_with fail
              go_ret2
              exact ⟨0, false, rfl, BelowR.no Hn.out, HB.out⟩
            by_cases z3 : x ≤ p
            · have Hn := Lib.hid (show O = none by rw [HO.out.1, Hs.out, if_pos (Or.inr (Or.inr (Or.inl ⟨Nat.succ_pos m, p, Hp.out, z3⟩)))])
              clear Hs Hcall
              go_wp2_with fail
              go_ret2
              exact ⟨0, false, rfl, BelowR.no Hn.out, HB.out⟩
            by_cases z4 : ¬ y = (next : Int)
            · have Hn := Lib.hid (show O = none by rw [HO.out.1, Hs.out, if_pos (Or.inr (Or.inr (Or.inr z4)))])
              clear Hs Hcall
              go_wp2_with fail
              go_ret2
              exact ⟨0, false, rfl, BelowR.no Hn.out, HB.out⟩
            obtain rfl : y = (next : Int) := Classical.not_not.1 z4
            have Hg : Hid (O = (sub (next : Int)).bind fun e => kidsB sub (lastT tk ((m + 1) + 1)) (tk.drop ((m + 1) + 1)) (kd.drop ((m + 1) + 1)) e) := Lib.hid (by
              rw [HO.out.1, Hs.out, if_neg]
              rintro (h | h | ⟨h, h'⟩ | h)
              · exact z1 h
              · exact z2 h
              · obtain ⟨l, hl, h3⟩ := h'
                rw [Hp.out] at hl
                cases hl
                exact z3 h3
              · exact h rfl)
            clear Hs
            go_wp2_with fail
            refine (Hcall.out).mono ?_
            rintro e w2 ⟨r, ok, rfl, hR, b3⟩
            have HR2 := Lib.hid hR
            have Hb2 := Lib.hid (Hb.out.trans (b3.mono (by have h1 := Hb.out.size; have h2 := HS.out; omega)))
            have HB2 := Lib.hid (HB.out.trans (b3.mono HB.out.size))
            clear hR b3 Hcall
            cases ok
            · have Hn := Lib.hid (show O = none by rw [Hg.out, HR2.out.1]; rfl)
              go_wp2_with fail
              go_ret2
              exact ⟨0, false, rfl, BelowR.no Hn.out, HB2.out⟩
            · have Hn := Lib.hid (show O = kidsB sub (lastT tk ((m + 1) + 1)) (tk.drop ((m + 1) + 1)) (kd.drop ((m + 1) + 1)) r by rw [Hg.out, HR2.out.1]; rfl)
              go_wp2_with fail
              go_roundw
              case rel => exact ⟨(m + 1) + 1, r, hlt, rfl, by go_num, Lib.hid ⟨Hn.out, HR2.out.2⟩, Hb2⟩
              case measure => simp [intOf]; omega
        · obtain rfl : k = lt := by omega
          have Hf2 : Hid (O = some (next : Int)) := Lib.hid (by rw [HO.out.1, Hend.out])
          go_wp2_with fail
          go_ret2
          exact ⟨next, true, rfl, ⟨by rw [Hf2.out]; rfl, HO.out.2⟩, HB.out⟩
    · have Hn := Lib.hid (BelowR.no (len := N.length) (belowB_out N (decide (deep = 0)) (n + 1) i hge))
      have BB := Lib.hid ((Below.refl w.heap.size w).alloc (Nat.le_refl _) (.cells #[.int .i64 K, .slice ao N.length c] 41))
      obtain rfl : i = N.length := by omega
      have hn : ¬ (N.length : Int) < 0 := by omega
      clear r hB ih
      go_enter Try.func56, Try.ntmps56
      go_wp2_with fail
      go_ret2
      exact ⟨0, false, rfl, Hn.out, BB.out⟩

set_option maxHeartbeats 1000000 in
set_option maxRecDepth 100000 in
theorem triMay_any (v : Value) (N : List Nd) (K : Int) (B : Nat) (w : World) (hB : B ≤ w.heap.size) (r : NR w B v N) (hl : N.length ≤ 20000) :
    Calls Try.prog 33 #[.agg #[.int .i64 K, v]] w (BoolB w (mayB18 K N)) := by
  obtain ⟨ao, c, rfl, hc1, hc2⟩ := r.val
  unfold maxLen at hc2
  have hm : ¬ (K < 1) → ¬ (4 < K) → Hid (∀ (wr : World), Below w.heap.size w wr → Calls Try.prog 56 #[.agg #[.int .i64 K, .slice ao N.length c], .int .i64 0, .int .i64 0] wr (BelowPost wr (belowB N true K.toNat 0) N.length)) := fun h1 h2 => Lib.hid fun wr hb => by
    obtain ⟨k, rfl⟩ : ∃ k : Nat, K = (k : Int) := ⟨K.toNat, by omega⟩
    exact below_any _ N k B hl (by omega) k 0 0 wr (by omega) (Nat.zero_le _) (Nat.le_trans hB hb.size) (r.below (hb.mono hB))
  have hl63 : N.length ≤ 9223372036854775807 := by omega
  have Hl := Lib.hid hl
  clear r
  have hlen : ¬ ((20000 : Int) < (N.length : Int)) := by omega
  have hlen' : ¬ (20000 < N.length) := by omega
  clear hl
  have HM : Hid (mayB18 K N = (decide (1 ≤ K) && decide (K ≤ 4) && decide (belowB N true K.toNat 0 = some (N.length : Int)))) := Lib.hid (by
    unfold mayB18; rw [decide_eq_true (show N.length ≤ 20000 from Hl.out)]; simp)
  generalize mayB18 K N = q at *
  by_cases h1 : K < 1
  · have hq : q = false := by rw [HM.out, decide_eq_false (by omega)]; rfl
    subst hq
    clear HM hm
    go_enter Try.func33, Try.ntmps33
    go_wp2_with fail
    go_ret
    exact ⟨rfl, (Below.refl w.heap.size w).alloc (Nat.le_refl _) _⟩
  by_cases h2 : 4 < K
  · have hq : q = false := by rw [HM.out, decide_eq_true (show 1 ≤ K by omega), decide_eq_false (by omega)]; rfl
    subst hq
    clear HM hm
    go_enter Try.func33, Try.ntmps33
    go_wp2_with fail
    go_ret
    exact ⟨rfl, (Below.refl w.heap.size w).alloc (Nat.le_refl _) _⟩
  have Hm := hm h1 h2
  have HM2 : Hid (q = decide (belowB N true K.toNat 0 = some (N.length : Int))) := Lib.hid (by rw [HM.out, decide_eq_true (show 1 ≤ K by omega), decide_eq_true (show K ≤ 4 by omega)]; rfl)
  clear HM hm
  have Hal := Lib.hid ((Below.refl w.heap.size w).alloc (Nat.le_refl _) (.cells #[.int .i64 K, .slice ao N.length c] 41))
  have Hcall := Lib.hid (Hm.out _ Hal.out)
  clear Hm
  generalize belowB N true K.toNat 0 = O at *
  go_enter Try.func33, Try.ntmps33
  go_wp2_with fail
  refine (Hcall.out).mono ?_
  rintro e w2 ⟨r, ok, rfl, hR, b3⟩
  have HB2 := Lib.hid (Hal.out.trans (b3.mono (by simp)))
  have hg : w2.cell? ⟨w.heap.size, 1, none⟩ = some (.slice ao N.length c) := (b3.cell (by simp)).trans (cell_new w _ _ 1 _ rfl)
  have hq : q = (ok && decide (r = N.length)) := by
    rw [HM2.out, hR.1]; cases ok <;> simp [Int.ofNat_inj]
  clear HM2 Hcall b3 hR
  subst hq
  cases ok
  · go_wp2_with fail
    go_ret
    exact ⟨rfl, HB2.out⟩
  · by_cases hr : r = N.length
    · subst hr
      go_wp2_with fail
      go_ret
      exact ⟨by simp, HB2.out⟩
    · have hr2 : ¬ (r : Int) = (N.length : Int) := by omega
      go_wp2_with fail
      go_ret
      exact ⟨by simp [hr]; omega, HB2.out⟩
end Go.Proofs.Ytbmaappambmhoaa
