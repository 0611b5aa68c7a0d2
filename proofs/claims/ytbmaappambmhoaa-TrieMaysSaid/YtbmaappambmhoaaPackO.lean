/-
  pack.rises and made of numbers; SameInts, HasInt.
-/
import Derived.Test.YtbmaappambmhoaaPackL
namespace Go.Proofs.Ytbmaappambmhoaa
open Go.RowKit PK Go.Sort
set_option linter.unusedVariables false
instance (l : List Int) : Decidable (IsSet l) := inferInstanceAs (Decidable (l.Pairwise (· < ·)))
theorem isSetI_chain (l : List Int) (h : ∀ j (h1 : j + 1 < l.length), l[j] < l[j + 1]) : IsSet l := by
  unfold IsSet
  rw [List.pairwise_iff_getElem]
  intro i j hi hj hij
  induction j with
  | zero => omega
  | succ j ih =>
    rcases Nat.lt_or_ge i j with h1 | h1
    · exact Int.lt_trans (ih (by omega) h1) (h j hj)
    · obtain rfl : i = j := by omega
      exact h i hj
theorem isSetI_not (l : List Int) (j : Nat) (h1 : j + 1 < l.length) (h : ¬ l[j] < l[j + 1]) : ¬ IsSet l := fun hs => h ((List.pairwise_iff_getElem.1 hs) j (j + 1) (by omega) h1 (by omega))
theorem toSetI_id {l : List Int} (h : IsSet l) : toSetI l = l := int_ext (toSetI_set l) h (toSetI_mem l)
theorem toSetI_len (l : List Int) : (toSetI l).length ≤ l.length := by
  unfold toSetI; refine Nat.le_trans (compact_len _) ?_; rw [List.length_mergeSort]; exact Nat.le_refl _
def OwnI (w : World) (l : List Int) (en : Ending) (w' : World) : Prop := ∃ v, en = .returned v ∧ w'.ownsRow w.heap.size 3 1 v l.length (ints l) ∧ Below w.heap.size w w'
def SetI (base : Nat) (w : World) (l : List Int) (en : Ending) (w' : World) : Prop := ∃ v, en = .returned v ∧ w'.ownsRow base 3 1 v l.length (ints l) ∧ Below base w w'
theorem below_growP (X : World) (os : Array Obj) : Below X.heap.size X (grow X os) := ⟨rfl, rfl, rfl, by simp [grow], fun k hk => heap_grow_old _ _ hk⟩

set_option maxHeartbeats 1000000 in
theorem risesI_any (v : Value) (l : List Int) (B : Nat) (w : World) (hB : B ≤ w.heap.size) (r : Row w B 1 v l.length (ints l)) :
    Calls Try.prog 64 #[v] w (BoolB w (decide (IsSet l))) := by
  obtain ⟨ao, c, rfl, hc1, hc2⟩ := r.val
  have hl63 : l.length ≤ 9223372036854775807 := by unfold maxLen at hc2; omega
  have R := Lib.hid r
  clear r
  go_enter Try.func64, Try.ntmps64
  go_wp2_with fail
  go_loopw [3] (fun i wr => ∃ k : Nat, k ≤ l.length + 1 ∧ 1 ≤ k ∧ i = .int .i64 k ∧ Below w.heap.size w wr ∧ (∀ j (h1 : j + 1 < l.length), j + 1 < k → l[j] < l[j + 1])) (fun i _ => l.length + 1 - (intOf i).toNat)
  case atStart => exact ⟨1, by omega, by omega, rfl, Below.refl _ _, fun j _ h => by omega⟩
  case round =>
    obtain ⟨k, hk, hk1, rfl, hbel, hall⟩ := hrel
    have Hall := Lib.hid hall; clear hall
    by_cases hlt : k < l.length
    · have a1 := R.out.below (hbel.mono hB)
      obtain ⟨b1, o1, rfl, hb1, _⟩ := a1.at (by rw [ints_length]; omega)
      obtain ⟨m, rfl⟩ : ∃ m, k = m + 1 := ⟨k - 1, by omega⟩
      have c10 := a1.cell m _ (ints_at l m (by omega))
      have c11 := a1.cell (m + 1) _ (ints_at l (m + 1) hlt)
      have hk0 : ((m + 1 : Nat) : Int) < (l.length : Int) := by omega
      have hk2 : (((m + 1 : Nat) : Int) - 1) = (m : Int) := by omega
      have hk3 : (m : Int) < (l.length : Int) := by omega
      have hm0 : (0 : Int) ≤ (m : Int) := by omega
      have Hno := Lib.hid (isSetI_not l m hlt)
      have Hst := Lib.hid (fun (h : l[m] < l[m + 1]) j (h1 : j + 1 < l.length) (h2 : j + 1 < m + 1 + 1) => if e : j + 1 = m + 1 then (by obtain rfl : j = m := by omega
                                                                                                                                         exact h) else Hall.out j h1 (by omega))
      clear a1
      generalize l[m] = x at *
      generalize l[m + 1] = y at *
      by_cases hxy : x < y
      · have hless : decide (y ≤ x) = false := decide_eq_false (by omega)
        replace Hst := Lib.hid (Hst.out hxy)
        clear hxy Hno Hall
        go_wp2_with fail
        go_region
        all_goals
          go_wp2_with fail
          go_roundw
          case rel => exact ⟨m + 1 + 1, by omega, by omega, by go_num, by first | exact hbel.drew | exact hbel, Hst.out⟩
          case measure => simp [intOf]; omega
      · have hless : decide (y ≤ x) = true := decide_eq_true (by omega)
        replace Hno := Lib.hid (Hno.out hxy)
        clear hxy Hst Hall
        go_wp2_with fail
        go_region
        all_goals
          go_wp2_with fail
          go_ret
          exact ⟨ret_boolP (decide_eq_false Hno.out).symm, by first | exact hbel.drew | exact hbel⟩
    · have hs := Lib.hid (isSetI_chain l fun j h1 => Hall.out j h1 (by omega))
      have hge : (l.length : Int) ≤ (k : Int) := by omega
      go_wp2_with fail
      go_ret
      exact ⟨ret_boolP (decide_eq_true hs.out).symm, hbel⟩
set_option maxHeartbeats 1000000 in
theorem madeI_any (v : Value) (l : List Int) (base : Nat) (w : World) (hb : base ≤ w.heap.size) (hown : w.ownsRow base 3 1 v l.length (ints l)) (hl : l.length ≤ 1000000) :
    Calls Try.prog 50 #[v] w (SetI base w (toSetI l)) := by
  have hr := Lib.hid (risesI_any v l _ w (Nat.le_refl _) (Row.of_owns hown))
  have Hown := Lib.hid hown
  by_cases hs : IsSet l
  · rw [decide_eq_true hs] at hr
    have Hs := Lib.hid hs
    clear hown hs
    go_enter Try.func50, Try.ntmps50
    go_wp2_with fail
    refine (hr.out).mono ?_
    rintro e w1 ⟨rfl, hb1⟩
    go_wp2_with fail
    go_ret
    exact ⟨_, rfl, by rw [toSetI_id Hs.out]; exact owns_belowP Hown.out hb1, hb1.mono hb⟩
  · rw [decide_eq_false hs] at hr
    have hne : v ≠ .slice none 0 0 := by
      intro e
      have h0 : l.length = 0 := by
        obtain ⟨ao, c, hv, _⟩ := owns_valP hown
        rw [e] at hv; simp at hv; omega
      apply hs
      rw [List.length_eq_zero_iff.1 h0]
      exact List.Pairwise.nil
    clear hs
    go_enter Try.func50, Try.ntmps50
    go_wp2_with fail
    refine (hr.out).mono ?_
    rintro e w1 ⟨rfl, hb1⟩
    have hown1 := owns_belowP hown hb1
    have Hown1 := Lib.hid hown1
    obtain ⟨g, cap, rfl, hbg, hg1, hncap, hcm, _, hH1⟩ := Lib.holds_of_ownsRow hown1 hne
    rcases hown1.2 with ⟨hv, _⟩ | ⟨g', cap', cur, hv, hbg', hcur, h1, h2, h3, h4⟩
    · cases hv
    simp only [Value.slice.injEq, Option.some.injEq, Addr.mk.injEq, and_true, true_and] at hv
    obtain ⟨rfl, rfl⟩ := hv
    have hsort := Lib.hid (Try.slices_Sort_int g 0 cap l w1 hH1 hg1 (by omega))
    have Hb1 := Lib.hid hb1; have Hcur := Lib.hid hcur; have H3 := Lib.hid h3
    clear hb1 hcur h3 h4 hH1 hown1 hown hne
    go_wp2_with fail
    refine (hsort.out).mono ?_
    rintro e w2 ⟨rfl, n, os, hw2⟩
    have hown2 : w2.ownsRow base 3 1 (.slice (some ⟨g, 0, none⟩) l.length cap) l.length (ints (l.mergeSort fun x y => decide (x ≤ y))) := by
      rw [hw2]
      have h5 := Lib.ownsRow_putRow (q := n) (k := l.length) (ys := l.mergeSort fun x y => decide (x ≤ y)) Hown1.out (by rw [List.length_mergeSort]) (Nat.le_refl _)
      rw [List.take_of_length_le (by rw [List.length_mergeSort]; exact Nat.le_refl _)] at h5
      exact owns_belowP h5 (below_growP _ _)
    have hb2 : Below base w w2 := by
      rw [hw2]
      exact (Lib.below_putRow (Hb1.out.mono hb) hbg).trans ((below_growP _ _).mono (by have := Hb1.out.size; simp [Sort.putRow, Sort.mapBlock, Sort.ahead]; omega))
    have hH2 := Lib.holds_of_ownsRow (zs := l.mergeSort fun x y => decide (x ≤ y)) hown2 (by simp)
    obtain ⟨g2, cap2, hv2, _, hg2, _, _, _, hH2⟩ := hH2
    simp only [Value.slice.injEq, Option.some.injEq, Addr.mk.injEq, and_true, true_and] at hv2
    obtain ⟨rfl, rfl⟩ := hv2
    have hcom := Try.slices_Compact_int g 0 cap (l.mergeSort fun x y => decide (x ≤ y)) w2 hH2 (by rw [List.length_mergeSort]; omega) (by rw [List.length_mergeSort]; omega)
    rw [List.length_mergeSort] at hcom
    have hcom := Lib.hid hcom
    clear hH2
    have Hown2 := Lib.hid hown2; have Hb2 := Lib.hid hb2; clear hown2 hb2 hw2
    go_wp2_with fail
    refine (hcom.out).mono ?_
    rintro e w3 ⟨rfl, q, rfl⟩
    go_wp2_with fail
    go_ret
    have hlen : (Go.Lib.compact (l.mergeSort fun x y => decide (x ≤ y))).length ≤ l.length := by
      have := compact_len (l.mergeSort fun x y => decide (x ≤ y)); rw [List.length_mergeSort] at this; exact this
    refine ⟨_, rfl, ?_, Lib.below_putRow Hb2.out hbg⟩
    have := Lib.ownsRow_putRow (q := q) (k := (Go.Lib.compact (l.mergeSort fun x y => decide (x ≤ y))).length) (ys := Go.Lib.compact (l.mergeSort fun x y => decide (x ≤ y)) ++ List.replicate (l.length - (Go.Lib.compact (l.mergeSort fun x y => decide (x ≤ y))).length) 0) Hown2.out (by simp; omega) hlen
    rw [List.take_left] at this
    exact this

theorem int_ext_take (a b : List Int) (hl : a.length = b.length) (h : ∀ j (h1 : j < a.length) (h2 : j < b.length), a[j] = b[j]) : a = b := List.ext_getElem hl h

set_option maxHeartbeats 1000000 in
theorem sameInts_any (v1 v2 : Value) (a b : List Int) (B1 B2 : Nat) (w : World) (hB1 : B1 ≤ w.heap.size) (hB2 : B2 ≤ w.heap.size) (r1 : Row w B1 1 v1 a.length (ints a)) (r2 : Row w B2 1 v2 b.length (ints b)) :
    Calls Try.prog 24 #[v1, v2] w (BoolB w (decide (a = b))) := by
  obtain ⟨ao, c, rfl, hc1, hc2⟩ := r1.val
  obtain ⟨bo, d, rfl, hd1, hd2⟩ := r2.val
  unfold maxLen at hc2 hd2
  have hl63 : a.length ≤ 9223372036854775807 := by omega
  have hl64 : b.length ≤ 9223372036854775807 := by omega
  have R1 := Lib.hid r1; have R2 := Lib.hid r2
  clear r1 r2
  by_cases hlen : a.length = b.length
  · have q1 : decide (a.length = b.length) = true := decide_eq_true hlen
    rw [← hlen]
    rw [← hlen] at R2
    have Hlen := Lib.hid hlen; clear hlen
    go_enter Try.func24, Try.ntmps24
    go_wp2_with fail
    go_loopw [5] (fun i wr => ∃ k : Nat, k ≤ a.length ∧ i = .int .i64 k ∧ Below w.heap.size w wr ∧ (∀ j (h1 : j < a.length) (h2 : j < b.length), j < k → a[j] = b[j])) (fun i _ => a.length - (intOf i).toNat)
    case atStart => exact ⟨0, Nat.zero_le _, rfl, Below.refl _ _, fun j _ _ h => by omega⟩
    case round =>
      obtain ⟨k, hk, rfl, hbel, hall⟩ := hrel
      have Hall := Lib.hid hall; clear hall
      by_cases hlt : k < a.length
      · have a1 := R1.out.below (hbel.mono hB1)
        have a2 := R2.out.below (hbel.mono hB2)
        have hltb : k < b.length := by rw [← Hlen.out]; exact hlt
        obtain ⟨b1, o1, rfl, hb1, _⟩ := a1.at (by rw [ints_length]; omega)
        obtain ⟨b2, o2, rfl, hb2, _⟩ := a2.at (by rw [ints_length]; omega)
        have c10 := a1.cell k _ (ints_at a k hlt)
        have c20 := a2.cell k _ (ints_at b k hltb)
        have hk0 : (k : Int) < (a.length : Int) := by omega
        have hk1 : (0 : Int) ≤ (k : Int) := by omega
        have Hst := Lib.hid (fun (h : a[k] = b[k]) j (h1 : j < a.length) (h2 : j < b.length) (h3 : j < k + 1) => if e : j = k then (by subst e; exact h) else Hall.out j h1 h2 (by omega))
        have Hno : Hid (a[k] ≠ b[k] → a ≠ b) := Lib.hid (fun h e => h (by subst e; rfl))
        clear a1 a2 Hall
        generalize a[k] = x at *
        generalize b[k] = y at *
        by_cases hxy : x = y
        · replace Hst := Lib.hid (Hst.out hxy)
          have hq : (x == y) = true := by simpa using hxy
          clear hxy Hno
          go_wp2_with fail
          go_region
          all_goals
            go_wp2_with fail
            go_roundw
            case rel => exact ⟨k + 1, hlt, by go_num, by first | exact hbel.drew | exact hbel, Hst.out⟩
            case measure => simp [intOf]; omega
        · replace Hno := Lib.hid (Hno.out hxy)
          have hq : (x == y) = false := by simpa using hxy
          clear hxy Hst
          go_wp2_with fail
          go_region
          all_goals
            go_wp2_with fail
            go_ret
            exact ⟨ret_boolP (decide_eq_false Hno.out).symm, by first | exact hbel.drew | exact hbel⟩
      · obtain rfl : k = a.length := by omega
        have hs := Lib.hid (int_ext_take a b Hlen.out fun j h1 h2 => Hall.out j h1 h2 h1)
        go_wp2_with fail
        go_ret
        exact ⟨ret_boolP (decide_eq_true hs.out).symm, hbel⟩
  · have q1 : decide (a.length = b.length) = false := decide_eq_false hlen
    have hne : a ≠ b := fun e => hlen (by rw [e])
    have Hne := Lib.hid hne; clear hne
    go_enter Try.func24, Try.ntmps24
    go_wp2_with fail
    go_ret
    exact ⟨ret_boolP (decide_eq_false Hne.out).symm, Below.refl _ _⟩
set_option maxHeartbeats 1000000 in
theorem hasInt_any (v : Value) (l : List Int) (t : Int) (B : Nat) (w : World) (hB : B ≤ w.heap.size) (r : Row w B 1 v l.length (ints l)) :
    Calls Try.prog 51 #[v, .int .i64 t] w (BoolB w (decide (t ∈ l))) := by
  obtain ⟨ao, c, rfl, hc1, hc2⟩ := r.val
  have hl63 : l.length ≤ 9223372036854775807 := by unfold maxLen at hc2; omega
  have R := Lib.hid r
  clear r
  go_enter Try.func51, Try.ntmps51
  go_wp2_with fail
  go_loopw [5] (fun i wr => ∃ k : Nat, k ≤ l.length ∧ i = .int .i64 k ∧ Below w.heap.size w wr ∧ t ∉ l.take k) (fun i _ => l.length - (intOf i).toNat)
  case atStart => exact ⟨0, Nat.zero_le _, rfl, Below.refl _ _, by simp⟩
  case round =>
    obtain ⟨k, hk, rfl, hbel, hall⟩ := hrel
    have Hall := Lib.hid hall; clear hall
    by_cases hlt : k < l.length
    · have a1 := R.out.below (hbel.mono hB)
      obtain ⟨b1, o1, rfl, hb1, _⟩ := a1.at (by rw [ints_length]; omega)
      have c10 := a1.cell k _ (ints_at l k hlt)
      have hk0 : (k : Int) < (l.length : Int) := by omega
      have hk1 : (0 : Int) ≤ (k : Int) := by omega
      have Hin : Hid (l[k] = t → t ∈ l) := Lib.hid fun e => by rw [← e]; exact List.getElem_mem hlt
      have Hst : Hid (l[k] ≠ t → t ∉ l.take (k + 1)) := Lib.hid fun e => by
        rw [List.take_succ_eq_append_getElem hlt, List.mem_append]
        rintro (h | h)
        · exact Hall.out h
        · exact e (List.mem_singleton.1 h).symm
      clear a1 Hall
      generalize l[k] = x at *
      by_cases hxt : x = t
      · replace Hin := Lib.hid (Hin.out hxt)
        have hq : (x == t) = true := by simpa using hxt
        clear hxt Hst
        go_wp2_with fail
        go_ret
        exact ⟨ret_boolP (decide_eq_true Hin.out).symm, hbel⟩
      · replace Hst := Lib.hid (Hst.out hxt)
        have hq : (x == t) = false := by simpa using hxt
        clear hxt Hin
        go_wp2_with fail
        go_roundw
        case rel => exact ⟨k + 1, hlt, by go_num, hbel, Hst.out⟩
        case measure => simp [intOf]; omega
    · obtain rfl : k = l.length := by omega
      have H : Hid (t ∉ l) := Lib.hid (by have := Hall.out; rw [List.take_length] at this; exact this)
      clear Hall
      go_wp2_with fail
      go_ret
      exact ⟨ret_boolP (decide_eq_false H.out).symm, hbel⟩

end Go.Proofs.Ytbmaappambmhoaa
