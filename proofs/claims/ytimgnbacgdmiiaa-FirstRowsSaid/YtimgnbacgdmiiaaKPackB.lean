/-
  pack.made, Make, Is of texts; the base's SameTexts; the statements' few.
-/
import Derived.Test.YtimgnbacgdmiiaaKPackA
namespace Go.Proofs.Ytimgnbacgdmiiaa
open Go.RowKit PK Go.Sort
set_option linter.unusedVariables false

theorem owns_belowPK {w w' : World} {base e size v n xs} (h : w.ownsRow base e size v n xs) (hb : Below w.heap.size w w') : w'.ownsRow base e size v n xs := by
  refine ⟨h.1, ?_⟩
  rcases h.2 with hn | ⟨g, cap, cur, rfl, hb', hg, rest⟩
  · exact .inl hn
  · refine .inr ⟨g, cap, cur, rfl, hb', ?_, rest⟩
    rw [hb.block g (Array.getElem?_eq_some_iff.1 hg).1]
    exact hg
theorem owns_basePK {w : World} {base base' e size v n xs} (h : w.ownsRow base e size v n xs) (hb : base' ≤ base) : w.ownsRow base' e size v n xs := by
  refine ⟨h.1, ?_⟩
  rcases h.2 with hn | ⟨g, cap, cur, rfl, hb', rest⟩
  · exact .inl hn
  · exact .inr ⟨g, cap, cur, rfl, by omega, rest⟩
theorem owns_valPK {w : World} {base e size v n xs} (h : w.ownsRow base e size v n xs) : ∃ ao c, v = .slice ao n c ∧ n ≤ c ∧ c ≤ maxLen := by
  rcases h.2 with ⟨rfl, rfl⟩ | ⟨g, cap, cur, rfl, hb', hg, h1, h2, _⟩
  · exact ⟨none, 0, rfl, Nat.le_refl _, Nat.zero_le _⟩
  · exact ⟨_, cap, rfl, h1, h2⟩
theorem compact_len {α : Type} [Inhabited α] [DecidableEq α] (l : List α) : (Go.Lib.compact l).length ≤ l.length := by
  unfold Go.Lib.compact Go.Lib.compactUpTo
  rw [List.length_map]
  refine Nat.le_trans (List.length_filter_le _ _) ?_
  simp
theorem toSet_len (l : List Tx) : (toSet l).length ≤ l.length := by
  unfold toSet; refine Nat.le_trans (compact_len _) ?_; rw [List.length_mergeSort]; exact Nat.le_refl _
/-- A set of its own. -/
def SetT (base : Nat) (w : World) (l : List Tx) (en : Ending) (w' : World) : Prop := ∃ v, en = .returned v ∧ w'.ownsRow base 9 1 v l.length (svt l) ∧ Below base w w'

set_option maxHeartbeats 1000000 in
theorem made_any (v : Value) (l : List Tx) (base : Nat) (w : World) (hb : base ≤ w.heap.size) (hown : w.ownsRow base 9 1 v l.length (svt l)) (hl : l.length ≤ 1000000) :
    Calls Try.prog 93 #[v] w (SetT base w (toSet l)) := by
  have hr := Lib.hid (rises_any v l _ w (Nat.le_refl _) (Row.of_owns hown))
  have Hown := Lib.hid hown
  by_cases hs : IsSet l
  · rw [decide_eq_true hs] at hr
    have Hs := Lib.hid hs
    clear hown hs
    go_enter Try.func93, Try.ntmps93
    go_wp2_with fail
    refine (hr.out).mono ?_
    rintro e w1 ⟨rfl, hb1⟩
    go_wp2_with fail
    go_ret
    exact ⟨_, rfl, by rw [toSet_id Hs.out]; exact owns_belowPK Hown.out hb1, hb1.mono hb⟩
  · rw [decide_eq_false hs] at hr
    have hne : v ≠ .slice none 0 0 := by
      intro e
      have h0 : l.length = 0 := by
        obtain ⟨ao, c, hv, _⟩ := owns_valPK hown
        rw [e] at hv; simp at hv; omega
      apply hs
      rw [List.length_eq_zero_iff.1 h0]
      exact List.Pairwise.nil
    clear hs
    go_enter Try.func93, Try.ntmps93
    go_wp2_with fail
    refine (hr.out).mono ?_
    rintro e w1 ⟨rfl, hb1⟩
    have hown1 := owns_belowPK hown hb1
    obtain ⟨g, cap, rfl, hbg, hg1, hncap, hcm, _, hH1⟩ := Lib.holds_of_ownsRow hown1 hne
    rcases hown1.2 with ⟨hv, _⟩ | ⟨g', cap', cur, hv, hbg', hcur, h1, h2, h3, h4⟩
    · cases hv
    simp only [Value.slice.injEq, Option.some.injEq, Addr.mk.injEq, and_true, true_and] at hv
    obtain ⟨rfl, rfl⟩ := hv
    have hsort := Lib.hid (Try.slices_Sort_string g 0 cap l w1 hH1 hg1 (by omega))
    have Hb1 := Lib.hid hb1; have Hcur := Lib.hid hcur; have H3 := Lib.hid h3
    clear hb1 hcur h3 h4 hH1 hown1 hown hne
    go_wp2_with fail
    refine (hsort.out).mono ?_
    rintro e w2 ⟨rfl, n, os, hw2⟩
    have hown2 : w2.ownsRow base 9 1 (.slice (some ⟨g, 0, none⟩) l.length cap) l.length (svt (l.mergeSort fun x y => decide (x ≤ y))) := by
      rw [hw2]; exact ownsRow_sorted (by rw [List.length_mergeSort]) hbg Hcur.out hncap hcm H3.out
    have hb2 : Below base w w2 := by
      rw [hw2]
      exact (Hb1.out.mono hb).grown (grownBy_sorted _) (by have := Hb1.out.size; omega) (fun k hk => by cases hk; exact hbg)
    have hH2 := Lib.holds_of_ownsRow (zs := l.mergeSort fun x y => decide (x ≤ y)) hown2 (by simp)
    obtain ⟨g2, cap2, hv2, _, hg2, _, _, _, hH2⟩ := hH2
    simp only [Value.slice.injEq, Option.some.injEq, Addr.mk.injEq, and_true, true_and] at hv2
    obtain ⟨rfl, rfl⟩ := hv2
    have hcom := Try.slices_Compact_string g 0 cap (l.mergeSort fun x y => decide (x ≤ y)) w2 hH2 (by rw [List.length_mergeSort]; omega) (by rw [List.length_mergeSort]; omega)
    rw [List.length_mergeSort] at hcom
    have hcom := Lib.hid hcom
    clear hH2
    have Hown2 := Lib.hid hown2; have Hb2 := Lib.hid hb2; clear hown2 hb2 hw2
    go_wp2_with fail
    refine (hcom.out).mono ?_
    rintro e w3 ⟨rfl, q, rfl⟩
    go_wp2_with fail
    go_ret
    have hlen : (Go.Lib.compact (l.mergeSort fun x y => decide (x ≤ y))).length ≤ l.length := by
      have := compact_len (l.mergeSort fun x y => decide (x ≤ y)); rw [List.length_mergeSort] at this; exact this
    refine ⟨_, rfl, ?_, Lib.below_putRow Hb2.out hbg⟩
    have := Lib.ownsRow_putRow (q := q) (k := (Go.Lib.compact (l.mergeSort fun x y => decide (x ≤ y))).length) (ys := Go.Lib.compact (l.mergeSort fun x y => decide (x ≤ y)) ++ List.replicate (l.length - (Go.Lib.compact (l.mergeSort fun x y => decide (x ≤ y))).length) []) Hown2.out (by simp; omega) hlen
    rw [List.take_left] at this
    exact this

/-- slices.Clone of texts that are given. -/
theorem cloneT_any (v : Value) (l : List Tx) (B : Nat) (w : World) (hB : B ≤ w.heap.size) (r : Row w B 1 v l.length (svt l)) (hl : l.length ≤ 1000000) :
    Calls Try.prog 83 #[v] w (OwnT w l) := by
  obtain ⟨ao, c, rfl, hc1, hc2⟩ := r.val
  rcases Nat.eq_zero_or_pos l.length with h0 | h0
  · obtain rfl := List.length_eq_zero_iff.1 h0
    cases ao with
    | none =>
      refine (Try.slices_Clone_string_nil _ _ w).mono ?_
      rintro e w' ⟨rfl, rfl⟩
      exact ⟨_, rfl, World.ownsRow_nil _ _ _ _, Below.refl _ _⟩
    | some a =>
      refine (Try.slices_Clone_string_zero a _ w).mono ?_
      rintro e w' ⟨v', rfl, h1, _, h2⟩
      exact ⟨_, rfl, h1, h2⟩
  · obtain ⟨b, o, rfl, hb, hc⟩ := r.at (by rw [svt_length]; exact h0)
    refine (Try.slices_Clone_string b o l.length c (l.map fun x => ⟨x.toArray⟩) w (by simp) (by omega) (fun j hj => ?_)).mono ?_
    · have hj' : j < l.length := by simpa using hj
      rw [hc j _ (svt_at l j hj')]
      simp [List.getD, hj']
    · rintro e w' ⟨v', rfl, h1, _, h2⟩
      refine ⟨_, rfl, ?_, h2⟩
      rw [List.take_of_length_le (by simp), List.map_map] at h1
      exact h1

theorem packMake_any (v : Value) (l : List Tx) (B : Nat) (w : World) (hB : B ≤ w.heap.size) (r : Row w B 1 v l.length (svt l)) (hl : l.length ≤ 1000000) :
    Calls Try.prog 69 #[v] w (OwnT w (toSet l)) := by
  have hcl := Lib.hid (cloneT_any v l B w hB r hl)
  clear r
  go_enter Try.func69, Try.ntmps69
  go_wp2_with fail
  refine (hcl.out).mono ?_
  rintro e w1 ⟨v1, rfl, hown1, hb1⟩
  go_wp2_with fail
  refine (made_any v1 l w.heap.size w1 hb1.size hown1 hl).mono ?_
  rintro e w2 ⟨v2, rfl, hown2, hb2⟩
  go_wp2_with fail
  go_ret
  exact ⟨_, rfl, hown2, hb1.trans hb2⟩

theorem tx_ext_take (a b : List Tx) (hl : a.length = b.length) (h : ∀ j (h1 : j < a.length) (h2 : j < b.length), a[j] = b[j]) : a = b := List.ext_getElem hl h

set_option maxHeartbeats 1000000 in
theorem sameTexts_any (v1 v2 : Value) (a b : List Tx) (B1 B2 : Nat) (w : World) (hB1 : B1 ≤ w.heap.size) (hB2 : B2 ≤ w.heap.size) (r1 : Row w B1 1 v1 a.length (svt a)) (r2 : Row w B2 1 v2 b.length (svt b)) :
    Calls Try.prog 13 #[v1, v2] w (BoolB w (decide (a = b))) := by
  obtain ⟨ao, c, rfl, hc1, hc2⟩ := r1.val
  obtain ⟨bo, d, rfl, hd1, hd2⟩ := r2.val
  unfold maxLen at hc2 hd2
  have hl63 : a.length ≤ 9223372036854775807 := by omega
  have hl64 : b.length ≤ 9223372036854775807 := by omega
  have R1 := Lib.hid r1; have R2 := Lib.hid r2
  clear r1 r2
  by_cases hlen : a.length = b.length
  · have q1 : decide (a.length = b.length) = true := decide_eq_true hlen
    rw [← hlen]
    rw [← hlen] at R2
    have Hlen := Lib.hid hlen; clear hlen
    go_enter Try.func13, Try.ntmps13
    go_wp2_with fail
    go_loopw [5] (fun i wr => ∃ k : Nat, k ≤ a.length ∧ i = .int .i64 k ∧ Below w.heap.size w wr ∧ (∀ j (h1 : j < a.length) (h2 : j < b.length), j < k → a[j] = b[j])) (fun i _ => a.length - (intOf i).toNat)
    case atStart => exact ⟨0, Nat.zero_le _, rfl, Below.refl _ _, fun j _ _ h => by omega⟩
    case round =>
      obtain ⟨k, hk, rfl, hbel, hall⟩ := hrel
      have Hall := Lib.hid hall; clear hall
      by_cases hlt : k < a.length
      · have a1 := R1.out.below (hbel.mono hB1)
        have a2 := R2.out.below (hbel.mono hB2)
        have hltb : k < b.length := by rw [← Hlen.out]; exact hlt
        obtain ⟨b1, o1, rfl, hb1, _⟩ := a1.at (by rw [svt_length]; omega)
        obtain ⟨b2, o2, rfl, hb2, _⟩ := a2.at (by rw [svt_length]; omega)
        have c10 := a1.cell k _ (svt_at a k hlt)
        have c20 := a2.cell k _ (svt_at b k hltb)
        have hk0 : (k : Int) < (a.length : Int) := by omega
        have hk1 : (0 : Int) ≤ (k : Int) := by omega
        have Hst := Lib.hid (fun (h : a[k] = b[k]) j (h1 : j < a.length) (h2 : j < b.length) (h3 : j < k + 1) => if e : j = k then (by subst e; exact h) else Hall.out j h1 h2 (by omega))
        have Hno : Hid (a[k] ≠ b[k] → a ≠ b) := Lib.hid (fun h e => h (by subst e; rfl))
        clear a1 a2 Hall
        generalize a[k] = x at *
        generalize b[k] = y at *
        by_cases hxy : x = y
        · replace Hst := Lib.hid (Hst.out hxy)
          have hq : (x == y) = true := by simpa using hxy
          clear hxy Hno
          go_wp2_with fail
          go_region
          all_goals
            go_wp2_with fail
            go_roundw
            case rel => exact ⟨k + 1, hlt, by go_num, by first | exact hbel.drew | exact hbel, Hst.out⟩
            case measure => simp [intOf]; omega
        · replace Hno := Lib.hid (Hno.out hxy)
          have hq : (x == y) = false := by simpa using hxy
          clear hxy Hst
          go_wp2_with fail
          go_region
          all_goals
            go_wp2_with fail
            go_ret
            exact ⟨ret_boolP (decide_eq_false Hno.out).symm, by first | exact hbel.drew | exact hbel⟩
      · obtain rfl : k = a.length := by omega
        have hs := Lib.hid (tx_ext_take a b Hlen.out fun j h1 h2 => Hall.out j h1 h2 h1)
        go_wp2_with fail
        go_ret
        exact ⟨ret_boolP (decide_eq_true hs.out).symm, hbel⟩
  · have q1 : decide (a.length = b.length) = false := decide_eq_false hlen
    have hne : a ≠ b := fun e => hlen (by rw [e])
    have Hne := Lib.hid hne; clear hne
    go_enter Try.func13, Try.ntmps13
    go_wp2_with fail
    go_ret
    exact ⟨ret_boolP (decide_eq_false Hne.out).symm, Below.refl _ _⟩
end Go.Proofs.Ytimgnbacgdmiiaa
