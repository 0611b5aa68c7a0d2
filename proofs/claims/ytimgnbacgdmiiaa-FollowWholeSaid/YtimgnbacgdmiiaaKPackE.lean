/-
  Lists of texts in a world; pack.rises, made, Make, Is of texts; the base's SameTexts.
  pack.made, Make, Is of texts; the base's SameTexts; the statements' few.
  A text put behind a row of its own, within a region that draws; the statements' few; the document's Has.
  The document's sets: Has, Put, Make, Join, Meet.
  The document's Make, Join, Meet: walked.
-/
import Derived.Test.YtimgnbacgdmiiaaRows
import Derived.Test.YtimgnbacgdmiiaaSlB
import Derived.Test.YtimgnbacgdmiiaaGen
import Derived.Test.YtimgnbacgdmiiaaShelf
import Derived.Test.YtimgnbacgdmiiaaPackM
import Derived.Lib.OwnBridge
import Derived.Sort.OwnSorted
import Derived.Laws.Cover1
namespace Go.Proofs.Ytimgnbacgdmiiaa
open Go.RowKit PK
set_option linter.unusedVariables false

/-- Texts as cells. -/
def svt (l : List Tx) : List Value := l.map encStr
theorem svt_length (l : List Tx) : (svt l).length = l.length := by simp [svt]
theorem svt_one (l : List Tx) : ∀ u ∈ svt l, u.oneCell' = true := by
  intro u hu; obtain ⟨b, _, rfl⟩ := List.mem_map.1 hu; rfl
theorem svt_at (l : List Tx) (j : Nat) (hj : j < l.length) : (svt l)[j]? = some (.string ⟨l[j].toArray⟩) := by simp [svt, hj]
theorem svt_append (a b : List Tx) : svt (a ++ b) = svt a ++ svt b := by simp [svt]
theorem svt_take (l : List Tx) (k : Nat) : (svt l).take k = svt (l.take k) := by simp [svt, List.map_take]
theorem svt_drop (l : List Tx) (k : Nat) : (svt l).drop k = svt (l.drop k) := by simp [svt, List.map_drop]
theorem tx_list (x : Tx) : (ByteArray.mk x.toArray).toList = x := by rw [Lib.toList_data]
theorem tx_less (x y : Tx) : Op.bytesLess (ByteArray.mk x.toArray).toList (ByteArray.mk y.toArray).toList = decide (x < y) := by rw [bytesLess_eq, tx_list, tx_list]
theorem tx_beq (x y : Tx) : ((ByteArray.mk x.toArray).toList == (ByteArray.mk y.toArray).toList) = (x == y) := by rw [tx_list, tx_list]
theorem tx_size (x : Tx) : (ByteArray.mk x.toArray).size = x.length := by show x.toArray.size = _; simp
theorem info_str : (Try.prog.info? 9).map (fun i => (i.zero, i.size, i.bytes)) = some (some (.string ByteArray.empty), 1, 16) := by kernel_rfl
/-- A row of texts of its own, made by a call that began in w. -/
def OwnT (w : World) (l : List Tx) (en : Ending) (w' : World) : Prop := ∃ v, en = .returned v ∧ w'.ownsRow w.heap.size 9 1 v l.length (svt l) ∧ Below w.heap.size w w'
instance (l : List Tx) : Decidable (IsSet l) := inferInstanceAs (Decidable (l.Pairwise (· < ·)))
theorem isSet_chain (l : List Tx) (h : ∀ j (h1 : j + 1 < l.length), l[j] < l[j + 1]) : IsSet l := by
  unfold IsSet
  rw [List.pairwise_iff_getElem]
  intro i j hi hj hij
  induction j with
  | zero => omega
  | succ j ih =>
    rcases Nat.lt_or_ge i j with h1 | h1
    · exact tx_trans (ih (by omega) h1) (h j hj)
    · obtain rfl : i = j := by omega
      exact h i hj
theorem isSet_not (l : List Tx) (j : Nat) (h1 : j + 1 < l.length) (h : ¬ l[j] < l[j + 1]) : ¬ IsSet l := fun hs => h ((List.pairwise_iff_getElem.1 hs) j (j + 1) (by omega) h1 (by omega))

set_option maxHeartbeats 1000000 in
theorem rises_any (v : Value) (l : List Tx) (B : Nat) (w : World) (hB : B ≤ w.heap.size) (r : Row w B 1 v l.length (svt l)) :
    Calls Try.prog 106 #[v] w (BoolB w (decide (IsSet l))) := by
  obtain ⟨ao, c, rfl, hc1, hc2⟩ := r.val
  have hl63 : l.length ≤ 9223372036854775807 := by unfold maxLen at hc2; omega
  have R := Lib.hid r
  clear r
  go_enter Try.func106, Try.ntmps106
  go_wp2_with fail
  go_loopw [3] (fun i wr => ∃ k : Nat, k ≤ l.length + 1 ∧ 1 ≤ k ∧ i = .int .i64 k ∧ Below w.heap.size w wr ∧ (∀ j (h1 : j + 1 < l.length), j + 1 < k → l[j] < l[j + 1])) (fun i _ => l.length + 1 - (intOf i).toNat)
  case atStart => exact ⟨1, by omega, by omega, rfl, Below.refl _ _, fun j _ h => by omega⟩
  case round =>
    obtain ⟨k, hk, hk1, rfl, hbel, hall⟩ := hrel
    have Hall := Lib.hid hall; clear hall
    by_cases hlt : k < l.length
    · have a1 := R.out.below (hbel.mono hB)
      obtain ⟨b1, o1, rfl, hb1, _⟩ := a1.at (by rw [svt_length]; omega)
      obtain ⟨m, rfl⟩ : ∃ m, k = m + 1 := ⟨k - 1, by omega⟩
      have c10 := a1.cell m _ (svt_at l m (by omega))
      have c11 := a1.cell (m + 1) _ (svt_at l (m + 1) hlt)
      have hk0 : ((m + 1 : Nat) : Int) < (l.length : Int) := by omega
      have hk2 : (((m + 1 : Nat) : Int) - 1) = (m : Int) := by omega
      have hk3 : (m : Int) < (l.length : Int) := by omega
      have hm0 : (0 : Int) ≤ (m : Int) := by omega
      have Hno := Lib.hid (isSet_not l m hlt)
      have Hst := Lib.hid (fun (h : l[m] < l[m + 1]) j (h1 : j + 1 < l.length) (h2 : j + 1 < m + 1 + 1) => if e : j + 1 = m + 1 then (by obtain rfl : j = m := by omega
                                                                                                                                         exact h) else Hall.out j h1 (by omega))
      clear a1
      have hless := bytesLess_eq l[m] l[m + 1]
      generalize l[m] = x at *
      generalize l[m + 1] = y at *
      by_cases hxy : x < y
      · rw [decide_eq_true hxy] at hless
        replace Hst := Lib.hid (Hst.out hxy)
        clear hxy Hno Hall
        go_wp2_with fail
        go_region
        all_goals
          go_wp2_with fail
          go_roundw
          case rel => exact ⟨m + 1 + 1, by omega, by omega, by go_num, by first | exact hbel.drew | exact hbel, Hst.out⟩
          case measure => simp [intOf]; omega
      · rw [decide_eq_false hxy] at hless
        replace Hno := Lib.hid (Hno.out hxy)
        clear hxy Hst Hall
        go_wp2_with fail
        go_region
        all_goals
          go_wp2_with fail
          go_ret
          exact ⟨ret_boolP (decide_eq_false Hno.out).symm, by first | exact hbel.drew | exact hbel⟩
    · have hs := Lib.hid (isSet_chain l fun j h1 => Hall.out j h1 (by omega))
      have hge : (l.length : Int) ≤ (k : Int) := by omega
      go_wp2_with fail
      go_ret
      exact ⟨ret_boolP (decide_eq_true hs.out).symm, hbel⟩
end Go.Proofs.Ytimgnbacgdmiiaa
namespace Go.Proofs.Ytimgnbacgdmiiaa
open Go.RowKit PK Go.Sort
set_option linter.unusedVariables false

theorem owns_belowPK {w w' : World} {base e size v n xs} (h : w.ownsRow base e size v n xs) (hb : Below w.heap.size w w') : w'.ownsRow base e size v n xs := by
  refine ⟨h.1, ?_⟩
  rcases h.2 with hn | ⟨g, cap, cur, rfl, hb', hg, rest⟩
  · exact .inl hn
  · refine .inr ⟨g, cap, cur, rfl, hb', ?_, rest⟩
    rw [hb.block g (Array.getElem?_eq_some_iff.1 hg).1]
    exact hg
theorem owns_basePK {w : World} {base base' e size v n xs} (h : w.ownsRow base e size v n xs) (hb : base' ≤ base) : w.ownsRow base' e size v n xs := by
  refine ⟨h.1, ?_⟩
  rcases h.2 with hn | ⟨g, cap, cur, rfl, hb', rest⟩
  · exact .inl hn
  · exact .inr ⟨g, cap, cur, rfl, by omega, rest⟩
theorem owns_valPK {w : World} {base e size v n xs} (h : w.ownsRow base e size v n xs) : ∃ ao c, v = .slice ao n c ∧ n ≤ c ∧ c ≤ maxLen := by
  rcases h.2 with ⟨rfl, rfl⟩ | ⟨g, cap, cur, rfl, hb', hg, h1, h2, _⟩
  · exact ⟨none, 0, rfl, Nat.le_refl _, Nat.zero_le _⟩
  · exact ⟨_, cap, rfl, h1, h2⟩
theorem compact_len {α : Type} [Inhabited α] [DecidableEq α] (l : List α) : (Go.Lib.compact l).length ≤ l.length := by
  unfold Go.Lib.compact Go.Lib.compactUpTo
  rw [List.length_map]
  refine Nat.le_trans (List.length_filter_le _ _) ?_
  simp
theorem toSet_len (l : List Tx) : (toSet l).length ≤ l.length := by
  unfold toSet; refine Nat.le_trans (compact_len _) ?_; rw [List.length_mergeSort]; exact Nat.le_refl _
/-- A set of its own. -/
def SetT (base : Nat) (w : World) (l : List Tx) (en : Ending) (w' : World) : Prop := ∃ v, en = .returned v ∧ w'.ownsRow base 9 1 v l.length (svt l) ∧ Below base w w'

set_option maxHeartbeats 1000000 in
theorem made_any (v : Value) (l : List Tx) (base : Nat) (w : World) (hb : base ≤ w.heap.size) (hown : w.ownsRow base 9 1 v l.length (svt l)) (hl : l.length ≤ 1000000) :
    Calls Try.prog 93 #[v] w (SetT base w (toSet l)) := by
  have hr := Lib.hid (rises_any v l _ w (Nat.le_refl _) (Row.of_owns hown))
  have Hown := Lib.hid hown
  by_cases hs : IsSet l
  · rw [decide_eq_true hs] at hr
    have Hs := Lib.hid hs
    clear hown hs
    go_enter Try.func93, Try.ntmps93
    go_wp2_with fail
    refine (hr.out).mono ?_
    rintro e w1 ⟨rfl, hb1⟩
    go_wp2_with fail
    go_ret
    exact ⟨_, rfl, by rw [toSet_id Hs.out]; exact owns_belowPK Hown.out hb1, hb1.mono hb⟩
  · rw [decide_eq_false hs] at hr
    have hne : v ≠ .slice none 0 0 := by
      intro e
      have h0 : l.length = 0 := by
        obtain ⟨ao, c, hv, _⟩ := owns_valPK hown
        rw [e] at hv; simp at hv; omega
      apply hs
      rw [List.length_eq_zero_iff.1 h0]
      exact List.Pairwise.nil
    clear hs
    go_enter Try.func93, Try.ntmps93
    go_wp2_with fail
    refine (hr.out).mono ?_
    rintro e w1 ⟨rfl, hb1⟩
    have hown1 := owns_belowPK hown hb1
    obtain ⟨g, cap, rfl, hbg, hg1, hncap, hcm, _, hH1⟩ := Lib.holds_of_ownsRow hown1 hne
    rcases hown1.2 with ⟨hv, _⟩ | ⟨g', cap', cur, hv, hbg', hcur, h1, h2, h3, h4⟩
    · cases hv
    simp only [Value.slice.injEq, Option.some.injEq, Addr.mk.injEq, and_true, true_and] at hv
    obtain ⟨rfl, rfl⟩ := hv
    have hsort := Lib.hid (Try.slices_Sort_string g 0 cap l w1 hH1 hg1 (by omega))
    have Hb1 := Lib.hid hb1; have Hcur := Lib.hid hcur; have H3 := Lib.hid h3
    clear hb1 hcur h3 h4 hH1 hown1 hown hne
    go_wp2_with fail
    refine (hsort.out).mono ?_
    rintro e w2 ⟨rfl, n, os, hw2⟩
    have hown2 : w2.ownsRow base 9 1 (.slice (some ⟨g, 0, none⟩) l.length cap) l.length (svt (l.mergeSort fun x y => decide (x ≤ y))) := by
      rw [hw2]; exact ownsRow_sorted (by rw [List.length_mergeSort]) hbg Hcur.out hncap hcm H3.out
    have hb2 : Below base w w2 := by
      rw [hw2]
      exact (Hb1.out.mono hb).grown (grownBy_sorted _) (by have := Hb1.out.size; omega) (fun k hk => by cases hk; exact hbg)
    have hH2 := Lib.holds_of_ownsRow (zs := l.mergeSort fun x y => decide (x ≤ y)) hown2 (by simp)
    obtain ⟨g2, cap2, hv2, _, hg2, _, _, _, hH2⟩ := hH2
    simp only [Value.slice.injEq, Option.some.injEq, Addr.mk.injEq, and_true, true_and] at hv2
    obtain ⟨rfl, rfl⟩ := hv2
    have hcom := Try.slices_Compact_string g 0 cap (l.mergeSort fun x y => decide (x ≤ y)) w2 hH2 (by rw [List.length_mergeSort]; omega) (by rw [List.length_mergeSort]; omega)
    rw [List.length_mergeSort] at hcom
    have hcom := Lib.hid hcom
    clear hH2
    have Hown2 := Lib.hid hown2; have Hb2 := Lib.hid hb2; clear hown2 hb2 hw2
    go_wp2_with fail
    refine (hcom.out).mono ?_
    rintro e w3 ⟨rfl, q, rfl⟩
    go_wp2_with fail
    go_ret
    have hlen : (Go.Lib.compact (l.mergeSort fun x y => decide (x ≤ y))).length ≤ l.length := by
      have := compact_len (l.mergeSort fun x y => decide (x ≤ y)); rw [List.length_mergeSort] at this; exact this
    refine ⟨_, rfl, ?_, Lib.below_putRow Hb2.out hbg⟩
    have := Lib.ownsRow_putRow (q := q) (k := (Go.Lib.compact (l.mergeSort fun x y => decide (x ≤ y))).length) (ys := Go.Lib.compact (l.mergeSort fun x y => decide (x ≤ y)) ++ List.replicate (l.length - (Go.Lib.compact (l.mergeSort fun x y => decide (x ≤ y))).length) []) Hown2.out (by simp; omega) hlen
    rw [List.take_left] at this
    exact this

/-- slices.Clone of texts that are given. -/
theorem cloneT_any (v : Value) (l : List Tx) (B : Nat) (w : World) (hB : B ≤ w.heap.size) (r : Row w B 1 v l.length (svt l)) (hl : l.length ≤ 1000000) :
    Calls Try.prog 83 #[v] w (OwnT w l) := by
  obtain ⟨ao, c, rfl, hc1, hc2⟩ := r.val
  rcases Nat.eq_zero_or_pos l.length with h0 | h0
  · obtain rfl := List.length_eq_zero_iff.1 h0
    cases ao with
    | none =>
      refine (Try.slices_Clone_string_nil _ _ w).mono ?_
      rintro e w' ⟨rfl, rfl⟩
      exact ⟨_, rfl, World.ownsRow_nil _ _ _ _, Below.refl _ _⟩
    | some a =>
      refine (Try.slices_Clone_string_zero a _ w).mono ?_
      rintro e w' ⟨v', rfl, h1, _, h2⟩
      exact ⟨_, rfl, h1, h2⟩
  · obtain ⟨b, o, rfl, hb, hc⟩ := r.at (by rw [svt_length]; exact h0)
    refine (Try.slices_Clone_string b o l.length c (l.map fun x => ⟨x.toArray⟩) w (by simp) (by omega) (fun j hj => ?_)).mono ?_
    · have hj' : j < l.length := by simpa using hj
      rw [hc j _ (svt_at l j hj')]
      simp [List.getD, hj']
    · rintro e w' ⟨v', rfl, h1, _, h2⟩
      refine ⟨_, rfl, ?_, h2⟩
      rw [List.take_of_length_le (by simp), List.map_map] at h1
      exact h1

theorem packMake_any (v : Value) (l : List Tx) (B : Nat) (w : World) (hB : B ≤ w.heap.size) (r : Row w B 1 v l.length (svt l)) (hl : l.length ≤ 1000000) :
    Calls Try.prog 69 #[v] w (OwnT w (toSet l)) := by
  have hcl := Lib.hid (cloneT_any v l B w hB r hl)
  clear r
  go_enter Try.func69, Try.ntmps69
  go_wp2_with fail
  refine (hcl.out).mono ?_
  rintro e w1 ⟨v1, rfl, hown1, hb1⟩
  go_wp2_with fail
  refine (made_any v1 l w.heap.size w1 hb1.size hown1 hl).mono ?_
  rintro e w2 ⟨v2, rfl, hown2, hb2⟩
  go_wp2_with fail
  go_ret
  exact ⟨_, rfl, hown2, hb1.trans hb2⟩

theorem tx_ext_take (a b : List Tx) (hl : a.length = b.length) (h : ∀ j (h1 : j < a.length) (h2 : j < b.length), a[j] = b[j]) : a = b := List.ext_getElem hl h

set_option maxHeartbeats 1000000 in
theorem sameTexts_any (v1 v2 : Value) (a b : List Tx) (B1 B2 : Nat) (w : World) (hB1 : B1 ≤ w.heap.size) (hB2 : B2 ≤ w.heap.size) (r1 : Row w B1 1 v1 a.length (svt a)) (r2 : Row w B2 1 v2 b.length (svt b)) :
    Calls Try.prog 13 #[v1, v2] w (BoolB w (decide (a = b))) := by
  obtain ⟨ao, c, rfl, hc1, hc2⟩ := r1.val
  obtain ⟨bo, d, rfl, hd1, hd2⟩ := r2.val
  unfold maxLen at hc2 hd2
  have hl63 : a.length ≤ 9223372036854775807 := by omega
  have hl64 : b.length ≤ 9223372036854775807 := by omega
  have R1 := Lib.hid r1; have R2 := Lib.hid r2
  clear r1 r2
  by_cases hlen : a.length = b.length
  · have q1 : decide (a.length = b.length) = true := decide_eq_true hlen
    rw [← hlen]
    rw [← hlen] at R2
    have Hlen := Lib.hid hlen; clear hlen
    go_enter Try.func13, Try.ntmps13
    go_wp2_with fail
    go_loopw [5] (fun i wr => ∃ k : Nat, k ≤ a.length ∧ i = .int .i64 k ∧ Below w.heap.size w wr ∧ (∀ j (h1 : j < a.length) (h2 : j < b.length), j < k → a[j] = b[j])) (fun i _ => a.length - (intOf i).toNat)
    case atStart => exact ⟨0, Nat.zero_le _, rfl, Below.refl _ _, fun j _ _ h => by omega⟩
    case round =>
      obtain ⟨k, hk, rfl, hbel, hall⟩ := hrel
      have Hall := Lib.hid hall; clear hall
      by_cases hlt : k < a.length
      · have a1 := R1.out.below (hbel.mono hB1)
        have a2 := R2.out.below (hbel.mono hB2)
        have hltb : k < b.length := by rw [← Hlen.out]; exact hlt
        obtain ⟨b1, o1, rfl, hb1, _⟩ := a1.at (by rw [svt_length]; omega)
        obtain ⟨b2, o2, rfl, hb2, _⟩ := a2.at (by rw [svt_length]; omega)
        have c10 := a1.cell k _ (svt_at a k hlt)
        have c20 := a2.cell k _ (svt_at b k hltb)
        have hk0 : (k : Int) < (a.length : Int) := by omega
        have hk1 : (0 : Int) ≤ (k : Int) := by omega
        have Hst := Lib.hid (fun (h : a[k] = b[k]) j (h1 : j < a.length) (h2 : j < b.length) (h3 : j < k + 1) => if e : j = k then (by subst e; exact h) else Hall.out j h1 h2 (by omega))
        have Hno : Hid (a[k] ≠ b[k] → a ≠ b) := Lib.hid (fun h e => h (by subst e; rfl))
        clear a1 a2 Hall
        generalize a[k] = x at *
        generalize b[k] = y at *
        by_cases hxy : x = y
        · replace Hst := Lib.hid (Hst.out hxy)
          have hq : (x == y) = true := by simpa using hxy
          clear hxy Hno
          go_wp2_with fail
          go_region
          all_goals
            go_wp2_with fail
            go_roundw
            case rel => exact ⟨k + 1, hlt, by go_num, by first | exact hbel.drew | exact hbel, Hst.out⟩
            case measure => simp [intOf]; omega
        · replace Hno := Lib.hid (Hno.out hxy)
          have hq : (x == y) = false := by simpa using hxy
          clear hxy Hst
          go_wp2_with fail
          go_region
          all_goals
            go_wp2_with fail
            go_ret
            exact ⟨ret_boolP (decide_eq_false Hno.out).symm, by first | exact hbel.drew | exact hbel⟩
      · obtain rfl : k = a.length := by omega
        have hs := Lib.hid (tx_ext_take a b Hlen.out fun j h1 h2 => Hall.out j h1 h2 h1)
        go_wp2_with fail
        go_ret
        exact ⟨ret_boolP (decide_eq_true hs.out).symm, hbel⟩
  · have q1 : decide (a.length = b.length) = false := decide_eq_false hlen
    have hne : a ≠ b := fun e => hlen (by rw [e])
    have Hne := Lib.hid hne; clear hne
    go_enter Try.func13, Try.ntmps13
    go_wp2_with fail
    go_ret
    exact ⟨ret_boolP (decide_eq_false Hne.out).symm, Below.refl _ _⟩
end Go.Proofs.Ytimgnbacgdmiiaa
namespace Go.Proofs.Ytimgnbacgdmiiaa
open Go.RowKit PK
set_option linter.unusedVariables false
attribute [local go_sem ↓] append_appM

/-- A text put behind a row of its own. -/
theorem pushT (X : World) (base n : Nat) (v : Value) (l : List Tx) (x : Tx) (hb : base ≤ X.heap.size) (hn : l.length = n) (hown : X.ownsRow base 9 1 v n (svt l)) (hm : n + 1 ≤ 1000000000000) (s : ByteArray) (hs : s = ⟨x.toArray⟩) :
    ∃ ao c w', Sem.run Try.prog (appM #[32, 32] 32 #[v, .slice (some ⟨X.heap.size, 0, none⟩) 1 1]) (X.alloc (.cells #[.string s] 9)).drew = .ok (.slice ao (n + 1) c) w' ∧ w'.ownsRow base 9 1 (.slice ao (n + 1) c) (n + 1) (svt (l ++ [x])) ∧ Below base X w' ∧ n + 1 ≤ c ∧ c ≤ maxLen := by
  subst hs
  obtain ⟨i0, hi, hz0, hz1, hz2⟩ := info_parts info_str
  have hrow : Row (X.alloc (.cells #[.string ⟨x.toArray⟩] 9)).drew (X.heap.size + 1) 1 (.slice (some ⟨X.heap.size, 0, none⟩) 1 1) 1 (svt [x]) := (row_cellsB X (svt [x]) 1 1 1 _ rfl (Nat.le_refl _) (by unfold maxLen; omega)).below (Below.refl _ _).drew
  obtain ⟨v', w', h1, h2, h3, _⟩ := run_append_row (P := Try.prog) (X.alloc (.cells #[.string ⟨x.toArray⟩] 9)).drew 32 32 base 9 i0 (.string ByteArray.empty) 1 16 Try.underlying32 hi hz0 hz1 hz2 rfl (by decide) v n (svt l) ((hown.alloc _).drew) (X.heap.size + 1) _ 1 (svt [x]) hrow (svt_one _) (by unfold maxLen; omega) (by omega) (by simp; omega)
  obtain ⟨ao, c, rfl, hc1, hc2⟩ := owns_valPK h2
  rw [← svt_append] at h2
  refine ⟨ao, c, w', h1, h2, ?_, hc1, hc2⟩
  exact (((Below.refl base X).alloc hb _).drew).grown h3 (by simp; omega) (fun k hk => (hown.lt k hk).1)

/-- Not too many texts. -/
def fewT (l : List Tx) : List Tx := (l.take 30).map (·.take 10)
theorem fewT_succ (l : List Tx) (k : Nat) (hk : k < l.length) (h30 : k < 30) : ((l.take k).map (·.take 10)) ++ [l[k].take 10] = (l.take (k + 1)).map (·.take 10) := by
  rw [List.take_succ_eq_append_getElem hk, List.map_append]; rfl
theorem fewT_len (l : List Tx) : (fewT l).length ≤ 30 := by unfold fewT; rw [List.length_map, List.length_take]; omega
theorem fewT_each (l : List Tx) : ∀ x ∈ fewT l, x.length ≤ 10 := by
  intro x hx; obtain ⟨y, _, rfl⟩ := List.mem_map.1 hx; rw [List.length_take]; omega
theorem fewT_fewT (l : List Tx) : fewT (fewT l) = fewT l := by
  unfold fewT
  rw [← List.map_take, List.take_take, List.map_map]
  simp [Function.comp_def, List.take_take]
theorem tx_extract (x : Tx) (n : Nat) : (ByteArray.mk x.toArray).extract 0 n = ⟨(x.take n).toArray⟩ := by
  apply ByteArray.ext; simp

end Go.Proofs.Ytimgnbacgdmiiaa
namespace Go.Proofs.Ytimgnbacgdmiiaa
open Go.RowKit PK
set_option linter.unusedVariables false
attribute [local go_sem ↓] append_appM

/-- A set and a text. -/
def putL (a : List Tx) (t : Tx) : List Tx := toSet (a ++ [t])
theorem putL_in {a : List Tx} (t : Tx) (ha : IsSet a) (h : t ∈ a) : putL a t = a := set_ext (toSet_set _) ha fun x => by
  unfold putL; rw [toSet_mem, List.mem_append, List.mem_singleton]
  exact ⟨fun e => e.elim id fun e => e ▸ h, .inl⟩
theorem putL_at {a : List Tx} (t : Tx) (ha : IsSet a) (k : Nat) (hk : k ≤ a.length) (h1 : ∀ j (h : j < a.length), j < k → a[j] < t) (h2 : ∀ j (h : j < a.length), k ≤ j → ¬ a[j] < t) (h3 : t ∉ a) : a.take k ++ [t] ++ a.drop k = putL a t := by
  refine set_ext ?_ (toSet_set _) fun x => ?_
  · have hp := List.take_append_drop k a ▸ ha
    have hp := List.pairwise_append.1 hp
    refine List.pairwise_append.2 ⟨List.pairwise_append.2 ⟨hp.1, List.pairwise_singleton _ _, ?_⟩, hp.2.1, ?_⟩
    · intro x hx y hy
      rw [List.mem_singleton.1 hy]
      obtain ⟨j, hj, rfl⟩ := List.getElem_of_mem hx
      rw [List.getElem_take]
      rw [List.length_take] at hj
      exact h1 j (by omega) (by omega)
    · intro x hx y hy
      rcases List.mem_append.1 hx with h | h
      · exact hp.2.2 x h y hy
      · rw [List.mem_singleton.1 h]
        obtain ⟨j, hj, rfl⟩ := List.getElem_of_mem hy
        rw [List.getElem_drop]
        rw [List.length_drop] at hj
        have h4 := h2 (k + j) (by omega) (by omega)
        refine Classical.byContradiction fun h5 => h3 ?_
        rw [tx_eq h5 h4]; exact List.getElem_mem _
  · unfold putL
    rw [toSet_mem]
    conv => rhs; rw [← List.take_append_drop k a]
    simp only [List.mem_append, List.mem_singleton]
    constructor
    · rintro ((h | h) | h)
      · exact .inl (.inl h)
      · exact .inr h
      · exact .inl (.inr h)
    · rintro ((h | h) | h)
      · exact .inl (.inl h)
      · exact .inr h
      · exact .inl (.inr h)
theorem putL_len (a : List Tx) (t : Tx) : (putL a t).length ≤ a.length + 1 := by have := toSet_len (a ++ [t]); simpa [putL] using this

theorem Row.drop {w : World} {B n b off c : Nat} {xs : List Value} (h : Row w B 1 (.slice (some ⟨b, off, none⟩) n c) n xs) (k : Nat) (hk : k ≤ n) : Row w B 1 (.slice (some ⟨b, off + k, none⟩) (n - k) (c - k)) (n - k) (xs.drop k) := by
  obtain ⟨_, _, hv, h1, h2⟩ := h.val
  simp only [Value.slice.injEq] at hv
  obtain ⟨_, _, rfl⟩ := hv
  refine ⟨by rw [List.length_drop, h.1]; omega, by have := h.2.1; omega, .inr ⟨_, _, rfl, by omega, by omega, ?_, fun j u hu => ?_⟩⟩
  · rcases Nat.eq_zero_or_pos (n - k) with h0 | h0
    · exact .inl h0
    · have hp : 0 < xs.length := by rw [h.1]; omega
      obtain ⟨b', off', hb, hlt, _⟩ := h.at hp
      simp only [Option.some.injEq, Addr.mk.injEq, and_true] at hb
      obtain ⟨rfl, rfl⟩ := hb
      exact .inr hlt
  · rw [List.getElem?_drop] at hu
    rw [Go.WideShapes.add_plain, Nat.add_assoc]
    exact h.cell (k + j) u hu
/-- Texts put behind a row of its own. -/
theorem appG (X : World) (base n : Nat) (v : Value) (l : List Tx) (hb : base ≤ X.heap.size) (hn : l.length = n) (hown : X.ownsRow base 9 1 v n (svt l)) (B m : Nat) (vx : Value) (lx : List Tx) (hr : Row X B 1 vx m (svt lx)) (hm : n + m ≤ 1000000000000) :
    ∃ ao c w', Sem.run Try.prog (appM #[32, 32] 32 #[v, vx]) X = .ok (.slice ao (n + m) c) w' ∧ w'.ownsRow base 9 1 (.slice ao (n + m) c) (n + m) (svt (l ++ lx)) ∧ X.grownBy w' v.ownBlock ∧ n + m ≤ c ∧ c ≤ maxLen := by
  obtain ⟨i0, hi, hz0, hz1, hz2⟩ := info_parts info_str
  obtain ⟨v', w', h1, h2, h3, _⟩ := run_append_row (P := Try.prog) X 32 32 base 9 i0 (.string ByteArray.empty) 1 16 Try.underlying32 hi hz0 hz1 hz2 rfl (by decide) v n (svt l) hown B vx m (svt lx) hr (svt_one _) (by unfold maxLen; omega) (by omega) hb
  obtain ⟨ao, c, rfl, hc1, hc2⟩ := owns_valPK h2
  rw [← svt_append] at h2
  exact ⟨ao, c, w', h1, h2, h3, hc1, hc2⟩
theorem appT (X : World) (base n : Nat) (v : Value) (l : List Tx) (hb : base ≤ X.heap.size) (hn : l.length = n) (hown : X.ownsRow base 9 1 v n (svt l)) (B m : Nat) (vx : Value) (lx : List Tx) (hr : Row X B 1 vx m (svt lx)) (hm : n + m ≤ 1000000000000) :
    ∃ ao c w', Sem.run Try.prog (appM #[32, 32] 32 #[v, vx]) X = .ok (.slice ao (n + m) c) w' ∧ w'.ownsRow base 9 1 (.slice ao (n + m) c) (n + m) (svt (l ++ lx)) ∧ Below base X w' ∧ n + m ≤ c ∧ c ≤ maxLen := by
  obtain ⟨ao, c, w', h1, h2, h3, hc1, hc2⟩ := appG X base n v l hb hn hown B m vx lx hr hm
  exact ⟨ao, c, w', h1, h2, (Below.refl base X).grown h3 hb (fun k hk => (hown.lt k hk).1), hc1, hc2⟩

/-- Three rows behind an empty one. -/
theorem put3 (X : World) (base : Nat) (v : Value) (hb : base ≤ X.heap.size) (hown : X.ownsRow base 9 1 v 0 []) (B m1 m2 m3 : Nat) (hB : B ≤ X.heap.size) (v1 v2 v3 : Value) (l1 l2 l3 : List Tx) (h1 : Row X B 1 v1 m1 (svt l1)) (h2 : Row X B 1 v2 m2 (svt l2)) (h3 : Row X B 1 v3 m3 (svt l3)) (hBw : ∀ k, v.ownBlock = some k → B ≤ k) (hm : m1 + m2 + m3 ≤ 1000000000000) (hbB : base ≤ B) :
    ∃ a1 c1 w1 a2 c2 w2 a3 c3 w3,
      Sem.run Try.prog (appM #[32, 32] 32 #[v, v1]) X = .ok (.slice a1 m1 c1) w1 ∧ m1 ≤ c1 ∧ c1 ≤ maxLen ∧
      Sem.run Try.prog (appM #[32, 32] 32 #[.slice a1 m1 c1, v2]) w1 = .ok (.slice a2 (m1 + m2) c2) w2 ∧ m1 + m2 ≤ c2 ∧ c2 ≤ maxLen ∧
      Sem.run Try.prog (appM #[32, 32] 32 #[.slice a2 (m1 + m2) c2, v3]) w2 = .ok (.slice a3 (m1 + m2 + m3) c3) w3 ∧
      w3.ownsRow base 9 1 (.slice a3 (m1 + m2 + m3) c3) (l1 ++ l2 ++ l3).length (svt (l1 ++ l2 ++ l3)) ∧ Below base X w3 := by
  have hl1 := h1.1; have hl2 := h2.1; have hl3 := h3.1
  rw [svt_length] at hl1 hl2 hl3
  have own1 : X.ownsRow B 9 1 v 0 (svt []) := by
    refine ⟨hown.1, ?_⟩
    rcases hown.2 with h0 | ⟨g, cap, cur, rfl, hb', rest⟩
    · exact .inl h0
    · exact .inr ⟨g, cap, cur, rfl, hBw g rfl, rest⟩
  obtain ⟨a1, c1, w1, e1, o1, b1, x1, y1⟩ := appT X B 0 v [] hB rfl own1 B m1 v1 l1 h1 (by omega)
  simp only [Nat.zero_add, List.nil_append] at e1 o1 x1
  have hs1 := b1.size
  obtain ⟨a2, c2, w2, e2, o2, b2, x2, y2⟩ := appT w1 B m1 (.slice a1 m1 c1) l1 (by omega) (by omega) o1 B m2 v2 l2 (h2.below b1) (by omega)
  have hs2 := b2.size
  obtain ⟨a3, c3, w3, e3, o3, b3, x3, y3⟩ := appT w2 B (m1 + m2) (.slice a2 (m1 + m2) c2) (l1 ++ l2) (by omega) (by simp; omega) o2 B m3 v3 l3 (h3.below (b1.trans b2)) (by omega)
  refine ⟨a1, c1, w1, a2, c2, w2, a3, c3, w3, e1, x1, y1, e2, x2, y2, e3, ?_, ((b1.trans b2).trans b3).mono hbB⟩
  rw [show (l1 ++ l2 ++ l3).length = m1 + m2 + m3 from by simp; omega]
  exact owns_basePK o3 hbB

/-- The same, the second row laid behind the first. -/
theorem put3' (X : World) (base : Nat) (v : Value) (hb : base ≤ X.heap.size) (hown : X.ownsRow base 9 1 v 0 []) (B m1 m3 : Nat) (hB : B ≤ X.heap.size) (v1 v3 : Value) (l1 : List Tx) (t : Tx) (l3 : List Tx) (h1 : Row X B 1 v1 m1 (svt l1)) (h3 : Row X B 1 v3 m3 (svt l3)) (hBw : ∀ k, v.ownBlock = some k → B ≤ k) (hm : m1 + 1 + m3 ≤ 1000000000000) (hbB : base ≤ B) :
    ∃ a1 c1 w1 a2 c2 w2 a3 c3 w3,
      Sem.run Try.prog (appM #[32, 32] 32 #[v, v1]) X = .ok (.slice a1 m1 c1) w1 ∧ m1 ≤ c1 ∧ c1 ≤ maxLen ∧
      Sem.run Try.prog (appM #[32, 32] 32 #[.slice a1 m1 c1, .slice (some ⟨w1.heap.size, 0, none⟩) 1 1]) (w1.alloc (.cells #[.string ⟨t.toArray⟩] 9)) = .ok (.slice a2 (m1 + 1) c2) w2 ∧ m1 + 1 ≤ c2 ∧ c2 ≤ maxLen ∧
      Sem.run Try.prog (appM #[32, 32] 32 #[.slice a2 (m1 + 1) c2, v3]) w2 = .ok (.slice a3 (m1 + 1 + m3) c3) w3 ∧
      w3.ownsRow base 9 1 (.slice a3 (m1 + 1 + m3) c3) (l1 ++ [t] ++ l3).length (svt (l1 ++ [t] ++ l3)) ∧ Below base X w3 := by
  have hl1 := h1.1; have hl3 := h3.1
  rw [svt_length] at hl1 hl3
  have own1 : X.ownsRow B 9 1 v 0 (svt []) := by
    refine ⟨hown.1, ?_⟩
    rcases hown.2 with h0 | ⟨g, cap, cur, rfl, hb', rest⟩
    · exact .inl h0
    · exact .inr ⟨g, cap, cur, rfl, hBw g rfl, rest⟩
  obtain ⟨a1, c1, w1, e1, o1, b1, x1, y1⟩ := appT X B 0 v [] hB rfl own1 B m1 v1 l1 h1 (by omega)
  simp only [Nat.zero_add, List.nil_append] at e1 o1 x1
  have hs1 := b1.size
  have b1' : Below B X (w1.alloc (.cells #[.string ⟨t.toArray⟩] 9)) := b1.alloc (by omega) _
  have rt : Row (w1.alloc (.cells #[.string ⟨t.toArray⟩] 9)) (w1.heap.size + 1) 1 (.slice (some ⟨w1.heap.size, 0, none⟩) 1 1) 1 (svt [t]) := row_cellsB w1 (svt [t]) 1 1 1 _ rfl (Nat.le_refl _) (by unfold maxLen; omega)
  obtain ⟨a2, c2, w2, e2, o2, b2, x2, y2⟩ := appT _ B m1 (.slice a1 m1 c1) l1 (by simp; omega) (by omega) (o1.alloc _) _ 1 _ [t] rt (by omega)
  have hs2 := b2.size
  rw [World.size_alloc] at hs2
  obtain ⟨a3, c3, w3, e3, o3, b3, x3, y3⟩ := appT w2 B (m1 + 1) (.slice a2 (m1 + 1) c2) (l1 ++ [t]) (by omega) (by simp; omega) o2 B m3 v3 l3 (h3.below (b1'.trans b2)) (by omega)
  refine ⟨a1, c1, w1, a2, c2, w2, a3, c3, w3, e1, x1, y1, e2, x2, y2, e3, ?_, ((b1'.trans b2).trans b3).mono hbB⟩
  rw [show (l1 ++ [t] ++ l3).length = m1 + 1 + m3 from by simp; omega]
  exact owns_basePK o3 hbB
/-- The three orders of the document's 'append(append(append(..)))'. -/
def Put3 (w : World) (base : Nat) (t : Tx) (v1 v3 : Value) (l1 l3 : List Tx) (m1 m3 : Nat) : Prop :=
  (∃ a1 c1 w1 a2 c2 w2 a3 c3 w3,
      Sem.run Try.prog (appM #[32, 32] 32 #[.slice (some ⟨w.heap.size + 1, 0, none⟩) 0 0, v1]) ((w.alloc (.cells #[.string ⟨t.toArray⟩] 9)).alloc (.cells #[] 9)).drew = .ok (.slice a1 m1 c1) w1 ∧ m1 ≤ c1 ∧ c1 ≤ maxLen ∧
      Sem.run Try.prog (appM #[32, 32] 32 #[.slice a1 m1 c1, .slice (some ⟨w.heap.size, 0, none⟩) 1 1]) w1 = .ok (.slice a2 (m1 + 1) c2) w2 ∧ m1 + 1 ≤ c2 ∧ c2 ≤ maxLen ∧
      Sem.run Try.prog (appM #[32, 32] 32 #[.slice a2 (m1 + 1) c2, v3]) w2 = .ok (.slice a3 (m1 + 1 + m3) c3) w3 ∧
      w3.ownsRow base 9 1 (.slice a3 (m1 + 1 + m3) c3) (l1 ++ [t] ++ l3).length (svt (l1 ++ [t] ++ l3)) ∧ Below base w w3)
  ∧ (∃ a1 c1 w1 a2 c2 w2 a3 c3 w3,
      Sem.run Try.prog (appM #[32, 32] 32 #[.slice (some ⟨w.heap.size, 0, none⟩) 0 0, v1]) ((w.alloc (.cells #[] 9)).alloc (.cells #[.string ⟨t.toArray⟩] 9)).drew = .ok (.slice a1 m1 c1) w1 ∧ m1 ≤ c1 ∧ c1 ≤ maxLen ∧
      Sem.run Try.prog (appM #[32, 32] 32 #[.slice a1 m1 c1, .slice (some ⟨w.heap.size + 1, 0, none⟩) 1 1]) w1 = .ok (.slice a2 (m1 + 1) c2) w2 ∧ m1 + 1 ≤ c2 ∧ c2 ≤ maxLen ∧
      Sem.run Try.prog (appM #[32, 32] 32 #[.slice a2 (m1 + 1) c2, v3]) w2 = .ok (.slice a3 (m1 + 1 + m3) c3) w3 ∧
      w3.ownsRow base 9 1 (.slice a3 (m1 + 1 + m3) c3) (l1 ++ [t] ++ l3).length (svt (l1 ++ [t] ++ l3)) ∧ Below base w w3)
  ∧ (∃ a1 c1 w1 a2 c2 w2 a3 c3 w3,
      Sem.run Try.prog (appM #[32, 32] 32 #[.slice (some ⟨w.heap.size, 0, none⟩) 0 0, v1]) (w.alloc (.cells #[] 9)).drew = .ok (.slice a1 m1 c1) w1 ∧ m1 ≤ c1 ∧ c1 ≤ maxLen ∧
      Sem.run Try.prog (appM #[32, 32] 32 #[.slice a1 m1 c1, .slice (some ⟨w1.heap.size, 0, none⟩) 1 1]) (w1.alloc (.cells #[.string ⟨t.toArray⟩] 9)) = .ok (.slice a2 (m1 + 1) c2) w2 ∧ m1 + 1 ≤ c2 ∧ c2 ≤ maxLen ∧
      Sem.run Try.prog (appM #[32, 32] 32 #[.slice a2 (m1 + 1) c2, v3]) w2 = .ok (.slice a3 (m1 + 1 + m3) c3) w3 ∧
      w3.ownsRow base 9 1 (.slice a3 (m1 + 1 + m3) c3) (l1 ++ [t] ++ l3).length (svt (l1 ++ [t] ++ l3)) ∧ Below base w w3)
theorem put3_all (w : World) (base : Nat) (hb : base ≤ w.heap.size) (t : Tx) (v1 v3 : Value) (l1 l3 : List Tx) (m1 m3 : Nat) (h1 : Row w w.heap.size 1 v1 m1 (svt l1)) (h3 : Row w w.heap.size 1 v3 m3 (svt l3)) (hm : m1 + 1 + m3 ≤ 1000000000000) : Put3 w base t v1 v3 l1 l3 m1 m3 := by
  have z0 : (0 : Nat) ≤ maxLen := Nat.zero_le _
  refine ⟨?_, ?_, ?_⟩
  · have hbw : Below w.heap.size w ((w.alloc (.cells #[.string ⟨t.toArray⟩] 9)).alloc (.cells #[] 9)).drew := (((Below.refl _ w).alloc (Nat.le_refl _) _).alloc (by simp) _).drew
    have rt : Row ((w.alloc (.cells #[.string ⟨t.toArray⟩] 9)).alloc (.cells #[] 9)).drew (w.heap.size + 1) 1 (.slice (some ⟨w.heap.size, 0, none⟩) 1 1) 1 (svt [t]) := (row_cellsB w (svt [t]) 1 1 1 _ rfl (Nat.le_refl _) (by unfold maxLen; omega)).below (((Below.refl _ _).alloc (by simp) _).drew)
    have hom := World.ownsRow_made (base := base) (e := 9) (size := 1) (w.alloc (.cells #[.string ⟨t.toArray⟩] 9)) #[] 0 (by simp; omega) z0 rfl
    rw [World.size_alloc] at hom
    obtain ⟨a1, c1, w1, a2, c2, w2, a3, c3, w3, q1, q2, q3, q4, q5, q6, q7, q8, q9⟩ := put3 _ base _ (by simp; omega) hom.drew (w.heap.size + 1) m1 1 m3 (by simp) _ _ _ l1 [t] l3 ((h1.below hbw).mono (by omega)) rt ((h3.below hbw).mono (by omega)) (fun k e => by cases e; exact Nat.le_refl _) (by omega) (by omega)
    exact ⟨a1, c1, w1, a2, c2, w2, a3, c3, w3, q1, q2, q3, q4, q5, q6, q7, q8, (hbw.mono hb).trans q9⟩
  · have hbw : Below w.heap.size w ((w.alloc (.cells #[] 9)).alloc (.cells #[.string ⟨t.toArray⟩] 9)).drew := (((Below.refl _ w).alloc (Nat.le_refl _) _).alloc (by simp) _).drew
    have rt0 := row_cellsB (w.alloc (.cells #[] 9)) (svt [t]) 1 1 1 9 rfl (Nat.le_refl _) (by unfold maxLen; omega)
    rw [World.size_alloc] at rt0
    have rt := rt0.below (Below.refl _ _).drew
    have hom := World.ownsRow_made (base := base) (e := 9) (size := 1) w #[] 0 hb z0 rfl
    have hom2 := (hom.alloc (.cells #[.string ⟨t.toArray⟩] 9)).drew
    have hl1 := h1.1; have hl3 := h3.1
    rw [svt_length] at hl1 hl3
    have hom3 := owns_basePK hom2 (Nat.le_refl _)
    have hom' := World.ownsRow_made (base := w.heap.size) (e := 9) (size := 1) w #[] 0 (Nat.le_refl _) z0 rfl
    have hom2' := (hom'.alloc (.cells #[.string ⟨t.toArray⟩] 9)).drew
    obtain ⟨a1, c1, w1, q1, o1, g1, q2, q3⟩ := appG _ w.heap.size 0 _ [] (by simp; omega) rfl hom2' w.heap.size m1 v1 l1 (h1.below hbw) (by omega)
    simp only [Nat.zero_add, List.nil_append] at q1 o1 q2
    have b1 : Below w.heap.size w w1 := hbw.grown g1 (by simp; omega) (fun k hk => by cases hk; exact Nat.le_refl _)
    have hs1 := g1.size
    simp only [World.size_drew, World.size_alloc] at hs1
    have hcell : w1.cell? ⟨w.heap.size + 1, 0, none⟩ = some (.string ⟨t.toArray⟩) := by
      rw [g1.cell_far ⟨w.heap.size + 1, 0, none⟩ (by simp) (by simp [Value.ownBlock])]
      exact rt.cell 0 _ (svt_at [t] 0 (by simp))
    have rt1 : Row w1 (w.heap.size + 2) 1 (.slice (some ⟨w.heap.size + 1, 0, none⟩) 1 1) 1 (svt [t]) := by
      refine ⟨rfl, by unfold maxLen; omega, .inr ⟨_, 1, rfl, Nat.le_refl _, by unfold maxLen; omega, .inr (by show w.heap.size + 1 < _; omega), fun j u hu => ?_⟩⟩
      rcases j with _ | j
      · rw [Go.WideShapes.add_plain]
        simp only [svt, List.map_cons, List.getElem?_cons_zero, Option.some.injEq] at hu
        subst hu
        exact hcell
      · simp [svt] at hu
    obtain ⟨a2, c2, w2, e2, o2, b2, x2, y2⟩ := appT w1 w.heap.size m1 (.slice a1 m1 c1) l1 (by omega) (by omega) o1 _ 1 _ [t] rt1 (by omega)
    have hs2 := b2.size
    obtain ⟨a3, c3, w3, e3, o3, b3, x3, y3⟩ := appT w2 w.heap.size (m1 + 1) (.slice a2 (m1 + 1) c2) (l1 ++ [t]) (by omega) (by simp; omega) o2 w.heap.size m3 v3 l3 (h3.below (b1.trans b2)) (by omega)
    refine ⟨a1, c1, w1, a2, c2, w2, a3, c3, w3, q1, q2, q3, e2, x2, y2, e3, ?_, ((b1.trans b2).trans b3).mono hb⟩
    rw [show (l1 ++ [t] ++ l3).length = m1 + 1 + m3 from by simp; omega]
    exact owns_basePK o3 hb
  · have hbw : Below w.heap.size w (w.alloc (.cells #[] 9)).drew := ((Below.refl _ w).alloc (Nat.le_refl _) _).drew
    have hom := (World.ownsRow_made (base := base) (e := 9) (size := 1) w #[] 0 hb z0 rfl).drew
    obtain ⟨a1, c1, w1, a2, c2, w2, a3, c3, w3, q1, q2, q3, q4, q5, q6, q7, q8, q9⟩ := put3' _ base _ (by simp; omega) hom w.heap.size m1 m3 (by simp) _ _ l1 t l3 (h1.below hbw) (h3.below hbw) (fun k e => by cases e; exact Nat.le_refl _) (by omega) hb
    exact ⟨a1, c1, w1, a2, c2, w2, a3, c3, w3, q1, q2, q3, q4, q5, q6, q7, q8, (hbw.mono hb).trans q9⟩

/-- What the document's binary search holds. -/
structure CutAt (a : List Tx) (t : Tx) (lo hi : Nat) : Prop where
  le : lo ≤ hi
  bnd : hi ≤ a.length
  lss : ∀ j (h : j < a.length), j < lo → a[j] < t
  geq : ∀ j (h : j < a.length), hi ≤ j → ¬ a[j] < t
theorem CutAt.start (a : List Tx) (t : Tx) : CutAt a t 0 a.length := ⟨by omega, by omega, fun j _ h => by omega, fun j h1 h2 => by omega⟩
theorem CutAt.up {a : List Tx} {t : Tx} {lo hi : Nat} (h : CutAt a t lo hi) (ha : IsSet a) (m : Nat) (hm : m < a.length) (h1 : lo ≤ m) (h2 : m < hi) (hx : a[m] < t) : CutAt a t (m + 1) hi :=
  ⟨by omega, h.bnd, fun j hj hjm => by
    rcases Nat.lt_or_ge j m with e | e
    · exact tx_trans ((List.pairwise_iff_getElem.1 ha) j m hj hm e) hx
    · obtain rfl : j = m := by omega
      exact hx, h.geq⟩
theorem CutAt.down {a : List Tx} {t : Tx} {lo hi : Nat} (h : CutAt a t lo hi) (ha : IsSet a) (m : Nat) (hm : m < a.length) (h1 : lo ≤ m) (h2 : m < hi) (hx : ¬ a[m] < t) : CutAt a t lo m :=
  ⟨h1, by have := h.bnd; omega, h.lss, fun j hj hjm hjt => by
    rcases Nat.lt_or_ge m j with e | e
    · exact hx (tx_trans ((List.pairwise_iff_getElem.1 ha) m j hm hj e) hjt)
    · obtain rfl : j = m := by omega
      exact hx hjt⟩
theorem CutAt.notin {a : List Tx} {t : Tx} {k : Nat} (h : CutAt a t k k) (ha : IsSet a) (h3 : ∀ hk : k < a.length, a[k] ≠ t) : t ∉ a := fun hm => by
  obtain ⟨j, hj, e⟩ := List.getElem_of_mem hm
  rcases Nat.lt_or_ge j k with h1 | h1
  · have := h.lss j hj h1; rw [e] at this; exact tx_irrefl _ this
  · rcases Nat.lt_or_ge k j with h2 | h2
    · have := (List.pairwise_iff_getElem.1 ha) k j (by omega) hj h2
      rw [e] at this
      exact h.geq k (by omega) (Nat.le_refl _) this
    · obtain rfl : j = k := by omega
      exact h3 hj e
set_option maxHeartbeats 2000000 in
set_option maxRecDepth 100000 in
theorem refPut_any (v : Value) (a : List Tx) (t : Tx) (base : Nat) (w : World) (hb : base ≤ w.heap.size) (hown : w.ownsRow base 9 1 v a.length (svt a)) (ha : IsSet a) (hl : a.length ≤ 900000000000) (s : ByteArray) (hs : s = ⟨t.toArray⟩) :
    Calls Try.prog 67 #[v, .string s] w (SetT base w (putL a t)) := by
  subst hs
  have R := Lib.hid (Row.of_owns hown)
  have Hown := Lib.hid hown
  have Ha := Lib.hid ha
  obtain ⟨ao, c, rfl, hc1, hc2⟩ := owns_valPK hown
  clear hown ha
  have hl63 : a.length ≤ 9223372036854775807 := by omega
  go_enter Try.func67, Try.ntmps67
  go_wp2_with fail
  go_loop [5, 6, 7] (fun i j _ => ∃ lo hi : Nat, i = .int .i64 lo ∧ j = .int .i64 hi ∧ CutAt a t lo hi) (fun i j _ => (intOf j).toNat - (intOf i).toNat)
  case atStart => exact ⟨0, a.length, rfl, rfl, CutAt.start a t⟩
  case round =>
    obtain ⟨lo, hi, rfl, rfl, hcut⟩ := hrel
    have hle := hcut.le; have hhi := hcut.bnd
    have Hcut := Lib.hid hcut; clear hcut
    by_cases hlt : lo < hi
    · obtain ⟨m, hm⟩ : ∃ m, m = (lo + hi) / 2 := ⟨_, rfl⟩
      have hm1 : lo ≤ m := by omega
      have hm2 : m < hi := by omega
      have hhalf : ((lo : Int) + (hi : Int)) / 2 = (m : Int) := by omega
      have hma : m < a.length := by omega
      obtain ⟨b1, o1, rfl, hb1, _⟩ := R.out.at (by rw [svt_length]; omega)
      have c10 := R.out.cell m _ (svt_at a m hma)
      have Hup := Lib.hid (Hcut.out.up Ha.out m hma hm1 hm2)
      have Hdn := Lib.hid (Hcut.out.down Ha.out m hma hm1 hm2)
      have hm0 : (0 : Int) ≤ (m : Int) := by omega
      have hm3 : (m : Int) < (a.length : Int) := by omega
      have Hm := Lib.hid hm
      clear Hcut hm
      go_upto_region 4 with fail
      rw [hhalf]
      clear hhalf
      have hless := bytesLess_eq a[m] t
      generalize a[m] = x at *
      by_cases hxt : x < t
      · rw [decide_eq_true hxt] at hless
        replace Hup := Lib.hid (Hup.out hxt)
        clear hxt Hdn
        go_wp2_with fail
        go_round
        case rel => exact ⟨m + 1, hi, by go_num, rfl, Hup.out⟩
        case measure => simp [intOf]; omega
      · rw [decide_eq_false hxt] at hless
        replace Hdn := Lib.hid (Hdn.out hxt)
        clear hxt Hup
        go_wp2_with fail
        go_round
        case rel => exact ⟨lo, m, rfl, rfl, Hdn.out⟩
        case measure => simp [intOf]; omega
    · obtain rfl : lo = hi := by omega
      clear hle hlt
      by_cases hin : t ∈ a
      · have H : Hid (putL a t = a) := Lib.hid (putL_in t Ha.out hin)
        obtain ⟨hk, hat⟩ : ∃ hk : lo < a.length, a[lo] = t := by
          refine Classical.byContradiction fun hn => Hcut.out.notin Ha.out (fun hk e => hn ⟨hk, e⟩) hin
        obtain ⟨b1, o1, rfl, hb1, _⟩ := R.out.at (by rw [svt_length]; omega)
        have c10 := R.out.cell lo _ (svt_at a lo hk)
        rw [hat] at c10
        have hk0 : (lo : Int) < (a.length : Int) := by omega
        have hk1 : (0 : Int) ≤ (lo : Int) := by omega
        clear hat hin Hcut
        go_wp2_with fail
        go_ret
        exact ⟨_, rfl, by rw [H.out]; exact Hown.out, Below.refl _ _⟩
      · have H := Lib.hid (putL_at t Ha.out lo hhi Hcut.out.lss Hcut.out.geq hin)
        have hne : ∀ hk : lo < a.length, a[lo] ≠ t := fun hk e => hin (e ▸ List.getElem_mem hk)
        clear hin Hcut
        by_cases hk : lo < a.length
        · obtain ⟨b1, o1, rfl, hb1, _⟩ := R.out.at (by rw [svt_length]; omega)
          have c10 := R.out.cell lo _ (svt_at a lo hk)
          have hq : (a[lo] == t) = false := by simpa using hne hk
          have hk0 : (lo : Int) < (a.length : Int) := by omega
          have hk1 : (0 : Int) ≤ (lo : Int) := by omega
          generalize a[lo] = x at *
          clear hne
          go_upto_region 9 with fail
          have ht := R.out.take lo hhi
          have hd := R.out.drop lo hhi
          rw [Nat.mul_one, svt_take] at ht
          rw [svt_drop] at hd
          obtain ⟨⟨p1, d1, w1, p2, d2, w2, p3, d3, w3, e1, x1, y1, e2, x2, y2, e3, own3, b3⟩, ⟨p4, d4, w4, p5, d5, w5, p6, d6, w6, e4, x4, y4, e5, x5, y5, e6, own6, b6⟩, ⟨p7, d7, w7, p8, d8, w8, p9, d9, w9, e7, x7, y7, e8, x8, y8, e9, own9, b9⟩⟩ := put3_all w base hb t _ _ (a.take lo) (a.drop lo) lo (a.length - lo) ht hd (by omega)
          have Own3 := Lib.hid own3; have B3 := Lib.hid b3
          have Own6 := Lib.hid own6; have B6 := Lib.hid b6
          have Own9 := Lib.hid own9; have B9 := Lib.hid b9
          clear own3 b3 own6 b6 own9 b9 ht hd
          unfold maxLen at y1 y2 y4 y5 y7 y8
          go_region
          all_goals
            go_wp2_with fail
            go_ret
            first
              | exact ⟨_, rfl, by have h := Own3.out; rw [H.out] at h; exact h, B3.out⟩
              | exact ⟨_, rfl, by have h := Own6.out; rw [H.out] at h; exact h, B6.out⟩
              | exact ⟨_, rfl, by have h := Own9.out; rw [H.out] at h; exact h, B9.out⟩
        · have hlo : lo = a.length := by omega
          have hk0 : ¬ (lo : Int) < (a.length : Int) := by omega
          have hk1 : (0 : Int) ≤ (lo : Int) := by omega
          clear hne hk
          rcases Hown.out.2 with ⟨hnil, hz⟩ | ⟨g, cap, cur, hv, _⟩
          · simp only [Value.slice.injEq] at hnil
            obtain ⟨rfl, _, rfl⟩ := hnil
            obtain rfl := List.length_eq_zero_iff.1 hz
            have hlo' : lo = 0 := hlo
            subst hlo'
            rw [List.take_nil, List.drop_nil] at H
            have ht : Row w w.heap.size 1 (.slice none 0 0) 0 (svt ([] : List Tx)) := ⟨rfl, Nat.zero_le _, .inl ⟨rfl, rfl⟩⟩
            obtain ⟨⟨p1, d1, w1, p2, d2, w2, p3, d3, w3, e1, x1, y1, e2, x2, y2, e3, own3, b3⟩, ⟨p4, d4, w4, p5, d5, w5, p6, d6, w6, e4, x4, y4, e5, x5, y5, e6, own6, b6⟩, ⟨p7, d7, w7, p8, d8, w8, p9, d9, w9, e7, x7, y7, e8, x8, y8, e9, own9, b9⟩⟩ := put3_all w base hb t _ _ [] [] 0 0 ht ht (by omega)
            have Own3 := Lib.hid own3; have B3 := Lib.hid b3
            have Own6 := Lib.hid own6; have B6 := Lib.hid b6
            have Own9 := Lib.hid own9; have B9 := Lib.hid b9
            clear own3 b3 own6 b6 own9 b9 ht x1 x2 x4 x5 x7 x8 y1 y2 y4 y5 y7 y8 hk0 hk1 hz hlo
            have hk0 : decide ((0 : Int) < 0) = false := rfl
            go_upto_region 9 with fail
            go_region
            all_goals
              go_wp2_with fail
              go_ret
              first
                | exact ⟨_, rfl, by have h := Own3.out; rw [H.out] at h; exact h, B3.out⟩
                | exact ⟨_, rfl, by have h := Own6.out; rw [H.out] at h; exact h, B6.out⟩
                | exact ⟨_, rfl, by have h := Own9.out; rw [H.out] at h; exact h, B9.out⟩
          · simp only [Value.slice.injEq] at hv
            obtain ⟨rfl, _, rfl⟩ := hv
            subst hlo
            have ht := R.out
            have hd : Row w w.heap.size 1 (.slice (if c = a.length then some ⟨g, 0, none⟩ else some ⟨g, a.length, none⟩) 0 (c - a.length)) 0 (svt ([] : List Tx)) := by
              split <;> exact ⟨rfl, Nat.zero_le _, .inr ⟨_, _, rfl, Nat.zero_le _, by omega, .inl rfl, fun j u hu => by simp [svt] at hu⟩⟩
            rw [List.take_length, List.drop_length] at H
            obtain ⟨⟨p1, d1, w1, p2, d2, w2, p3, d3, w3, e1, x1, y1, e2, x2, y2, e3, own3, b3⟩, ⟨p4, d4, w4, p5, d5, w5, p6, d6, w6, e4, x4, y4, e5, x5, y5, e6, own6, b6⟩, ⟨p7, d7, w7, p8, d8, w8, p9, d9, w9, e7, x7, y7, e8, x8, y8, e9, own9, b9⟩⟩ := put3_all w base hb t _ _ a [] a.length 0 ht hd (by omega)
            have Own3 := Lib.hid own3; have B3 := Lib.hid b3
            have Own6 := Lib.hid own6; have B6 := Lib.hid b6
            have Own9 := Lib.hid own9; have B9 := Lib.hid b9
            clear own3 b3 own6 b6 own9 b9 ht hd
            unfold maxLen at y1 y2 y4 y5 y7 y8
            go_upto_region 9 with fail
            go_region
            · go_wp2_with fail
              all_goals
                go_ret
                exact ⟨_, rfl, by have h := Own9.out; rw [H.out] at h; exact h, B9.out⟩
            · go_wp2_with fail
              all_goals
                go_ret
                exact ⟨_, rfl, by have h := Own6.out; rw [H.out] at h; exact h, B6.out⟩
            · go_wp2_with fail
              all_goals
                go_ret
                exact ⟨_, rfl, by have h := Own3.out; rw [H.out] at h; exact h, B3.out⟩
end Go.Proofs.Ytimgnbacgdmiiaa
namespace Go.Proofs.Ytimgnbacgdmiiaa
open Go.RowKit PK
set_option linter.unusedVariables false

def joinL (a b : List Tx) : List Tx := toSet (a ++ b)
def meetL (a b : List Tx) : List Tx := toSet (a.filter fun x => decide (x ∈ b))
theorem putL_toSet (l : List Tx) (x : Tx) : putL (toSet l) x = toSet (l ++ [x]) := set_ext (toSet_set _) (toSet_set _) fun y => by
  unfold putL; simp only [toSet_mem, List.mem_append]
theorem toSet_take (l : List Tx) (k : Nat) (hk : k < l.length) : putL (toSet (l.take k)) l[k] = toSet (l.take (k + 1)) := by
  rw [putL_toSet, ← List.take_succ_eq_append_getElem hk]
theorem joinL_take (a l : List Tx) (k : Nat) (hk : k < l.length) : putL (joinL a (l.take k)) l[k] = joinL a (l.take (k + 1)) := by
  unfold joinL; rw [putL_toSet, List.append_assoc, ← List.take_succ_eq_append_getElem hk]
theorem meetL_yes (l b : List Tx) (k : Nat) (hk : k < l.length) (h : l[k] ∈ b) : putL (meetL (l.take k) b) l[k] = meetL (l.take (k + 1)) b := by
  unfold meetL; rw [putL_toSet, List.take_succ_eq_append_getElem hk, List.filter_append]
  simp [h]
theorem meetL_no (l b : List Tx) (k : Nat) (hk : k < l.length) (h : l[k] ∉ b) : meetL (l.take k) b = meetL (l.take (k + 1)) b := by
  unfold meetL; rw [List.take_succ_eq_append_getElem hk, List.filter_append]
  simp [h]
theorem toSet_nil : toSet [] = [] := List.eq_nil_of_length_eq_zero (Nat.le_zero.1 (toSet_len []))
theorem setT_own {base : Nat} {w w' : World} {v : Value} {l : List Tx} (h : w'.ownsRow base 9 1 v l.length (svt l)) : ∃ ao c, v = .slice ao l.length c := by
  obtain ⟨ao, c, h, _⟩ := owns_valPK h; exact ⟨ao, c, h⟩

set_option maxHeartbeats 1000000 in
theorem refMake_any (v : Value) (l : List Tx) (B : Nat) (w : World) (hB : B ≤ w.heap.size) (r : Row w B 1 v l.length (svt l)) (hl : l.length ≤ 100000) :
    Calls Try.prog 70 #[v] w (OwnT w (toSet l)) := by
  obtain ⟨ao, c, rfl, hc1, hc2⟩ := r.val
  have hl63 : l.length ≤ 9223372036854775807 := by unfold maxLen at hc2; omega
  have R := Lib.hid r
  clear r
  have hown0 := World.ownsRow_made (base := w.heap.size) (e := 9) (size := 1) w #[] 0 (Nat.le_refl _) (Nat.zero_le _) rfl
  go_enter Try.func70, Try.ntmps70
  go_wp2_with fail
  go_loopw [3, 4] (fun o i wr => ∃ k : Nat, k ≤ l.length ∧ i = .int .i64 k ∧ wr.ownsRow w.heap.size 9 1 o (toSet (l.take k)).length (svt (toSet (l.take k))) ∧ Below w.heap.size w wr) (fun _ i _ => l.length - (intOf i).toNat)
  case atStart => exact ⟨0, Nat.zero_le _, rfl, by rw [List.take_zero, toSet_nil]; exact hown0, (Below.refl _ w).alloc (Nat.le_refl _) _⟩
  case round =>
    obtain ⟨k, hk, rfl, hown, hbel⟩ := hrel
    have Hown := Lib.hid hown
    by_cases hlt : k < l.length
    · have a1 := R.out.below (hbel.mono hB)
      obtain ⟨b1, o1, rfl, hb1, _⟩ := a1.at (by rw [svt_length]; omega)
      have c10 := a1.cell k _ (svt_at l k hlt)
      have hk0 : (k : Int) < (l.length : Int) := by omega
      have hk1 : (0 : Int) ≤ (k : Int) := by omega
      have hlen := toSet_len (l.take k)
      rw [List.length_take] at hlen
      have Hput := Lib.hid (refPut_any _ (toSet (l.take k)) l[k] w.heap.size wr hbel.size hown (toSet_set _) (by omega) _ rfl)
      have Hst := Lib.hid (toSet_take l k hlt)
      have Hbel := Lib.hid hbel
      clear a1 hown
      generalize l[k] = x at *
      go_wp2_with fail
      refine (Hput.out).mono ?_
      rintro e w2 ⟨v2, rfl, hown2, hb2⟩
      go_wp2_with fail
      go_roundw
      case rel => exact ⟨k + 1, hlt, by go_num, by have h := hown2; rw [Hst.out] at h; exact h, Hbel.out.trans hb2⟩
      case measure => simp [intOf]; omega
    · obtain rfl : k = l.length := by omega
      rw [List.take_length] at Hown
      clear hown
      go_wp2_with fail
      go_ret
      exact ⟨_, rfl, Hown.out, hbel⟩

set_option maxHeartbeats 1000000 in
theorem refJoin_any (v1 v2 : Value) (a l : List Tx) (B1 B2 : Nat) (w : World) (hB1 : B1 ≤ w.heap.size) (hB2 : B2 ≤ w.heap.size) (r1 : Row w B1 1 v1 a.length (svt a)) (r2 : Row w B2 1 v2 l.length (svt l)) (ha : a.length ≤ 100000) (hl : l.length ≤ 100000) :
    Calls Try.prog 43 #[v1, v2] w (OwnT w (joinL a l)) := by
  obtain ⟨ao, c, rfl, hc1, hc2⟩ := r2.val
  have hl63 : l.length ≤ 9223372036854775807 := by unfold maxLen at hc2; omega
  have R := Lib.hid r2
  have Hmk := Lib.hid (refMake_any v1 a B1 w hB1 r1 ha)
  clear r1 r2
  go_enter Try.func43, Try.ntmps43
  go_wp2_with fail
  refine (Hmk.out).mono ?_
  rintro e w1 ⟨vo, rfl, hown0, hb0⟩
  have Hown0 := Lib.hid hown0
  have Hb0 := Lib.hid hb0
  clear hown0 hb0
  go_wp2_with fail
  go_loopw [5, 6] (fun o i wr => ∃ k : Nat, k ≤ l.length ∧ i = .int .i64 k ∧ wr.ownsRow w.heap.size 9 1 o (joinL a (l.take k)).length (svt (joinL a (l.take k))) ∧ Below w.heap.size w wr) (fun _ i _ => l.length - (intOf i).toNat)
  case atStart => exact ⟨0, Nat.zero_le _, rfl, by rw [List.take_zero]; unfold joinL; rw [List.append_nil]; exact Hown0.out, Hb0.out⟩
  case round =>
    obtain ⟨k, hk, rfl, hown, hbel⟩ := hrel
    have Hown := Lib.hid hown
    by_cases hlt : k < l.length
    · have a1 := R.out.below (hbel.mono hB2)
      obtain ⟨b1, o1, rfl, hb1, _⟩ := a1.at (by rw [svt_length]; omega)
      have c10 := a1.cell k _ (svt_at l k hlt)
      have hk0 : (k : Int) < (l.length : Int) := by omega
      have hk1 : (0 : Int) ≤ (k : Int) := by omega
      have hlen := toSet_len (a ++ l.take k)
      rw [List.length_append, List.length_take] at hlen
      have Hput := Lib.hid (refPut_any _ (joinL a (l.take k)) l[k] w.heap.size wr hbel.size hown (toSet_set _) (by unfold joinL; omega) _ rfl)
      have Hst := Lib.hid (joinL_take a l k hlt)
      have Hbel := Lib.hid hbel
      clear a1 hown
      generalize l[k] = x at *
      go_wp2_with fail
      refine (Hput.out).mono ?_
      rintro e w2 ⟨v2, rfl, hown2, hb2⟩
      go_wp2_with fail
      go_roundw
      case rel => exact ⟨k + 1, hlt, by go_num, by have h := hown2; rw [Hst.out] at h; exact h, Hbel.out.trans hb2⟩
      case measure => simp [intOf]; omega
    · obtain rfl : k = l.length := by omega
      rw [List.take_length] at Hown
      clear hown
      go_wp2_with fail
      go_ret
      exact ⟨_, rfl, Hown.out, hbel⟩

end Go.Proofs.Ytimgnbacgdmiiaa
