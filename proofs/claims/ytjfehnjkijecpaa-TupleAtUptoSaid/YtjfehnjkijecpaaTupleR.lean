/-
  The walk of the document's answer to tuple.At.
-/
import Derived.Test.YtjfehnjkijecpaaTupleA2
namespace Go.Proofs.Ytjfehnjkijecpaa
open Go.RowKit
set_option linter.unusedVariables false

theorem at_snoc (l : List Int) (at_ : Int) (q j : Nat) (hj : j < l.length) (hja : at_ + q = j) : bys ((List.range q).map (atV l at_)) ++ [.int .u8 (l[j] % 256)] = bys ((List.range (q + 1)).map (atV l at_)) := by
  rw [List.range_succ, List.map_append]
  have : atV l at_ q = toB l[j] := by
    unfold atV
    rw [if_pos (by omega), hja, Int.toNat_natCast, List.getD_eq_getElem?_getD, List.getElem?_eq_getElem hj]
    rfl
  simp [bys, this, toB_nat]
theorem at_snoc0 (l : List Int) (at_ : Int) (q : Nat) (hn : ¬ (0 ≤ at_ + q ∧ at_ + q < l.length)) : bys ((List.range q).map (atV l at_)) ++ [.int .u8 0] = bys ((List.range (q + 1)).map (atV l at_)) := by
  rw [List.range_succ, List.map_append]
  have : atV l at_ q = 0 := by unfold atV; rw [if_neg hn]
  simp [bys, this]

set_option maxHeartbeats 800000 in
theorem refAt12_mid (v : Value) (B : Nat) (l : List Int) (at_ : Int) (n : Nat) (w : World) (hr : Row w B 1 v l.length (ints l)) (hB : B ≤ w.heap.size) (hl : l.length ≤ 140737488355328) (ha : -9223372036854775808 ≤ at_ ∧ at_ ≤ 9223372036854775807) (hn : n ≤ 4) :
    Calls Try.prog 25 #[v, .int .i64 at_, .int .i64 n] w fun e w' => e = .returned (.string (atB l at_ n)) ∧ Below w.heap.size w w' := by
  obtain ⟨i0, hi, hz0, hz1, hz2⟩ := info_parts info_byte
  obtain ⟨ao, c, rfl, _, _⟩ := hr.val
  go_enter Try.func25, Try.ntmps25
  go_wp2_with fail
  go_loopw [7, 8] (fun v i wr => ∃ q : Nat, q ≤ n ∧ i = .int .i64 q ∧ wr.ownsRow w.heap.size 5 1 v q (bys ((List.range q).map (atV l at_))) ∧ Below w.heap.size w wr) (fun _ i _ => n - (intOf i).toNat)
  case atStart => exact ⟨0, by omega, rfl, World.ownsRow_made _ _ 0 (Nat.le_refl _) (Nat.zero_le _) rfl, (Below.refl _ w).alloc (Nat.le_refl _) _⟩
  case round =>
    obtain ⟨q, hq, rfl, hown, hbel⟩ := hrel
    by_cases hlt : q < n
    · have hsz := hbel.size
      by_cases hin : 0 ≤ at_ + q ∧ at_ + q < l.length
      · obtain ⟨j, hj⟩ := Int.eq_ofNat_of_zero_le hin.1
        have hjl : j < l.length := by omega
        have hrk := (hr.below (hbel.mono hB))
        obtain ⟨b, off, rfl, hbB, _⟩ := hrk.at (by rw [ints_length]; omega)
        have hc := hrk.cell j _ (ints_at l j hjl)
        have Hsn := Lib.hid (at_snoc l at_ q j hjl hj)
        have Hr := Lib.hid hr; have Hrk := Lib.hid hrk
        obtain rfl : at_ = (j : Int) - q := by omega
        have hw' : ((j : Int) - q + q) = j := by omega
        by_cases h0 : 0 ≤ (j : Int) - q
        · have h1 : (j : Int) - q < l.length := by omega
          have h2 : (q : Int) < (l.length : Int) - ((j : Int) - q) := by omega
          have h3 : ¬ ((j : Int) - q < 0) := by omega
          clear hrk hr hin hj
          go_wp2_with (at_builtin; refine wpList_append_row rfl (.tmp 65) (.tmp 68) 42 rfl w.heap.size 5 i0 (.int .u8 0) 1 1 Try.underlying42 hi hz0 hz1 hz2 rfl (by decide) _ q _ rfl (hown.alloc _) _ _ 1 _ rfl (row_one _ _ _) ?_ (by unfold maxLen; omega) (by omega) (by simp; omega) ?_; (intro u hu; simp at hu; subst hu; rfl); intro v' w1 hown1 hgrow)
          rw [Hsn.out] at hown1
          have hb1 : Below w.heap.size w w1 := (hbel.alloc hsz _).grown hgrow (by simp; omega) (fun j hj => (hown.lt j hj).1)
          clear hown hgrow hbel
          go_roundw
          case rel => exact ⟨q + 1, by omega, by go_num, hown1, hb1⟩
          case measure => simp [intOf]; omega
        · have h1 : (-4 : Int) ≤ (j : Int) - q := by omega
          have h3 : (j : Int) - q < 0 := by omega
          clear hrk hr hin hj
          go_wp2_with (at_builtin; refine wpList_append_row rfl (.tmp 65) (.tmp 68) 42 rfl w.heap.size 5 i0 (.int .u8 0) 1 1 Try.underlying42 hi hz0 hz1 hz2 rfl (by decide) _ q _ rfl (hown.alloc _) _ _ 1 _ rfl (row_one _ _ _) ?_ (by unfold maxLen; omega) (by omega) (by simp; omega) ?_; (intro u hu; simp at hu; subst hu; rfl); intro v' w1 hown1 hgrow)
          rw [Hsn.out] at hown1
          have hb1 : Below w.heap.size w w1 := (hbel.alloc hsz _).grown hgrow (by simp; omega) (fun j hj => (hown.lt j hj).1)
          clear hown hgrow hbel
          go_roundw
          case rel => exact ⟨q + 1, by omega, by go_num, hown1, hb1⟩
          case measure => simp [intOf]; omega
      · have Hsn := Lib.hid (at_snoc0 l at_ q hin)
        have Hr := Lib.hid hr
        by_cases h0 : 0 ≤ at_
        · have h3 : ¬ (at_ < 0) := by omega
          by_cases h1 : at_ < l.length
          · have h2 : ¬ ((q : Int) < (l.length : Int) - at_) := by omega
            clear hin hr
            go_wp2_with (at_builtin; refine wpList_append_row rfl (.tmp 65) (.tmp 68) 42 rfl w.heap.size 5 i0 (.int .u8 0) 1 1 Try.underlying42 hi hz0 hz1 hz2 rfl (by decide) _ q _ rfl (hown.alloc _) _ _ 1 _ rfl (row_one _ _ _) ?_ (by unfold maxLen; omega) (by omega) (by simp; omega) ?_; (intro u hu; simp at hu; subst hu; rfl); intro v' w1 hown1 hgrow)
            rw [Hsn.out] at hown1
            have hb1 : Below w.heap.size w w1 := (hbel.alloc hsz _).grown hgrow (by simp; omega) (fun j hj => (hown.lt j hj).1)
            clear hown hgrow hbel
            go_roundw
            case rel => exact ⟨q + 1, by omega, by go_num, hown1, hb1⟩
            case measure => simp [intOf]; omega
          · clear hin hr
            go_wp2_with (at_builtin; refine wpList_append_row rfl (.tmp 65) (.tmp 68) 42 rfl w.heap.size 5 i0 (.int .u8 0) 1 1 Try.underlying42 hi hz0 hz1 hz2 rfl (by decide) _ q _ rfl (hown.alloc _) _ _ 1 _ rfl (row_one _ _ _) ?_ (by unfold maxLen; omega) (by omega) (by simp; omega) ?_; (intro u hu; simp at hu; subst hu; rfl); intro v' w1 hown1 hgrow)
            rw [Hsn.out] at hown1
            have hb1 : Below w.heap.size w w1 := (hbel.alloc hsz _).grown hgrow (by simp; omega) (fun j hj => (hown.lt j hj).1)
            clear hown hgrow hbel
            go_roundw
            case rel => exact ⟨q + 1, by omega, by go_num, hown1, hb1⟩
            case measure => simp [intOf]; omega
        · have h3 : at_ < 0 := by omega
          by_cases h4 : (-4 : Int) ≤ at_
          · by_cases h5 : 0 ≤ at_ + q
            · have h6 : ¬ (at_ + q < l.length) := by omega
              clear hin hr
              go_wp2_with (at_builtin; refine wpList_append_row rfl (.tmp 65) (.tmp 68) 42 rfl w.heap.size 5 i0 (.int .u8 0) 1 1 Try.underlying42 hi hz0 hz1 hz2 rfl (by decide) _ q _ rfl (hown.alloc _) _ _ 1 _ rfl (row_one _ _ _) ?_ (by unfold maxLen; omega) (by omega) (by simp; omega) ?_; (intro u hu; simp at hu; subst hu; rfl); intro v' w1 hown1 hgrow)
              rw [Hsn.out] at hown1
              have hb1 : Below w.heap.size w w1 := (hbel.alloc hsz _).grown hgrow (by simp; omega) (fun j hj => (hown.lt j hj).1)
              clear hown hgrow hbel
              go_roundw
              case rel => exact ⟨q + 1, by omega, by go_num, hown1, hb1⟩
              case measure => simp [intOf]; omega
            · clear hin hr
              go_wp2_with (at_builtin; refine wpList_append_row rfl (.tmp 65) (.tmp 68) 42 rfl w.heap.size 5 i0 (.int .u8 0) 1 1 Try.underlying42 hi hz0 hz1 hz2 rfl (by decide) _ q _ rfl (hown.alloc _) _ _ 1 _ rfl (row_one _ _ _) ?_ (by unfold maxLen; omega) (by omega) (by simp; omega) ?_; (intro u hu; simp at hu; subst hu; rfl); intro v' w1 hown1 hgrow)
              rw [Hsn.out] at hown1
              have hb1 : Below w.heap.size w w1 := (hbel.alloc hsz _).grown hgrow (by simp; omega) (fun j hj => (hown.lt j hj).1)
              clear hown hgrow hbel
              go_roundw
              case rel => exact ⟨q + 1, by omega, by go_num, hown1, hb1⟩
              case measure => simp [intOf]; omega
          · clear hin hr
            go_wp2_with (at_builtin; refine wpList_append_row rfl (.tmp 65) (.tmp 68) 42 rfl w.heap.size 5 i0 (.int .u8 0) 1 1 Try.underlying42 hi hz0 hz1 hz2 rfl (by decide) _ q _ rfl (hown.alloc _) _ _ 1 _ rfl (row_one _ _ _) ?_ (by unfold maxLen; omega) (by omega) (by simp; omega) ?_; (intro u hu; simp at hu; subst hu; rfl); intro v' w1 hown1 hgrow)
            rw [Hsn.out] at hown1
            have hb1 : Below w.heap.size w w1 := (hbel.alloc hsz _).grown hgrow (by simp; omega) (fun j hj => (hown.lt j hj).1)
            clear hown hgrow hbel
            go_roundw
            case rel => exact ⟨q + 1, by omega, by go_num, hown1, hb1⟩
            case measure => simp [intOf]; omega
    · obtain rfl : n = q := by omega
      have hrow := Row.of_owns hown
      have hcv := run_bytes_row (P := Try.prog) (src := 42) (dst := 9) (l := (List.range n).map (atV l at_)) Try.underlying42 Try.underlying5 Try.underlying9 (by rw [List.length_map, List.length_range]; exact hrow)
      clear hrow hown
      go_wp2
      go_ret
      exact ⟨rfl, hbel⟩

set_option maxHeartbeats 800000 in
theorem refAt12_low (v : Value) (B : Nat) (l : List Int) (at_ k : Int) (w : World) (hr : Row w B 1 v l.length (ints l)) (hB : B ≤ w.heap.size) (hl : l.length ≤ 140737488355328) (ha : -9223372036854775808 ≤ at_ ∧ at_ ≤ 9223372036854775807) (hk : k < 0) :
    Calls Try.prog 25 #[v, .int .i64 at_, .int .i64 k] w fun e w' => e = .returned (.string (atB l at_ 0)) ∧ Below w.heap.size w w' := by
  obtain ⟨i0, hi, hz0, hz1, hz2⟩ := info_parts info_byte
  obtain ⟨ao, c, rfl, _, _⟩ := hr.val
  go_enter Try.func25, Try.ntmps25
  go_wp2_with fail
  go_loopw [7, 8] (fun v i wr => ∃ q : Nat, q ≤ 0 ∧ i = .int .i64 q ∧ wr.ownsRow w.heap.size 5 1 v q (bys ((List.range q).map (atV l at_))) ∧ Below w.heap.size w wr) (fun _ i _ => 0 - (intOf i).toNat)
  case atStart => exact ⟨0, by omega, rfl, World.ownsRow_made _ _ 0 (Nat.le_refl _) (Nat.zero_le _) rfl, (Below.refl _ w).alloc (Nat.le_refl _) _⟩
  case round =>
    obtain ⟨q, hq, rfl, hown, hbel⟩ := hrel
    by_cases hlt : q < 0
    · exact absurd hlt (by omega)
    · obtain rfl : q = 0 := by omega
      have hrow := Row.of_owns hown
      have hcv := run_bytes_row (P := Try.prog) (src := 42) (dst := 9) (l := (List.range 0).map (atV l at_)) Try.underlying42 Try.underlying5 Try.underlying9 (by rw [List.length_map, List.length_range]; exact hrow)
      clear hrow hown
      go_wp2
      go_ret
      exact ⟨rfl, hbel⟩

set_option maxHeartbeats 800000 in
theorem refAt12_high (v : Value) (B : Nat) (l : List Int) (at_ k : Int) (w : World) (hr : Row w B 1 v l.length (ints l)) (hB : B ≤ w.heap.size) (hl : l.length ≤ 140737488355328) (ha : -9223372036854775808 ≤ at_ ∧ at_ ≤ 9223372036854775807) (hk : 4 < k) :
    Calls Try.prog 25 #[v, .int .i64 at_, .int .i64 k] w fun e w' => e = .returned (.string (atB l at_ 4)) ∧ Below w.heap.size w w' := by
  obtain ⟨i0, hi, hz0, hz1, hz2⟩ := info_parts info_byte
  obtain ⟨ao, c, rfl, _, _⟩ := hr.val
  go_enter Try.func25, Try.ntmps25
  go_wp2_with fail
  go_loopw [7, 8] (fun v i wr => ∃ q : Nat, q ≤ 4 ∧ i = .int .i64 q ∧ wr.ownsRow w.heap.size 5 1 v q (bys ((List.range q).map (atV l at_))) ∧ Below w.heap.size w wr) (fun _ i _ => 4 - (intOf i).toNat)
  case atStart => exact ⟨0, by omega, rfl, World.ownsRow_made _ _ 0 (Nat.le_refl _) (Nat.zero_le _) rfl, (Below.refl _ w).alloc (Nat.le_refl _) _⟩
  case round =>
    obtain ⟨q, hq, rfl, hown, hbel⟩ := hrel
    by_cases hlt : q < 4
    · have hsz := hbel.size
      by_cases hin : 0 ≤ at_ + q ∧ at_ + q < l.length
      · obtain ⟨j, hj⟩ := Int.eq_ofNat_of_zero_le hin.1
        have hjl : j < l.length := by omega
        have hrk := (hr.below (hbel.mono hB))
        obtain ⟨b, off, rfl, hbB, _⟩ := hrk.at (by rw [ints_length]; omega)
        have hc := hrk.cell j _ (ints_at l j hjl)
        have Hsn := Lib.hid (at_snoc l at_ q j hjl hj)
        have Hr := Lib.hid hr; have Hrk := Lib.hid hrk
        obtain rfl : at_ = (j : Int) - q := by omega
        have hw' : ((j : Int) - q + q) = j := by omega
        by_cases h0 : 0 ≤ (j : Int) - q
        · have h1 : (j : Int) - q < l.length := by omega
          have h2 : (q : Int) < (l.length : Int) - ((j : Int) - q) := by omega
          have h3 : ¬ ((j : Int) - q < 0) := by omega
          clear hrk hr hin hj
          go_wp2_with (at_builtin; refine wpList_append_row rfl (.tmp 65) (.tmp 68) 42 rfl w.heap.size 5 i0 (.int .u8 0) 1 1 Try.underlying42 hi hz0 hz1 hz2 rfl (by decide) _ q _ rfl (hown.alloc _) _ _ 1 _ rfl (row_one _ _ _) ?_ (by unfold maxLen; omega) (by omega) (by simp; omega) ?_; (intro u hu; simp at hu; subst hu; rfl); intro v' w1 hown1 hgrow)
          rw [Hsn.out] at hown1
          have hb1 : Below w.heap.size w w1 := (hbel.alloc hsz _).grown hgrow (by simp; omega) (fun j hj => (hown.lt j hj).1)
          clear hown hgrow hbel
          go_roundw
          case rel => exact ⟨q + 1, by omega, by go_num, hown1, hb1⟩
          case measure => simp [intOf]; omega
        · have h1 : (-4 : Int) ≤ (j : Int) - q := by omega
          have h3 : (j : Int) - q < 0 := by omega
          clear hrk hr hin hj
          go_wp2_with (at_builtin; refine wpList_append_row rfl (.tmp 65) (.tmp 68) 42 rfl w.heap.size 5 i0 (.int .u8 0) 1 1 Try.underlying42 hi hz0 hz1 hz2 rfl (by decide) _ q _ rfl (hown.alloc _) _ _ 1 _ rfl (row_one _ _ _) ?_ (by unfold maxLen; omega) (by omega) (by simp; omega) ?_; (intro u hu; simp at hu; subst hu; rfl); intro v' w1 hown1 hgrow)
          rw [Hsn.out] at hown1
          have hb1 : Below w.heap.size w w1 := (hbel.alloc hsz _).grown hgrow (by simp; omega) (fun j hj => (hown.lt j hj).1)
          clear hown hgrow hbel
          go_roundw
          case rel => exact ⟨q + 1, by omega, by go_num, hown1, hb1⟩
          case measure => simp [intOf]; omega
      · have Hsn := Lib.hid (at_snoc0 l at_ q hin)
        have Hr := Lib.hid hr
        by_cases h0 : 0 ≤ at_
        · have h3 : ¬ (at_ < 0) := by omega
          by_cases h1 : at_ < l.length
          · have h2 : ¬ ((q : Int) < (l.length : Int) - at_) := by omega
            clear hin hr
            go_wp2_with (at_builtin; refine wpList_append_row rfl (.tmp 65) (.tmp 68) 42 rfl w.heap.size 5 i0 (.int .u8 0) 1 1 Try.underlying42 hi hz0 hz1 hz2 rfl (by decide) _ q _ rfl (hown.alloc _) _ _ 1 _ rfl (row_one _ _ _) ?_ (by unfold maxLen; omega) (by omega) (by simp; omega) ?_; (intro u hu; simp at hu; subst hu; rfl); intro v' w1 hown1 hgrow)
            rw [Hsn.out] at hown1
            have hb1 : Below w.heap.size w w1 := (hbel.alloc hsz _).grown hgrow (by simp; omega) (fun j hj => (hown.lt j hj).1)
            clear hown hgrow hbel
            go_roundw
            case rel => exact ⟨q + 1, by omega, by go_num, hown1, hb1⟩
            case measure => simp [intOf]; omega
          · clear hin hr
            go_wp2_with (at_builtin; refine wpList_append_row rfl (.tmp 65) (.tmp 68) 42 rfl w.heap.size 5 i0 (.int .u8 0) 1 1 Try.underlying42 hi hz0 hz1 hz2 rfl (by decide) _ q _ rfl (hown.alloc _) _ _ 1 _ rfl (row_one _ _ _) ?_ (by unfold maxLen; omega) (by omega) (by simp; omega) ?_; (intro u hu; simp at hu; subst hu; rfl); intro v' w1 hown1 hgrow)
            rw [Hsn.out] at hown1
            have hb1 : Below w.heap.size w w1 := (hbel.alloc hsz _).grown hgrow (by simp; omega) (fun j hj => (hown.lt j hj).1)
            clear hown hgrow hbel
            go_roundw
            case rel => exact ⟨q + 1, by omega, by go_num, hown1, hb1⟩
            case measure => simp [intOf]; omega
        · have h3 : at_ < 0 := by omega
          by_cases h4 : (-4 : Int) ≤ at_
          · by_cases h5 : 0 ≤ at_ + q
            · have h6 : ¬ (at_ + q < l.length) := by omega
              clear hin hr
              go_wp2_with (at_builtin; refine wpList_append_row rfl (.tmp 65) (.tmp 68) 42 rfl w.heap.size 5 i0 (.int .u8 0) 1 1 Try.underlying42 hi hz0 hz1 hz2 rfl (by decide) _ q _ rfl (hown.alloc _) _ _ 1 _ rfl (row_one _ _ _) ?_ (by unfold maxLen; omega) (by omega) (by simp; omega) ?_; (intro u hu; simp at hu; subst hu; rfl); intro v' w1 hown1 hgrow)
              rw [Hsn.out] at hown1
              have hb1 : Below w.heap.size w w1 := (hbel.alloc hsz _).grown hgrow (by simp; omega) (fun j hj => (hown.lt j hj).1)
              clear hown hgrow hbel
              go_roundw
              case rel => exact ⟨q + 1, by omega, by go_num, hown1, hb1⟩
              case measure => simp [intOf]; omega
            · clear hin hr
              go_wp2_with (at_builtin; refine wpList_append_row rfl (.tmp 65) (.tmp 68) 42 rfl w.heap.size 5 i0 (.int .u8 0) 1 1 Try.underlying42 hi hz0 hz1 hz2 rfl (by decide) _ q _ rfl (hown.alloc _) _ _ 1 _ rfl (row_one _ _ _) ?_ (by unfold maxLen; omega) (by omega) (by simp; omega) ?_; (intro u hu; simp at hu; subst hu; rfl); intro v' w1 hown1 hgrow)
              rw [Hsn.out] at hown1
              have hb1 : Below w.heap.size w w1 := (hbel.alloc hsz _).grown hgrow (by simp; omega) (fun j hj => (hown.lt j hj).1)
              clear hown hgrow hbel
              go_roundw
              case rel => exact ⟨q + 1, by omega, by go_num, hown1, hb1⟩
              case measure => simp [intOf]; omega
          · clear hin hr
            go_wp2_with (at_builtin; refine wpList_append_row rfl (.tmp 65) (.tmp 68) 42 rfl w.heap.size 5 i0 (.int .u8 0) 1 1 Try.underlying42 hi hz0 hz1 hz2 rfl (by decide) _ q _ rfl (hown.alloc _) _ _ 1 _ rfl (row_one _ _ _) ?_ (by unfold maxLen; omega) (by omega) (by simp; omega) ?_; (intro u hu; simp at hu; subst hu; rfl); intro v' w1 hown1 hgrow)
            rw [Hsn.out] at hown1
            have hb1 : Below w.heap.size w w1 := (hbel.alloc hsz _).grown hgrow (by simp; omega) (fun j hj => (hown.lt j hj).1)
            clear hown hgrow hbel
            go_roundw
            case rel => exact ⟨q + 1, by omega, by go_num, hown1, hb1⟩
            case measure => simp [intOf]; omega
    · obtain rfl : q = 4 := by omega
      have hrow := Row.of_owns hown
      have hcv := run_bytes_row (P := Try.prog) (src := 42) (dst := 9) (l := (List.range 4).map (atV l at_)) Try.underlying42 Try.underlying5 Try.underlying9 (by rw [List.length_map, List.length_range]; exact hrow)
      clear hrow hown
      go_wp2
      go_ret
      exact ⟨rfl, hbel⟩

theorem refAt12_any (v : Value) (B : Nat) (l : List Int) (at_ k : Int) (w : World) (hr : Row w B 1 v l.length (ints l)) (hB : B ≤ w.heap.size) (hl : l.length ≤ 140737488355328) (ha : -9223372036854775808 ≤ at_ ∧ at_ ≤ 9223372036854775807) :
    Calls Try.prog 25 #[v, .int .i64 at_, .int .i64 k] w fun e w' => e = .returned (.string (atB l at_ (lookN k))) ∧ Below w.heap.size w w' := by
  unfold lookN
  by_cases h0 : k < 0
  · rw [if_pos h0]; exact refAt12_low v B l at_ k w hr hB hl ha h0
  · rw [if_neg h0]
    by_cases h4 : 4 < k
    · rw [if_pos h4]; exact refAt12_high v B l at_ k w hr hB hl ha h4
    · rw [if_neg h4]
      obtain ⟨n, rfl⟩ := Int.eq_ofNat_of_zero_le (show 0 ≤ k by omega)
      exact refAt12_mid v B l at_ n w hr hB hl ha (by omega)
end Go.Proofs.Ytjfehnjkijecpaa
