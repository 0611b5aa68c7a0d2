/-
  tuple.At at lengths below 0 and above 4.
-/
import Derived.Test.YtjfehnjkijecpaaTupleA
namespace Go.Proofs.Ytjfehnjkijecpaa
open Go.RowKit
set_option linter.unusedVariables false

set_option maxHeartbeats 400000 in
theorem tupleAt_low (v : Value) (B : Nat) (l : List Int) (at_ k : Int) (w : World) (hr : Row w B 1 v l.length (ints l)) (hB : B ≤ w.heap.size) (hl : l.length ≤ 140737488355328) (ha : -9223372036854775808 ≤ at_ ∧ at_ ≤ 9223372036854775807) (hk : k < 0) :
    Calls Try.prog 24 #[v, .int .i64 at_, .int .i64 k] w fun e w' => e = .returned (.string (atB l at_ 0)) ∧ Below w.heap.size w w' := by
  obtain ⟨i0, hi, hz0, hz1, hz2⟩ := info_parts info_byte
  obtain ⟨ao, c, rfl, _, _⟩ := hr.val
  go_enter Try.func24, Try.ntmps24
  go_wp2_with (at_make; refine wpList_make_full _ rfl _ _ 42 rfl w.heap.size 5 i0 (.int .u8 0) 1 Try.underlying42 hi hz0 hz1 .i64 .i64 _ _ 0 rfl rfl rfl rfl (by rw [hz2]; omega) (by unfold maxLen; omega) (Nat.le_refl _) ?_; intro w1 hown hgrow)
  have hown1 : w1.ownsRow w.heap.size 5 1 (.slice (some ⟨w.heap.size, 0, none⟩) 0 0) 0 (halfAt l at_ 0 0) := by
    rw [halfAt_zero]
    have : (madeCells (Value.int .u8 0).cells (0 * 1)).toList = List.replicate 0 (.int .u8 0) := by rw [Nat.mul_one]; exact toList_madeCells_one _ _
    rw [← this]; exact hown
  have hb1 : Below w.heap.size w w1 := (Below.refl _ w).grown hgrow (Nat.le_refl _) (fun k hk => by cases hk)
  clear hown hgrow
  go_loopw [16] (fun i wr => ∃ k : Nat, k ≤ 0 ∧ i = .int .i64 k ∧ wr.ownsRow w.heap.size 5 1 (.slice (some ⟨w.heap.size, 0, none⟩) 0 0) 0 (halfAt l at_ 0 k) ∧ Below w.heap.size w wr) (fun i _ => 0 - (intOf i).toNat)
  case atStart => exact ⟨0, by omega, rfl, hown1, hb1⟩
  case round =>
    obtain ⟨q, hq, rfl, hown, hbel⟩ := hrel
    clear hown1 hb1
    by_cases hlt : q < 0
    · exact absurd hlt (by omega)
    · obtain rfl : q = 0 := by omega
      rw [halfAt_all] at hown
      have hrow := Row.of_owns hown
      have hcv := run_bytes_row (P := Try.prog) (src := 42) (dst := 9) (l := (List.range 0).map (atV l at_)) Try.underlying42 Try.underlying5 Try.underlying9 (by rw [List.length_map, List.length_range]; exact hrow)
      clear hrow hown
      go_wp2
      go_ret
      exact ⟨rfl, hbel⟩

set_option maxHeartbeats 400000 in
theorem tupleAt_high (v : Value) (B : Nat) (l : List Int) (at_ k : Int) (w : World) (hr : Row w B 1 v l.length (ints l)) (hB : B ≤ w.heap.size) (hl : l.length ≤ 140737488355328) (ha : -9223372036854775808 ≤ at_ ∧ at_ ≤ 9223372036854775807) (hk : 4 < k) :
    Calls Try.prog 24 #[v, .int .i64 at_, .int .i64 k] w fun e w' => e = .returned (.string (atB l at_ 4)) ∧ Below w.heap.size w w' := by
  obtain ⟨i0, hi, hz0, hz1, hz2⟩ := info_parts info_byte
  obtain ⟨ao, c, rfl, _, _⟩ := hr.val
  go_enter Try.func24, Try.ntmps24
  go_wp2_with (at_make; refine wpList_make_full _ rfl _ _ 42 rfl w.heap.size 5 i0 (.int .u8 0) 1 Try.underlying42 hi hz0 hz1 .i64 .i64 _ _ 4 rfl rfl rfl rfl (by rw [hz2]; omega) (by unfold maxLen; omega) (Nat.le_refl _) ?_; intro w1 hown hgrow)
  have hown1 : w1.ownsRow w.heap.size 5 1 (.slice (some ⟨w.heap.size, 0, none⟩) 4 4) 4 (halfAt l at_ 4 0) := by
    rw [halfAt_zero]
    have : (madeCells (Value.int .u8 0).cells (4 * 1)).toList = List.replicate 4 (.int .u8 0) := by rw [Nat.mul_one]; exact toList_madeCells_one _ _
    rw [← this]; exact hown
  have hb1 : Below w.heap.size w w1 := (Below.refl _ w).grown hgrow (Nat.le_refl _) (fun k hk => by cases hk)
  clear hown hgrow
  go_loopw [16] (fun i wr => ∃ k : Nat, k ≤ 4 ∧ i = .int .i64 k ∧ wr.ownsRow w.heap.size 5 1 (.slice (some ⟨w.heap.size, 0, none⟩) 4 4) 4 (halfAt l at_ 4 k) ∧ Below w.heap.size w wr) (fun i _ => 4 - (intOf i).toNat)
  case atStart => exact ⟨0, by omega, rfl, hown1, hb1⟩
  case round =>
    obtain ⟨q, hq, rfl, hown, hbel⟩ := hrel
    clear hown1 hb1
    by_cases hlt : q < 4
    · by_cases hin : 0 ≤ at_ + q ∧ at_ + q < l.length
      · obtain ⟨j, hj⟩ := Int.eq_ofNat_of_zero_le hin.1
        have hjl : j < l.length := by omega
        have hrk := (hr.below (hbel.mono hB))
        obtain ⟨b, off, rfl, hbB, _⟩ := hrk.at (by rw [ints_length]; omega)
        have hc := hrk.cell j _ (ints_at l j hjl)
        have hst := hown.stored q (.int .u8 (l[j] % 256))
        rw [halfAt_set l at_ 4 q hlt j hjl hj] at hst
        have ho := hown.cellAt q (by omega)
        have hof := hown.frozenAt q
        obtain ⟨u, hu⟩ : ∃ u, (halfAt l at_ 4 q)[q]? = some u := ⟨_, List.getElem?_eq_getElem (by have := hown.1; omega)⟩
        rw [hu] at ho
        have Hst := Lib.hid hst; have Hr := Lib.hid hr; have Hrk := Lib.hid hrk
        obtain rfl : at_ = (j : Int) - q := by omega
        have hw : wrap64 ((j : Int) - q + q) = j := by unfold wrap64; omega
        have hw' : ((j : Int) - q + q) = j := by omega
        clear hu hst hown hrk hr hin hj
        go_wp2
        go_roundw
        case rel => exact ⟨q + 1, by omega, by go_num, Hst.out.1, hbel.grown Hst.out.2 hbel.size (fun j hj => by cases hj; exact Nat.le_refl _)⟩
        case measure => simp [intOf]; omega
      · have hst : halfAt l at_ 4 q = halfAt l at_ 4 (q + 1) := halfAt_step l at_ 4 q hlt hin
        rw [hst] at hown
        have Hst := Lib.hid hst; clear hst
        by_cases hov : at_ + q ≤ 9223372036854775807
        · by_cases h0 : 0 ≤ at_ + q
          · have h1 : ¬ (at_ + q < l.length) := by omega
            clear hin
            go_wp2
            go_roundw
            case rel => exact ⟨q + 1, by omega, by go_num, hown, hbel⟩
            case measure => simp [intOf]; omega
          · clear hin
            go_wp2
            go_roundw
            case rel => exact ⟨q + 1, by omega, by go_num, hown, hbel⟩
            case measure => simp [intOf]; omega
        · have h0 : wrap64 (at_ + q) < 0 := by unfold wrap64; omega
          clear hin
          go_wp2
          go_roundw
          case rel => exact ⟨q + 1, by omega, by go_num, hown, hbel⟩
          case measure => simp [intOf]; omega
    · obtain rfl : q = 4 := by omega
      rw [halfAt_all] at hown
      have hrow := Row.of_owns hown
      have hcv := run_bytes_row (P := Try.prog) (src := 42) (dst := 9) (l := (List.range 4).map (atV l at_)) Try.underlying42 Try.underlying5 Try.underlying9 (by rw [List.length_map, List.length_range]; exact hrow)
      clear hrow hown
      go_wp2
      go_ret
      exact ⟨rfl, hbel⟩

/-- How many tokens ahead. -/
def lookN (k : Int) : Nat := if k < 0 then 0 else if 4 < k then 4 else k.toNat
theorem tupleAt_any (v : Value) (B : Nat) (l : List Int) (at_ k : Int) (w : World) (hr : Row w B 1 v l.length (ints l)) (hB : B ≤ w.heap.size) (hl : l.length ≤ 140737488355328) (ha : -9223372036854775808 ≤ at_ ∧ at_ ≤ 9223372036854775807) :
    Calls Try.prog 24 #[v, .int .i64 at_, .int .i64 k] w fun e w' => e = .returned (.string (atB l at_ (lookN k))) ∧ Below w.heap.size w w' := by
  unfold lookN
  by_cases h0 : k < 0
  · rw [if_pos h0]; exact tupleAt_low v B l at_ k w hr hB hl ha h0
  · rw [if_neg h0]
    by_cases h4 : 4 < k
    · rw [if_pos h4]; exact tupleAt_high v B l at_ k w hr hB hl ha h4
    · rw [if_neg h4]
      obtain ⟨n, rfl⟩ := Int.eq_ofNat_of_zero_le (show 0 ≤ k by omega)
      exact tupleAt_mid v B l at_ n w hr hB hl ha (by omega)
end Go.Proofs.Ytjfehnjkijecpaa
