/-
  The walks of tuple.At and of the document's answer.
-/
import Derived.Test.YtjfehnjkijecpaaTupleO
namespace Go.Proofs.Ytjfehnjkijecpaa
open Go.RowKit
set_option linter.unusedVariables false

/-- The token at a place and i behind; 0, where there is none. -/
def atV (l : List Int) (at_ : Int) (i : Nat) : UInt8 := if 0 ≤ at_ + i ∧ at_ + i < l.length then toB (l.getD (at_ + i).toNat 0) else 0
def atB (l : List Int) (at_ : Int) (m : Nat) : ByteArray := ⟨((List.range m).map (atV l at_)).toArray⟩
def halfAt (l : List Int) (at_ : Int) (m k : Nat) : List Value := bys ((List.range k).map (atV l at_)) ++ List.replicate (m - k) (.int .u8 0)
theorem halfAt_zero (l at_ m) : halfAt l at_ m 0 = List.replicate m (.int .u8 0) := by simp [halfAt, bys]
theorem halfAt_all (l at_ m) : halfAt l at_ m m = bys ((List.range m).map (atV l at_)) := by simp [halfAt]
theorem halfAt_put (l : List Int) (at_ : Int) (m q : Nat) (h : q < m) (b : UInt8) (hb : atV l at_ q = b) : (halfAt l at_ m q).set q (.int .u8 (b.toNat : Int)) = halfAt l at_ m (q + 1) := by
  unfold halfAt
  rw [List.set_append, if_neg (by simp [bys])]
  have hk : (bys ((List.range q).map (atV l at_))).length = q := by simp [bys]
  rw [hk, Nat.sub_self]
  obtain ⟨r, hr⟩ : ∃ r, m - q = r + 1 := ⟨m - q - 1, by omega⟩
  rw [hr, List.replicate_succ, List.set_cons_zero, show m - (q + 1) = r from by omega, List.range_succ, List.map_append]
  simp [bys, hb]
theorem halfAt_set (l : List Int) (at_ : Int) (m q : Nat) (h : q < m) (j : Nat) (hj : j < l.length) (hja : at_ + q = j) : (halfAt l at_ m q).set q (.int .u8 (l[j] % 256)) = halfAt l at_ m (q + 1) := by
  rw [← toB_nat]
  refine halfAt_put l at_ m q h _ ?_
  unfold atV
  rw [if_pos (by omega), hja, Int.toNat_natCast, List.getD_eq_getElem?_getD, List.getElem?_eq_getElem hj]
  rfl
theorem halfAt_step (l : List Int) (at_ : Int) (m q : Nat) (h : q < m) (hn : ¬ (0 ≤ at_ + q ∧ at_ + q < l.length)) : halfAt l at_ m q = halfAt l at_ m (q + 1) := by
  rw [← halfAt_put l at_ m q h 0 (by unfold atV; rw [if_neg hn])]
  unfold halfAt
  rw [List.set_append, if_neg (by simp [bys])]
  have hk : (bys ((List.range q).map (atV l at_))).length = q := by simp [bys]
  rw [hk, Nat.sub_self]
  obtain ⟨r, hr⟩ : ∃ r, m - q = r + 1 := ⟨m - q - 1, by omega⟩
  rw [hr, List.replicate_succ, List.set_cons_zero]
  rfl

set_option maxHeartbeats 400000 in
theorem tupleAt_mid (v : Value) (B : Nat) (l : List Int) (at_ : Int) (n : Nat) (w : World) (hr : Row w B 1 v l.length (ints l)) (hB : B ≤ w.heap.size) (hl : l.length ≤ 140737488355328) (ha : -9223372036854775808 ≤ at_ ∧ at_ ≤ 9223372036854775807) (hn : n ≤ 4) :
    Calls Try.prog 24 #[v, .int .i64 at_, .int .i64 n] w fun e w' => e = .returned (.string (atB l at_ n)) ∧ Below w.heap.size w w' := by
  obtain ⟨i0, hi, hz0, hz1, hz2⟩ := info_parts info_byte
  obtain ⟨ao, c, rfl, _, _⟩ := hr.val
  go_enter Try.func24, Try.ntmps24
  go_wp2_with (at_make; refine wpList_make_full _ rfl _ _ 42 rfl w.heap.size 5 i0 (.int .u8 0) 1 Try.underlying42 hi hz0 hz1 .i64 .i64 _ _ n rfl rfl rfl rfl (by rw [hz2]; omega) (by unfold maxLen; omega) (Nat.le_refl _) ?_; intro w1 hown hgrow)
  have hown1 : w1.ownsRow w.heap.size 5 1 (.slice (some ⟨w.heap.size, 0, none⟩) n n) n (halfAt l at_ n 0) := by
    rw [halfAt_zero]
    have : (madeCells (Value.int .u8 0).cells (n * 1)).toList = List.replicate n (.int .u8 0) := by rw [Nat.mul_one]; exact toList_madeCells_one _ _
    rw [← this]; exact hown
  have hb1 : Below w.heap.size w w1 := (Below.refl _ w).grown hgrow (Nat.le_refl _) (fun k hk => by cases hk)
  clear hown hgrow
  go_loopw [16] (fun i wr => ∃ k : Nat, k ≤ n ∧ i = .int .i64 k ∧ wr.ownsRow w.heap.size 5 1 (.slice (some ⟨w.heap.size, 0, none⟩) n n) n (halfAt l at_ n k) ∧ Below w.heap.size w wr) (fun i _ => n - (intOf i).toNat)
  case atStart => exact ⟨0, by omega, rfl, hown1, hb1⟩
  case round =>
    obtain ⟨q, hq, rfl, hown, hbel⟩ := hrel
    clear hown1 hb1
    by_cases hlt : q < n
    · by_cases hin : 0 ≤ at_ + q ∧ at_ + q < l.length
      · obtain ⟨j, hj⟩ := Int.eq_ofNat_of_zero_le hin.1
        have hjl : j < l.length := by omega
        have hrk := (hr.below (hbel.mono hB))
        obtain ⟨b, off, rfl, hbB, _⟩ := hrk.at (by rw [ints_length]; omega)
        have hc := hrk.cell j _ (ints_at l j hjl)
        have hst := hown.stored q (.int .u8 (l[j] % 256))
        rw [halfAt_set l at_ n q hlt j hjl hj] at hst
        have ho := hown.cellAt q (by omega)
        have hof := hown.frozenAt q
        obtain ⟨u, hu⟩ : ∃ u, (halfAt l at_ n q)[q]? = some u := ⟨_, List.getElem?_eq_getElem (by have := hown.1; omega)⟩
        rw [hu] at ho
        have Hst := Lib.hid hst; have Hr := Lib.hid hr; have Hrk := Lib.hid hrk
        obtain rfl : at_ = (j : Int) - q := by omega
        have hw : wrap64 ((j : Int) - q + q) = j := by unfold wrap64; omega
        have hw' : ((j : Int) - q + q) = j := by omega
        clear hu hst hown hrk hr hin hj
        go_wp2
        go_roundw
        case rel => exact ⟨q + 1, by omega, by go_num, Hst.out.1, hbel.grown Hst.out.2 hbel.size (fun j hj => by cases hj; exact Nat.le_refl _)⟩
        case measure => simp [intOf]; omega
      · have hst : halfAt l at_ n q = halfAt l at_ n (q + 1) := halfAt_step l at_ n q hlt hin
        rw [hst] at hown
        have Hst := Lib.hid hst; clear hst
        by_cases hov : at_ + q ≤ 9223372036854775807
        · by_cases h0 : 0 ≤ at_ + q
          · have h1 : ¬ (at_ + q < l.length) := by omega
            clear hin
            go_wp2
            go_roundw
            case rel => exact ⟨q + 1, by omega, by go_num, hown, hbel⟩
            case measure => simp [intOf]; omega
          · clear hin
            go_wp2
            go_roundw
            case rel => exact ⟨q + 1, by omega, by go_num, hown, hbel⟩
            case measure => simp [intOf]; omega
        · have h0 : wrap64 (at_ + q) < 0 := by unfold wrap64; omega
          clear hin
          go_wp2
          go_roundw
          case rel => exact ⟨q + 1, by omega, by go_num, hown, hbel⟩
          case measure => simp [intOf]; omega
    · obtain rfl : n = q := by omega
      rw [halfAt_all] at hown
      have hrow := Row.of_owns hown
      have hcv := run_bytes_row (P := Try.prog) (src := 42) (dst := 9) (l := (List.range n).map (atV l at_)) Try.underlying42 Try.underlying5 Try.underlying9 (by rw [List.length_map, List.length_range]; exact hrow)
      clear hrow hown
      go_wp2
      go_ret
      exact ⟨rfl, hbel⟩
end Go.Proofs.Ytjfehnjkijecpaa
