/-
  The walks of tuple.Of and of the document's answer.
-/
import Derived.Test.YtjfehnjkijecpaaTupleC
namespace Go.Proofs.Ytjfehnjkijecpaa
open Go.RowKit

theorem info_byte : (Try.prog.info? 5).map (fun i => (i.zero, i.size, i.bytes)) = some (some (.int .u8 0), 1, 1) := by kernel_rfl

def toB (n : Int) : UInt8 := UInt8.ofNat (n % 256).toNat
theorem toB_nat (n : Int) : ((toB n).toNat : Int) = n % 256 := by
  unfold toB; rw [UInt8.toNat_ofNat']; omega
/-- The text of some numbers' last bytes. -/
def ofB (l : List Int) : ByteArray := ⟨(l.map toB).toArray⟩

/-- The bytes of the first k numbers, zeros behind. -/
def half (l : List Int) (k : Nat) : List Value := bys ((l.take k).map toB) ++ List.replicate (l.length - k) (.int .u8 0)
theorem half_zero (l : List Int) : half l 0 = List.replicate l.length (.int .u8 0) := by simp [half, bys]
theorem half_all (l : List Int) : half l l.length = bys (l.map toB) := by simp [half]
theorem half_set (l : List Int) (k : Nat) (h : k < l.length) : (half l k).set k (.int .u8 (l[k] % 256)) = half l (k + 1) := by
  unfold half
  rw [List.set_append, if_neg (by simp [bys]; omega)]
  have hk : (bys ((l.take k).map toB)).length = k := by simp [bys]; omega
  rw [hk, Nat.sub_self]
  obtain ⟨r, hr⟩ : ∃ r, l.length - k = r + 1 := ⟨l.length - k - 1, by omega⟩
  rw [hr, List.replicate_succ, List.set_cons_zero, show l.length - (k + 1) = r from by omega]
  rw [List.take_succ_eq_append_getElem h, List.map_append]
  simp [bys, toB_nat]

set_option maxHeartbeats 400000 in
theorem tupleOf_any (v : Value) (B : Nat) (l : List Int) (w : World) (hr : Row w B 1 v l.length (ints l)) (hB : B ≤ w.heap.size) (hl : l.length ≤ 140737488355328) :
    Calls Try.prog 21 #[v] w fun e w' => e = .returned (.string (ofB l)) ∧ Below w.heap.size w w' := by
  obtain ⟨i0, hi, hz0, hz1, hz2⟩ := info_parts info_byte
  obtain ⟨ao, c, rfl, _, _⟩ := hr.val
  go_enter Try.func21, Try.ntmps21
  go_wp2_with (at_make; refine wpList_make_full _ rfl _ _ 42 rfl w.heap.size 5 i0 (.int .u8 0) 1 Try.underlying42 hi hz0 hz1 .i64 .i64 _ _ l.length rfl rfl rfl rfl (by rw [hz2]; omega) (by unfold maxLen; omega) (Nat.le_refl _) ?_; intro w1 hown hgrow)
  have hown1 : w1.ownsRow w.heap.size 5 1 (.slice (some ⟨w.heap.size, 0, none⟩) l.length l.length) l.length (half l 0) := by
    rw [half_zero]
    have : (madeCells (Value.int .u8 0).cells (l.length * 1)).toList = List.replicate l.length (.int .u8 0) := by rw [Nat.mul_one]; exact toList_madeCells_one _ _
    rw [← this]; exact hown
  have hb1 : Below w.heap.size w w1 := (Below.refl _ w).grown hgrow (Nat.le_refl _) (fun k hk => by cases hk)
  clear hown hgrow
  go_loopw [11] (fun i wr => ∃ k : Nat, k ≤ l.length ∧ i = .int .i64 k ∧ wr.ownsRow w.heap.size 5 1 (.slice (some ⟨w.heap.size, 0, none⟩) l.length l.length) l.length (half l k) ∧ Below w.heap.size w wr) (fun i _ => l.length - (intOf i).toNat)
  case atStart => exact ⟨0, by omega, rfl, hown1, hb1⟩
  case round =>
    obtain ⟨k, hk, rfl, hown, hbel⟩ := hrel
    clear hown1 hb1
    by_cases hlt : k < l.length
    · have hrk := (hr.below (hbel.mono hB))
      obtain ⟨b, off, rfl, hbB, _⟩ := hrk.at (by rw [ints_length]; omega)
      have hc := hrk.cell k _ (ints_at l k hlt)
      have ho := hown.cellAt k (by omega)
      have hof := hown.frozenAt k
      have hst := hown.stored k (.int .u8 (l[k] % 256))
      rw [half_set l k hlt] at hst
      obtain ⟨u, hu⟩ : ∃ u, (half l k)[k]? = some u := ⟨_, List.getElem?_eq_getElem (by have := hown.1; omega)⟩
      rw [hu] at ho
      have Hst := Lib.hid hst; have Hr := Lib.hid hr; have Hrk := Lib.hid hrk
      clear hu hst hown hrk hr
      go_wp2
      go_roundw
      case rel => exact ⟨k + 1, by omega, by go_num, Hst.out.1, hbel.grown Hst.out.2 hbel.size (fun j hj => by cases hj; exact Nat.le_refl _)⟩
      case measure => simp [intOf]; omega
    · obtain rfl : k = l.length := by omega
      rw [half_all] at hown
      have hrow := Row.of_owns hown
      have hcv := run_bytes_row (P := Try.prog) (src := 42) (dst := 9) (l := l.map toB) Try.underlying42 Try.underlying5 Try.underlying9 (by rw [List.length_map]; exact hrow)
      clear hrow hown
      go_wp2
      go_ret
      exact ⟨rfl, hbel⟩

theorem bys_snoc (l : List Int) (k : Nat) (h : k < l.length) : bys ((l.take k).map toB) ++ [.int .u8 (l[k] % 256)] = bys ((l.take (k + 1)).map toB) := by
  rw [List.take_succ_eq_append_getElem h, List.map_append]; simp [bys, toB_nat]
/-- One new cell, as a row. -/
theorem row_one (w : World) (u : Value) (e : TypeId) : Row (w.alloc (.cells #[u] e)) (w.heap.size + 1) 1 (.slice (some ⟨w.heap.size, 0, none⟩) 1 1) 1 [u] := by
  refine ⟨rfl, by decide, .inr ⟨_, 1, rfl, Nat.le_refl _, by decide, .inr (Nat.lt_succ_self _), fun j x hx => ?_⟩⟩
  match j, hx with
  | 0, hx => simp at hx; subst hx; simp [Addr.add]

set_option maxHeartbeats 400000 in
theorem refOf12_any (v : Value) (B : Nat) (l : List Int) (w : World) (hr : Row w B 1 v l.length (ints l)) (hB : B ≤ w.heap.size) (hl : l.length ≤ 140737488355328) :
    Calls Try.prog 22 #[v] w fun e w' => e = .returned (.string (ofB l)) ∧ Below w.heap.size w w' := by
  obtain ⟨i0, hi, hz0, hz1, hz2⟩ := info_parts info_byte
  obtain ⟨ao, c, rfl, _, _⟩ := hr.val
  go_enter Try.func22, Try.ntmps22
  go_wp2_with fail
  go_loopw [3, 4] (fun v i wr => ∃ k : Nat, k ≤ l.length ∧ i = .int .i64 k ∧ wr.ownsRow w.heap.size 5 1 v k (bys ((l.take k).map toB)) ∧ Below w.heap.size w wr) (fun _ i _ => l.length - (intOf i).toNat)
  case atStart => exact ⟨0, by omega, rfl, World.ownsRow_made _ _ 0 (Nat.le_refl _) (Nat.zero_le _) rfl, (Below.refl _ w).alloc (Nat.le_refl _) _⟩
  case round =>
    obtain ⟨k, hk, rfl, hown, hbel⟩ := hrel
    by_cases hlt : k < l.length
    · have hrk := (hr.below (hbel.mono hB))
      obtain ⟨b, off, rfl, hbB, _⟩ := hrk.at (by rw [ints_length]; omega)
      have hc := hrk.cell k _ (ints_at l k hlt)
      have Hr := Lib.hid hr; have Hrk := Lib.hid hrk; have Hsn := Lib.hid (bys_snoc l k hlt)
      have hsz := hbel.size
      clear hrk hr
      go_wp2_with (at_builtin; refine wpList_append_row rfl (.tmp 12) (.tmp 18) 42 rfl w.heap.size 5 i0 (.int .u8 0) 1 1 Try.underlying42 hi hz0 hz1 hz2 rfl (by decide) _ k _ rfl (hown.alloc _) _ _ 1 _ rfl (row_one _ _ _) ?_ (by unfold maxLen; omega) (by omega) (by simp; omega) ?_; (intro u hu; simp at hu; subst hu; rfl); intro v' w1 hown1 hgrow)
      rw [Hsn.out] at hown1
      have hb1 : Below w.heap.size w w1 := (hbel.alloc hsz _).grown hgrow (by simp; omega) (fun j hj => (hown.lt j hj).1)
      clear hown hgrow hbel
      go_roundw
      case rel => exact ⟨k + 1, by omega, by go_num, hown1, hb1⟩
      case measure => simp [intOf]; omega
    · obtain rfl : k = l.length := by omega
      rw [List.take_length] at hown
      have hrow := Row.of_owns hown
      have hcv := run_bytes_row (P := Try.prog) (src := 42) (dst := 9) (l := l.map toB) Try.underlying42 Try.underlying5 Try.underlying9 (by rw [List.length_map]; exact hrow)
      clear hrow hown
      go_wp2
      go_ret
      exact ⟨rfl, hbel⟩
end Go.Proofs.Ytjfehnjkijecpaa
