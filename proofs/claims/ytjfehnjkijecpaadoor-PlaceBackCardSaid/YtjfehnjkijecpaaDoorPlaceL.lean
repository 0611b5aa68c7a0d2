/-
  The walks of gramaryelaw01's helpers.
-/
import Derived.Test.YtjfehnjkijecpaaDoorPlaceA
namespace Go.Proofs.YtjfehnjkijecpaaDoor
open Go.RowKit

def PlaceShort (w : World) (e : Ending) (w' : World) : Prop := ∃ t : ByteArray, e = .returned (.string t) ∧ t.size ≤ 300 ∧ w = w'

set_option maxHeartbeats 400000 in
theorem law01short_any (s : ByteArray) (w : World) (hs : s.size ≤ maxLen) :
    Calls Tryd.prog 11 #[.string s] w (PlaceShort w) := by
  unfold maxLen at hs
  by_cases h : s.size ≤ 300
  · go_enter Tryd.func11, Tryd.ntmps11
    go_wp2
    go_ret
    refine ⟨_, rfl, ?_, rfl⟩
    first | assumption | (rw [ByteArray.size_extract]; omega)
  · go_enter Tryd.func11, Tryd.ntmps11
    go_wp2
    go_ret
    refine ⟨_, rfl, ?_, rfl⟩
    first | assumption | (rw [ByteArray.size_extract]; omega)

theorem placeOf_ex (w : World) :
    Calls Tryd.prog 15 #[.string { data := #[97, 10, 98, 99] }, .int .i64 3] w fun e w' => e = .returned (.tuple #[.int .i64 2, .int .i64 2, .int .i64 0]) ∧ w' = w :=
  placeOf_good ⟨#[97, 10, 98, 99]⟩ 3 w (by decide) (by decide)
theorem placeLines_ex (w : World) :
    Calls Tryd.prog 38 #[.string { data := #[97, 10, 98, 99] }] w fun e w' => e = .returned (.int .i64 2) ∧ w' = w :=
  placeLines_any ⟨#[97, 10, 98, 99]⟩ w (by decide)

set_option maxHeartbeats 400000 in
theorem law01works_any (w : World) : Calls Tryd.prog 10 #[] w fun e w' => e = .returned (.bool true) ∧ w' = w := by
  go_enter Tryd.func10, Tryd.ntmps10
  go_wp2_with fail
  refine (placeOf_ex _).mono ?_
  rintro e w' ⟨rfl, rfl⟩
  go_wp2_with fail
  refine (placeLines_ex _).mono ?_
  rintro e w' ⟨rfl, rfl⟩
  go_wp2_with fail
  go_ret
  exact ⟨rfl, rfl⟩

theorem int64_of_wf {a : Int} (h : (Lit.int .i64 a).wf = true) : -9223372036854775808 ≤ a ∧ a ≤ 9223372036854775807 := by
  simpa [Lit.wf, IntKind.min, IntKind.max, IntKind.signed, IntKind.bits] using h

end Go.Proofs.YtjfehnjkijecpaaDoor
