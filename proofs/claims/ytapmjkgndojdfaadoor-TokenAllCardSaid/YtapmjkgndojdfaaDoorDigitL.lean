/-
  The walks of the statements on digits.
-/
import Derived.Test.YtapmjkgndojdfaaDoorDigitP
namespace Go.Proofs.YtapmjkgndojdfaaDoor
open Go.RowKit
set_option linter.unusedVariables false

set_option maxHeartbeats 400000 in
theorem refParse_yes (n : Nat) (w : World) (hn : n ≤ 2147483647) :
    Calls Tryd.prog 26 #[.string (decS n)] w fun e w' => e = .returned (.tuple #[.int .i64 n, .int .i64 0]) ∧ w = w' := by
  go_enter Tryd.func26, Tryd.ntmps26
  go_wp2_with fail
  refine (baseWhole_yes n _ hn).mono ?_
  rintro e w1 ⟨rfl, rfl⟩
  have h1 : ¬ (2147483647 : Int) < (n : Int) := by omega
  go_wp2_with fail
  go_ret2
  exact ⟨rfl, rfl⟩
set_option maxHeartbeats 400000 in
theorem refParse_no (s : ByteArray) (w : World) (hs : s.size ≤ maxLen) (hno : ∀ n, ¬ IsNum s n) :
    Calls Tryd.prog 26 #[.string s] w fun e w' => e = .returned (.tuple #[.int .i64 0, .int .i64 5]) ∧ w = w' := by
  go_enter Tryd.func26, Tryd.ntmps26
  go_wp2_with fail
  refine (baseWhole_no s _ hs hno).mono ?_
  rintro e w1 ⟨n, b, rfl, hb, hn, rfl⟩
  have Hno := Lib.hid hno; clear hno
  cases b with
  | false =>
    go_wp2_with fail
    go_ret2
    exact ⟨rfl, rfl⟩
  | true =>
    have h1 : (2147483647 : Int) < (n : Int) := by
      rcases hb with hb | hb
      · cases hb
      · omega
    clear hb
    go_wp2_with fail
    go_ret2
    exact ⟨rfl, rfl⟩




end Go.Proofs.YtapmjkgndojdfaaDoor
