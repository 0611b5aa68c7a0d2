/-
  Programs' names: the walks of package word and of the document's answers.
-/
import Derived.Test.YtapmjkgndojdfaaDoorKeyw
namespace Go.Proofs.YtapmjkgndojdfaaDoor
open Go.RowKit
set_option linter.unusedVariables false

/-- Is the text a name of a rule? -/
def nameB (s : ByteArray) : Bool := letB s 97 && !inB s kwT
/-- Does the text begin with these bytes? -/
def preB (s : ByteArray) (p : ByteArray) : Bool := decide (p.size ≤ s.size) && ((s.extract 0 p.size).toList == p.toList)

theorem letB_size (s : ByteArray) (lo : Nat) (h : letB s lo = true) : 1 ≤ s.size ∧ s.size ≤ 20 := by
  unfold letB at h
  rw [Bool.and_eq_true] at h
  exact of_decide_eq_true h.1
theorem nameB_size (s : ByteArray) (h : nameB s = true) : 1 ≤ s.size ∧ s.size ≤ 20 := by
  unfold nameB at h
  rw [Bool.and_eq_true] at h
  exact letB_size s 97 h.1
theorem preB_no (s p : ByteArray) (h : ¬ p.size ≤ s.size) : preB s p = false := by unfold preB; rw [decide_eq_false h]; rfl
theorem preB_eq (s p : ByteArray) (h : p.size ≤ s.size) : preB s p = ((s.extract 0 p.size).toList == p.toList) := by unfold preB; rw [decide_eq_true h]; rfl
theorem preB_size (s p : ByteArray) (h : preB s p = true) : p.size ≤ s.size := by
  unfold preB at h
  rw [Bool.and_eq_true] at h
  exact of_decide_eq_true h.1
end Go.Proofs.YtapmjkgndojdfaaDoor
