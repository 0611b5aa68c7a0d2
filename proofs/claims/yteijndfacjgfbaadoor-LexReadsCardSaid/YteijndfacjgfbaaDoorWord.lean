/-
  Programs' names: the walks of package word and of the document's answers.
-/
import Derived.Test.YteijndfacjgfbaaDoorKeyw
namespace Go.Proofs.YteijndfacjgfbaaDoor
open Go.RowKit
set_option linter.unusedVariables false

/-- Is the text a name of a rule? -/
def nameB (s : ByteArray) : Bool := letB s 97 && !inB s kwT
/-- Does the text begin with these bytes? -/
def preB (s : ByteArray) (p : ByteArray) : Bool := decide (p.size ≤ s.size) && ((s.extract 0 p.size).toList == p.toList)

theorem letB_size (s : ByteArray) (lo : Nat) (h : letB s lo = true) : 1 ≤ s.size ∧ s.size ≤ 20 := by
  unfold letB at h
  rw [Bool.and_eq_true] at h
  exact of_decide_eq_true h.1
theorem nameB_size (s : ByteArray) (h : nameB s = true) : 1 ≤ s.size ∧ s.size ≤ 20 := by
  unfold nameB at h
  rw [Bool.and_eq_true] at h
  exact letB_size s 97 h.1
theorem preB_no (s p : ByteArray) (h : ¬ p.size ≤ s.size) : preB s p = false := by unfold preB; rw [decide_eq_false h]; rfl
theorem preB_eq (s p : ByteArray) (h : p.size ≤ s.size) : preB s p = ((s.extract 0 p.size).toList == p.toList) := by unfold preB; rw [decide_eq_true h]; rfl
theorem preB_size (s p : ByteArray) (h : preB s p = true) : p.size ≤ s.size := by
  unfold preB at h
  rw [Bool.and_eq_true] at h
  exact of_decide_eq_true h.1
set_option maxRecDepth 100000 in
theorem name_any (s : ByteArray) (w : World) (hs : s.size ≤ maxLen) (hkw : StrsIs w 0 kwT) :
    Calls Tryd.prog 80 #[.string s] w fun e w' => e = .returned (.bool (nameB s)) ∧ w = w' := by
  have HN : Hid (nameB s = (letB s 97 && !inB s kwT)) := rfl
  have h1 := lettered97 s w hs
  have h2 := keyword_any s w hs hkw
  generalize letB s 97 = a at *
  generalize inB s kwT = b at *
  go_enter Tryd.func80, Tryd.ntmps80
  go_wp2_with fail
  refine h1.mono ?_
  rintro e w' ⟨rfl, rfl⟩
  cases a
  · go_wp2_with fail
    go_ret
    exact ⟨ret_bool HN.out.symm, rfl⟩
  · go_wp2_with fail
    refine h2.mono ?_
    rintro e w' ⟨rfl, rfl⟩
    go_wp2_with fail
    go_ret
    exact ⟨ret_bool HN.out.symm, rfl⟩
set_option maxRecDepth 100000 in
theorem refWord_any (s : ByteArray) (w : World) (hs : s.size ≤ maxLen) :
    Calls Tryd.prog 88 #[.string s] w fun e w' => e = .returned (.bool (letB s 97)) ∧ w = w' := by
  go_enter Tryd.func88, Tryd.ntmps88
  go_wp2_with fail
  refine (letters97 s w hs).mono ?_
  rintro e w' ⟨rfl, rfl⟩
  go_wp2_with fail
  go_ret
  exact ⟨rfl, rfl⟩
set_option maxRecDepth 100000 in
theorem refName_any (s : ByteArray) (w : World) (hs : s.size ≤ maxLen) :
    Calls Tryd.prog 75 #[.string s] w fun e w' => e = .returned (.bool (nameB s)) ∧ w = w' := by
  have HN : Hid (nameB s = (letB s 97 && !inB s kwT)) := rfl
  have h1 := refWord_any s w hs
  have h2 := refKeyword_any s w hs
  generalize letB s 97 = a at *
  generalize inB s kwT = b at *
  go_enter Tryd.func75, Tryd.ntmps75
  go_wp2_with fail
  refine h1.mono ?_
  rintro e w' ⟨rfl, rfl⟩
  cases a
  · go_wp2_with fail
    go_ret
    exact ⟨ret_bool HN.out.symm, rfl⟩
  · go_wp2_with fail
    refine h2.mono ?_
    rintro e w' ⟨rfl, rfl⟩
    go_wp2_with fail
    go_ret
    exact ⟨ret_bool HN.out.symm, rfl⟩
end Go.Proofs.YteijndfacjgfbaaDoor
