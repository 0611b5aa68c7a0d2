/-
  Names: letters, digits and _; the walks of package name's tests and of the document's.
-/
import Derived.Test.YtapmjkgndojdfaaDoorRows
import Derived.Test.YtapmjkgndojdfaaDoorSl
namespace Go.Proofs.YtapmjkgndojdfaaDoor
open Go.RowKit
set_option linter.unusedVariables false

theorem ret_bool {a b : Bool} (h : a = b) : Ending.returned (.bool a) = .returned (.bool b) := by rw [h]
/-- May the byte at j of a name stand there? -/
def chAt (s : ByteArray) (lo : Nat) (j : Nat) : Bool := decide ((lo ≤ (s.data.toList.getD j 0).toNat ∧ (s.data.toList.getD j 0).toNat ≤ lo + 25) ∨ (0 < j ∧ ((48 ≤ (s.data.toList.getD j 0).toNat ∧ (s.data.toList.getD j 0).toNat ≤ 57) ∨ (s.data.toList.getD j 0).toNat = 95)))
def letB (s : ByteArray) (lo : Nat) : Bool := decide (1 ≤ s.size ∧ s.size ≤ 20) && (List.range s.size).all (chAt s lo)
theorem nget (s : ByteArray) (j : Nat) (h : j < s.size) : s.data.toList.getD j 0 = s[j] := by
  have h' : j < s.data.size := h
  rw [List.getD_eq_getElem?_getD, List.getElem?_eq_getElem (by simpa using h'), Option.getD_some, Array.getElem_toList]
  rfl
theorem chStep (s : ByteArray) (lo m : Nat) (h : ∀ j, j < m → chAt s lo j = true) (hm : chAt s lo m = true) : ∀ j, j < m + 1 → chAt s lo j = true := by
  intro j hj
  rcases Nat.lt_or_ge j m with h1 | h1
  · exact h j h1
  · obtain rfl : j = m := by omega
    exact hm
theorem letB_out (s : ByteArray) (lo : Nat) (h : ¬ (1 ≤ s.size ∧ s.size ≤ 20)) : letB s lo = false := by
  unfold letB; rw [decide_eq_false h]; rfl
theorem letB_not (s : ByteArray) (lo m : Nat) (hm : m < s.size) (h : chAt s lo m = false) : letB s lo = false := by
  unfold letB
  rw [Bool.and_eq_false_iff]; right
  rw [List.all_eq_false]
  exact ⟨m, by simpa using hm, by simp [h]⟩
theorem letB_yes (s : ByteArray) (lo : Nat) (h1 : 1 ≤ s.size) (h2 : s.size ≤ 20) (h : ∀ j, j < s.size → chAt s lo j = true) : letB s lo = true := by
  unfold letB
  rw [Bool.and_eq_true]
  exact ⟨decide_eq_true ⟨h1, h2⟩, List.all_eq_true.2 fun j hj => h j (by simpa using hj)⟩

theorem chAt97_true (s : ByteArray) (m : Nat) (hm : m < s.size) (h : chAt s 97 m = true) :
    ((97 : Int) ≤ (s[m].toNat : Int) ∧ (s[m].toNat : Int) ≤ 122) ∨ (0 < m ∧ (48 : Int) ≤ (s[m].toNat : Int) ∧ (s[m].toNat : Int) ≤ 57) ∨ (0 < m ∧ (95 : Int) ≤ (s[m].toNat : Int) ∧ (s[m].toNat : Int) ≤ 95 ∧ ((s[m].toNat : Int) == 95) = true) := by
  unfold chAt at h
  rw [nget s m hm] at h
  have h' := of_decide_eq_true h
  rcases h' with h' | ⟨h0, h' | h'⟩
  · left; omega
  · right; left; omega
  · right; right; exact ⟨h0, by omega, by omega, by simp; omega⟩
theorem chAt97_false (s : ByteArray) (m : Nat) (hm : m < s.size) (h : chAt s 97 m = false) :
    (m = 0 ∧ ((s[m].toNat : Int) < 97 ∨ (122 : Int) < (s[m].toNat : Int))) ∨ (0 < m ∧ ((s[m].toNat : Int) < 48 ∨ (57 < (s[m].toNat : Int) ∧ (s[m].toNat : Int) < 95) ∨ (95 < (s[m].toNat : Int) ∧ (s[m].toNat : Int) < 97) ∨ 122 < (s[m].toNat : Int))) := by
  unfold chAt at h
  rw [nget s m hm] at h
  have h' := of_decide_eq_false h
  rcases Nat.eq_zero_or_pos m with h0 | h0
  · left; exact ⟨h0, by omega⟩
  · right; exact ⟨h0, by omega⟩
theorem chAt97_first (s : ByteArray) (hm : 0 < s.size) (h : chAt s 97 0 = true) : ((97 : Int) ≤ (s[0].toNat : Int)) ∧ ((s[0].toNat : Int) ≤ 122) := by
  rcases chAt97_true s 0 hm h with h | h | h
  · exact h
  · omega
  · omega
theorem chAt97_nofirst (s : ByteArray) (hm : 0 < s.size) (h : chAt s 97 0 = false) : ((s[0].toNat : Int) < 97) ∨ ((122 : Int) < (s[0].toNat : Int)) := by
  rcases chAt97_false s 0 hm h with h | h
  · exact h.2
  · omega

theorem chAt65_true (s : ByteArray) (m : Nat) (hm : m < s.size) (h : chAt s 65 m = true) :
    ((65 : Int) ≤ (s[m].toNat : Int) ∧ (s[m].toNat : Int) ≤ 90) ∨ (0 < m ∧ (48 : Int) ≤ (s[m].toNat : Int) ∧ (s[m].toNat : Int) ≤ 57) ∨ (0 < m ∧ (95 : Int) ≤ (s[m].toNat : Int) ∧ (s[m].toNat : Int) ≤ 95 ∧ ((s[m].toNat : Int) == 95) = true) := by
  unfold chAt at h
  rw [nget s m hm] at h
  have h' := of_decide_eq_true h
  rcases h' with h' | ⟨h0, h' | h'⟩
  · left; omega
  · right; left; omega
  · right; right; exact ⟨h0, by omega, by omega, by simp; omega⟩
theorem chAt65_false (s : ByteArray) (m : Nat) (hm : m < s.size) (h : chAt s 65 m = false) :
    (m = 0 ∧ ((s[m].toNat : Int) < 65 ∨ (90 : Int) < (s[m].toNat : Int))) ∨ (0 < m ∧ ((s[m].toNat : Int) < 48 ∨ (57 < (s[m].toNat : Int) ∧ (s[m].toNat : Int) < 65) ∨ (90 < (s[m].toNat : Int) ∧ (s[m].toNat : Int) < 95) ∨ 95 < (s[m].toNat : Int))) := by
  unfold chAt at h
  rw [nget s m hm] at h
  have h' := of_decide_eq_false h
  rcases Nat.eq_zero_or_pos m with h0 | h0
  · left; exact ⟨h0, by omega⟩
  · right; exact ⟨h0, by omega⟩
theorem chAt65_first (s : ByteArray) (hm : 0 < s.size) (h : chAt s 65 0 = true) : ((65 : Int) ≤ (s[0].toNat : Int)) ∧ ((s[0].toNat : Int) ≤ 90) := by
  rcases chAt65_true s 0 hm h with h | h | h
  · exact h
  · omega
  · omega
theorem chAt65_nofirst (s : ByteArray) (hm : 0 < s.size) (h : chAt s 65 0 = false) : ((s[0].toNat : Int) < 65) ∨ ((90 : Int) < (s[0].toNat : Int)) := by
  rcases chAt65_false s 0 hm h with h | h
  · exact h.2
  · omega
end Go.Proofs.YtapmjkgndojdfaaDoor
