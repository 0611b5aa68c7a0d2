/-
  The walks of package tuple and of the document's answers: May, Cat.
-/
import Derived.Test.YtimgnbacgdmiiaaBase
namespace Go.Proofs.Ytimgnbacgdmiiaa
open Go.RowKit

theorem ret_bool {a b : Bool} (h : a = b) : Ending.returned (.bool a) = .returned (.bool b) := by rw [h]
/-- May the byte at j stand there? -/
def mayAt (s : ByteArray) (j : Nat) : Bool := decide ((s.data.toList.getD j 0).toNat ≤ 60) && !(decide (0 < j) && decide ((s.data.toList.getD (j - 1) 0).toNat = 0) && decide ((s.data.toList.getD j 0).toNat ≠ 0))
def mayB (s : ByteArray) (k : Int) : Bool := decide (1 ≤ k ∧ k ≤ 4 ∧ (s.size : Int) ≤ k) && (List.range s.size).all (mayAt s)

theorem bget (s : ByteArray) (j : Nat) (h : j < s.size) : s.data.toList.getD j 0 = s[j] := by
  have h' : j < s.data.size := h
  rw [List.getD_eq_getElem?_getD, List.getElem?_eq_getElem (by simpa using h'), Option.getD_some, Array.getElem_toList]
  rfl
theorem mayAt_step (s : ByteArray) (m : Nat) (h : ∀ j, j < m → mayAt s j = true) (hm : mayAt s m = true) (j : Nat) (hj : j < m + 1) : mayAt s j = true := by
  rcases Nat.lt_or_ge j m with h1 | h1
  · exact h j h1
  · obtain rfl : j = m := by omega
    exact hm
theorem mayB_out (s : ByteArray) (k : Int) (h : ¬ (1 ≤ k ∧ k ≤ 4 ∧ (s.size : Int) ≤ k)) : mayB s k = false := by
  unfold mayB; rw [decide_eq_false h]; rfl
theorem mayB_not (s : ByteArray) (k : Int) (m : Nat) (hm : m < s.size) (h : mayAt s m = false) : mayB s k = false := by
  unfold mayB
  rw [Bool.and_eq_false_iff]; right
  rw [List.all_eq_false]
  exact ⟨m, by simpa using hm, by simp [h]⟩
theorem mayB_yes (s : ByteArray) (k : Int) (h1 : 1 ≤ k) (h2 : k ≤ 4) (h3 : (s.size : Int) ≤ k) (h : ∀ j, j < s.size → mayAt s j = true) : mayB s k = true := by
  unfold mayB
  rw [Bool.and_eq_true]
  exact ⟨decide_eq_true ⟨h1, h2, h3⟩, List.all_eq_true.2 fun j hj => h j (by simpa using hj)⟩
theorem mayAt_true (s : ByteArray) (m : Nat) (hm : m < s.size) (h : mayAt s m = true) :
    ((s[m].toNat : Int) ≤ 60) ∧ m = 0 ∨
    ((s[m].toNat : Int) ≤ 60) ∧ 0 < m ∧ ((s[m - 1].toNat : Int) == 0) = false ∧ True ∨
    ((s[m].toNat : Int) ≤ 60) ∧ 0 < m ∧ ((s[m - 1].toNat : Int) == 0) = true ∧ ((s[m].toNat : Int) != 0) = false := by
  unfold mayAt at h
  rw [bget s m hm] at h
  simp only [Bool.and_eq_true, decide_eq_true_eq, Bool.not_eq_true', Bool.and_eq_false_iff, decide_eq_false_iff_not] at h
  obtain ⟨h1, h2⟩ := h
  by_cases h0 : m = 0
  · left; exact ⟨by omega, h0⟩
  · right
    rw [bget s (m - 1) (by omega)] at h2
    by_cases h3 : s[m - 1].toNat = 0
    · right
      refine ⟨by omega, by omega, by simpa using h3, ?_⟩
      rcases h2 with (h2 | h2) | h2
      · omega
      · exact absurd h3 h2
      · simp at h2 ⊢; exact h2
    · left
      refine ⟨by omega, by omega, by simpa using h3, trivial⟩
theorem mayAt_false (s : ByteArray) (m : Nat) (hm : m < s.size) (h : mayAt s m = false) :
    ((60 : Int) < (s[m].toNat : Int)) ∨ ((s[m].toNat : Int) ≤ 60) ∧ 0 < m ∧ ((s[m - 1].toNat : Int) == 0) = true ∧ ((s[m].toNat : Int) != 0) = true ∧ True := by
  unfold mayAt at h
  rw [bget s m hm] at h
  simp only [Bool.and_eq_false_iff, decide_eq_false_iff_not, Bool.not_eq_false', Bool.and_eq_true, decide_eq_true_eq] at h
  rcases h with h | ⟨⟨h1, h2⟩, h3⟩
  · left; omega
  · rw [bget s (m - 1) (by omega)] at h2
    by_cases h4 : s[m].toNat ≤ 60
    · right
      exact ⟨by omega, h1, by simpa using h2, by simpa using h3, trivial⟩
    · left; omega

set_option maxHeartbeats 800000 in
theorem refTMay_any (s : ByteArray) (k : Int) (w : World) (hs : s.size ≤ maxLen) :
    Calls Try.prog 28 #[.string s, .int .i64 k] w fun e w' => e = .returned (.bool (mayB s k)) ∧ w' = w := by
  unfold maxLen at hs
  by_cases hk : 1 ≤ k ∧ k ≤ 4 ∧ (s.size : Int) ≤ k
  · obtain ⟨hk1, hk2, hk3⟩ := hk
    go_enter Try.func28, Try.ntmps28
    go_wp2
    go_loop [5] (fun i => ∃ m : Nat, m ≤ s.size ∧ i = .int .i64 m ∧ ∀ j, j < m → mayAt s j = true) (fun i => s.size - (intOf i).toNat)
    case atStart => exact ⟨0, by omega, rfl, fun j hj => by omega⟩
    case round =>
      obtain ⟨m, hm, rfl, hall⟩ := hrel
      have Hall := Lib.hid hall; clear hall
      by_cases hlt : m < s.size
      · by_cases ht : mayAt s m = true
        · have hnext := Lib.hid (fun j (hj : j < m + 1) => mayAt_step s m Hall.out ht j hj)
          rcases mayAt_true s m hlt ht with ⟨h1, rfl⟩ | ⟨h1, h2, h3, h4⟩ | ⟨h1, h2, h3, h4⟩
          all_goals
            clear ht
            go_wp2
            go_round
            case rel => exact ⟨_ + 1, by omega, by go_num, hnext.out⟩
            case measure => simp [intOf]; omega
        · have hF : mayB s k = false := mayB_not s k m hlt (by simpa using ht)
          have HF := Lib.hid hF; clear hF
          rcases mayAt_false s m hlt (by simpa using ht) with h1 | ⟨h1, h2, h3, h4, h5⟩
          all_goals
            clear ht
            go_wp2
            go_ret
            exact ⟨ret_bool HF.out.symm, rfl⟩
      · obtain rfl : m = s.size := by omega
        have HT := Lib.hid (mayB_yes s k hk1 hk2 hk3 Hall.out)
        go_wp2
        go_ret
        exact ⟨ret_bool HT.out.symm, rfl⟩
  · have HF := Lib.hid (mayB_out s k hk)
    by_cases h1 : k < 1
    · clear hk
      go_enter Try.func28, Try.ntmps28
      go_wp2
      go_ret
      exact ⟨ret_bool HF.out.symm, rfl⟩
    · by_cases h2 : 4 < k
      · clear hk
        go_enter Try.func28, Try.ntmps28
        go_wp2
        go_ret
        exact ⟨ret_bool HF.out.symm, rfl⟩
      · have h3 : k < (s.size : Int) := by omega
        have h4 : ¬ k < 1 ∧ ¬ 4 < k := ⟨h1, h2⟩
        clear hk
        go_enter Try.func28, Try.ntmps28
        go_wp2
        go_ret
        exact ⟨ret_bool HF.out.symm, rfl⟩
end Go.Proofs.Ytimgnbacgdmiiaa
