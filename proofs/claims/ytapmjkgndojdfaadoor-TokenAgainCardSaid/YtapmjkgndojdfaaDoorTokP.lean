/-
  Tokens of a program's text: the walks of package token's tests of bytes, of its table of signs, and of its names.
-/
import Derived.Test.YtapmjkgndojdfaaDoorWord
import Derived.Test.YtapmjkgndojdfaaDoorDigitL
import Derived.Test.YtapmjkgndojdfaaDoorTokA
import Derived.Test.YtapmjkgndojdfaaDoorScope
namespace Go.Proofs.YtapmjkgndojdfaaDoor
open Go.RowKit LX
set_option linter.unusedVariables false

set_option maxRecDepth 100000 in
set_option maxHeartbeats 1600000 in
theorem tLetter_any (c : Nat) (w : World) (hc : c ≤ 255) :
    Calls Tryd.prog 18 #[.int .u8 c] w fun e w' => e = .returned (.bool (isLetter c)) ∧ w = w' := by
  rcases (show (c < 65) ∨ (65 ≤ c ∧ c ≤ 90) ∨ (91 ≤ c ∧ c ≤ 94) ∨ (c = 95) ∨ (c = 96) ∨ (97 ≤ c ∧ c ≤ 122) ∨ (123 ≤ c) from by omega) with h | h | h | h | h | h | h
  · have HP : Hid (isLetter c = false) := by show _ = _; unfold isLetter; simp; omega
    have e95 : ((c : Int) == 95) = false := by simp; omega
    have g0 : (c : Int) < 65 := by omega
    clear h
    go_enter Tryd.func18, Tryd.ntmps18
    go_wp2
    all_goals first
      | (go_ret; exact ⟨ret_bool HP.out.symm, rfl⟩)
      | (go_ret; exact ⟨ret_bool (by rw [HP.out]; simp; omega), rfl⟩)
      | (exfalso; omega)
      | (exfalso; rename_i z; simp at z; omega)
  · have HP : Hid (isLetter c = true) := by show _ = _; unfold isLetter; simp; omega
    have e95 : ((c : Int) == 95) = false := by simp; omega
    have g0 : 65 ≤ (c : Int) := by omega
    have g1 : (c : Int) ≤ 90 := by omega
    clear h
    go_enter Tryd.func18, Tryd.ntmps18
    go_wp2
    all_goals first
      | (go_ret; exact ⟨ret_bool HP.out.symm, rfl⟩)
      | (go_ret; exact ⟨ret_bool (by rw [HP.out]; simp; omega), rfl⟩)
      | (exfalso; omega)
      | (exfalso; rename_i z; simp at z; omega)
  · have HP : Hid (isLetter c = false) := by show _ = _; unfold isLetter; simp; omega
    have e95 : ((c : Int) == 95) = false := by simp; omega
    have g0 : 91 ≤ (c : Int) := by omega
    have g1 : (c : Int) ≤ 94 := by omega
    clear h
    go_enter Tryd.func18, Tryd.ntmps18
    go_wp2
    all_goals first
      | (go_ret; exact ⟨ret_bool HP.out.symm, rfl⟩)
      | (go_ret; exact ⟨ret_bool (by rw [HP.out]; simp; omega), rfl⟩)
      | (exfalso; omega)
      | (exfalso; rename_i z; simp at z; omega)
  · have HP : Hid (isLetter c = true) := by show _ = _; unfold isLetter; simp; omega
    have e95 : ((c : Int) == 95) = true := by simp; omega
    have g0 : (95 : Int) ≤ (c : Int) := by omega
    have g1 : (c : Int) ≤ 95 := by omega
    clear h
    go_enter Tryd.func18, Tryd.ntmps18
    go_wp2
    all_goals first
      | (go_ret; exact ⟨ret_bool HP.out.symm, rfl⟩)
      | (go_ret; exact ⟨ret_bool (by rw [HP.out]; simp; omega), rfl⟩)
      | (exfalso; omega)
      | (exfalso; rename_i z; simp at z; omega)
  · have HP : Hid (isLetter c = false) := by show _ = _; unfold isLetter; simp; omega
    have e95 : ((c : Int) == 95) = false := by simp; omega
    have g0 : (96 : Int) ≤ (c : Int) := by omega
    have g1 : (c : Int) ≤ 96 := by omega
    clear h
    go_enter Tryd.func18, Tryd.ntmps18
    go_wp2
    all_goals first
      | (go_ret; exact ⟨ret_bool HP.out.symm, rfl⟩)
      | (go_ret; exact ⟨ret_bool (by rw [HP.out]; simp; omega), rfl⟩)
      | (exfalso; omega)
      | (exfalso; rename_i z; simp at z; omega)
  · have HP : Hid (isLetter c = true) := by show _ = _; unfold isLetter; simp; omega
    have e95 : ((c : Int) == 95) = false := by simp; omega
    have g0 : 97 ≤ (c : Int) := by omega
    have g1 : (c : Int) ≤ 122 := by omega
    clear h
    go_enter Tryd.func18, Tryd.ntmps18
    go_wp2
    all_goals first
      | (go_ret; exact ⟨ret_bool HP.out.symm, rfl⟩)
      | (go_ret; exact ⟨ret_bool (by rw [HP.out]; simp; omega), rfl⟩)
      | (exfalso; omega)
      | (exfalso; rename_i z; simp at z; omega)
  · have HP : Hid (isLetter c = false) := by show _ = _; unfold isLetter; simp; omega
    have e95 : ((c : Int) == 95) = false := by simp; omega
    have g0 : 123 ≤ (c : Int) := by omega
    clear h
    go_enter Tryd.func18, Tryd.ntmps18
    go_wp2
    all_goals first
      | (go_ret; exact ⟨ret_bool HP.out.symm, rfl⟩)
      | (go_ret; exact ⟨ret_bool (by rw [HP.out]; simp; omega), rfl⟩)
      | (exfalso; omega)
      | (exfalso; rename_i z; simp at z; omega)

set_option maxRecDepth 100000 in
set_option maxHeartbeats 1600000 in
theorem tDigit_any (c : Nat) (w : World) (hc : c ≤ 255) :
    Calls Tryd.prog 19 #[.int .u8 c] w fun e w' => e = .returned (.bool (isDigit c)) ∧ w = w' := by
  rcases (show (c < 48) ∨ (48 ≤ c ∧ c ≤ 57) ∨ (58 ≤ c) from by omega) with h | h | h
  · have HP : Hid (isDigit c = false) := by show _ = _; unfold isDigit; simp; omega
    have g0 : (c : Int) < 48 := by omega
    clear h
    go_enter Tryd.func19, Tryd.ntmps19
    go_wp2
    all_goals first
      | (go_ret; exact ⟨ret_bool HP.out.symm, rfl⟩)
      | (go_ret; exact ⟨ret_bool (by rw [HP.out]; simp; omega), rfl⟩)
      | (exfalso; omega)
      | (exfalso; rename_i z; simp at z; omega)
  · have HP : Hid (isDigit c = true) := by show _ = _; unfold isDigit; simp; omega
    have g0 : 48 ≤ (c : Int) := by omega
    have g1 : (c : Int) ≤ 57 := by omega
    clear h
    go_enter Tryd.func19, Tryd.ntmps19
    go_wp2
    all_goals first
      | (go_ret; exact ⟨ret_bool HP.out.symm, rfl⟩)
      | (go_ret; exact ⟨ret_bool (by rw [HP.out]; simp; omega), rfl⟩)
      | (exfalso; omega)
      | (exfalso; rename_i z; simp at z; omega)
  · have HP : Hid (isDigit c = false) := by show _ = _; unfold isDigit; simp; omega
    have g0 : 58 ≤ (c : Int) := by omega
    clear h
    go_enter Tryd.func19, Tryd.ntmps19
    go_wp2
    all_goals first
      | (go_ret; exact ⟨ret_bool HP.out.symm, rfl⟩)
      | (go_ret; exact ⟨ret_bool (by rw [HP.out]; simp; omega), rfl⟩)
      | (exfalso; omega)
      | (exfalso; rename_i z; simp at z; omega)

theorem eqI (c k : Nat) : ((c : Int) == (k : Int)) = decide (c = k) := by
  by_cases h : c = k
  · subst h; simp
  · rw [decide_eq_false h]; simp; omega
theorem tBlank_any (c : Nat) (w : World) (hc : c ≤ 255) :
    Calls Tryd.prog 17 #[.int .u8 c] w fun e w' => e = .returned (.bool (isSpace c)) ∧ w = w' := by
  have hm : isSpace c = (decide (c = 32) || (decide (c = 9) || decide (c = 13))) := by unfold isSpace; simp [Bool.decide_or]
  have H := Lib.hid hm
  clear hm
  have key : ∀ b0 b1 b2 : Bool, decide (c = 32) = b0 → decide (c = 9) = b1 → decide (c = 13) = b2 →
      Calls Tryd.prog 17 #[.int .u8 c] w fun e w' => e = .returned (.bool (b0 || (b1 || b2))) ∧ w = w' := by
    intro b0 b1 b2 h0 h1 h2
    have e0 : ((c : Int) == 32) = b0 := by rw [← h0]; exact eqI c 32
    have e1 : ((c : Int) == 9) = b1 := by rw [← h1]; exact eqI c 9
    have e2 : ((c : Int) == 13) = b2 := by rw [← h2]; exact eqI c 13
    clear h0 h1 h2 H
    cases b0 <;> cases b1 <;> cases b2
    all_goals
      go_enter Tryd.func17, Tryd.ntmps17
      go_wp2
      go_ret
      exact ⟨rfl, rfl⟩
  refine (key _ _ _ rfl rfl rfl).mono ?_
  rintro e w' ⟨rfl, rfl⟩
  exact ⟨ret_bool H.out.symm, rfl⟩

end Go.Proofs.YtapmjkgndojdfaaDoor
