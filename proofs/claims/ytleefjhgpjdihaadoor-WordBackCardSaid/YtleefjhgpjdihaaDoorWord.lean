/-
  Programs' names: the walks of package word and of the document's answers.
-/
import Derived.Test.YtleefjhgpjdihaaDoorKeyw
namespace Go.Proofs.YtleefjhgpjdihaaDoor
open Go.RowKit
set_option linter.unusedVariables false

/-- Is the text a name of a rule? -/
def nameB (s : ByteArray) : Bool := letB s 97 && !inB s kwT
/-- Does the text begin with these bytes? -/
def preB (s : ByteArray) (p : ByteArray) : Bool := decide (p.size ≤ s.size) && ((s.extract 0 p.size).toList == p.toList)

theorem letB_size (s : ByteArray) (lo : Nat) (h : letB s lo = true) : 1 ≤ s.size ∧ s.size ≤ 20 := by
  unfold letB at h
  rw [Bool.and_eq_true] at h
  exact of_decide_eq_true h.1
theorem nameB_size (s : ByteArray) (h : nameB s = true) : 1 ≤ s.size ∧ s.size ≤ 20 := by
  unfold nameB at h
  rw [Bool.and_eq_true] at h
  exact letB_size s 97 h.1
theorem preB_no (s p : ByteArray) (h : ¬ p.size ≤ s.size) : preB s p = false := by unfold preB; rw [decide_eq_false h]; rfl
theorem preB_eq (s p : ByteArray) (h : p.size ≤ s.size) : preB s p = ((s.extract 0 p.size).toList == p.toList) := by unfold preB; rw [decide_eq_true h]; rfl
theorem preB_size (s p : ByteArray) (h : preB s p = true) : p.size ≤ s.size := by
  unfold preB at h
  rw [Bool.and_eq_true] at h
  exact of_decide_eq_true h.1
set_option maxRecDepth 100000 in
theorem name_any (s : ByteArray) (w : World) (hs : s.size ≤ maxLen) (hkw : StrsIs w 1 kwT) :
    Calls Tryd.prog 34 #[.string s] w fun e w' => e = .returned (.bool (nameB s)) ∧ w = w' := by
  have HN : Hid (nameB s = (letB s 97 && !inB s kwT)) := rfl
  have h1 := lettered97 s w hs
  have h2 := keyword_any s w hs hkw
  generalize letB s 97 = a at *
  generalize inB s kwT = b at *
  go_enter Tryd.func34, Tryd.ntmps34
  go_wp2_with fail
  refine h1.mono ?_
  rintro e w' ⟨rfl, rfl⟩
  cases a
  · go_wp2_with fail
    go_ret
    exact ⟨ret_bool HN.out.symm, rfl⟩
  · go_wp2_with fail
    refine h2.mono ?_
    rintro e w' ⟨rfl, rfl⟩
    go_wp2_with fail
    go_ret
    exact ⟨ret_bool HN.out.symm, rfl⟩
set_option maxRecDepth 100000 in
theorem refWord_any (s : ByteArray) (w : World) (hs : s.size ≤ maxLen) :
    Calls Tryd.prog 35 #[.string s] w fun e w' => e = .returned (.bool (letB s 97)) ∧ w = w' := by
  go_enter Tryd.func35, Tryd.ntmps35
  go_wp2_with fail
  refine (letters97 s w hs).mono ?_
  rintro e w' ⟨rfl, rfl⟩
  go_wp2_with fail
  go_ret
  exact ⟨rfl, rfl⟩
set_option maxRecDepth 100000 in
theorem refName_any (s : ByteArray) (w : World) (hs : s.size ≤ maxLen) :
    Calls Tryd.prog 22 #[.string s] w fun e w' => e = .returned (.bool (nameB s)) ∧ w = w' := by
  have HN : Hid (nameB s = (letB s 97 && !inB s kwT)) := rfl
  have h1 := refWord_any s w hs
  have h2 := refKeyword_any s w hs
  generalize letB s 97 = a at *
  generalize inB s kwT = b at *
  go_enter Tryd.func22, Tryd.ntmps22
  go_wp2_with fail
  refine h1.mono ?_
  rintro e w' ⟨rfl, rfl⟩
  cases a
  · go_wp2_with fail
    go_ret
    exact ⟨ret_bool HN.out.symm, rfl⟩
  · go_wp2_with fail
    refine h2.mono ?_
    rintro e w' ⟨rfl, rfl⟩
    go_wp2_with fail
    go_ret
    exact ⟨ret_bool HN.out.symm, rfl⟩
set_option maxRecDepth 100000 in
theorem of_any (s : ByteArray) (w : World) (hs : s.size ≤ maxLen) (hkw : StrsIs w 1 kwT) :
    Calls Tryd.prog 20 #[.string s] w fun e w' => e = .returned (.string (if nameB s = true then bs [114, 117, 108, 101, 95] ++ s else bs [])) ∧ w = w' := by
  have h1 := name_any s w hs hkw
  have hb := nameB_size s
  generalize nameB s = a at *
  go_enter Tryd.func20, Tryd.ntmps20
  go_wp2_with fail
  refine h1.mono ?_
  rintro e w' ⟨rfl, rfl⟩
  cases a
  · go_wp2_with fail
    go_ret
    exact ⟨rfl, rfl⟩
  · obtain ⟨hz1, hz2⟩ := hb rfl
    have hz3 : (5 : Int) + (s.size : Int) ≤ 9223372036854775807 := by omega
    have hz4 : 5 + s.size ≤ 9223372036854775807 := by omega
    go_wp2_with fail
    go_ret
    exact ⟨rfl, rfl⟩
set_option maxRecDepth 100000 in
theorem hasLite_any (s p : ByteArray) (w : World) (hs : s.size ≤ maxLen) (hp : p.size ≤ maxLen) :
    Calls Tryd.prog 66 #[.string s, .string p] w fun e w' => e = .returned (.bool (preB s p)) ∧ w = w' := by
  unfold maxLen at hs hp
  by_cases h : p.size ≤ s.size
  · have HP := Lib.hid (preB_eq s p h)
    go_enter Tryd.func66, Tryd.ntmps66
    go_wp2_with fail
    all_goals
      go_ret
      exact ⟨ret_bool HP.out.symm, rfl⟩
  · have HP := Lib.hid (preB_no s p h)
    go_enter Tryd.func66, Tryd.ntmps66
    go_wp2_with fail
    all_goals
      go_ret
      exact ⟨ret_bool HP.out.symm, rfl⟩
set_option maxRecDepth 100000 in
theorem cutLite_any (s p : ByteArray) (w : World) (hs : s.size ≤ maxLen) (hp : p.size ≤ maxLen) :
    Calls Tryd.prog 50 #[.string s, .string p] w fun e w' => e = .returned (.tuple #[.string (if preB s p = true then s.extract p.size s.size else s), .bool (preB s p)]) ∧ w = w' := by
  have h1 := hasLite_any s p w hs hp
  unfold maxLen at hs hp
  have hb := preB_size s p
  generalize preB s p = a at *
  go_enter Tryd.func50, Tryd.ntmps50
  go_wp2_with fail
  refine h1.mono ?_
  rintro e w' ⟨rfl, rfl⟩
  cases a
  · go_wp2_with fail
    go_ret2
    exact ⟨rfl, rfl⟩
  · have h2 := hb rfl
    have h3 : (p.size : Int) ≤ (s.size : Int) := by omega
    go_wp2_with fail
    go_ret2
    exact ⟨rfl, rfl⟩
set_option maxRecDepth 100000 in
theorem cut_any (s p : ByteArray) (w : World) (hs : s.size ≤ maxLen) (hp : p.size ≤ maxLen) :
    Calls Tryd.prog 31 #[.string s, .string p] w fun e w' => e = .returned (.tuple #[.string (if preB s p = true then s.extract p.size s.size else s), .bool (preB s p)]) ∧ w = w' := by
  have h1 := cutLite_any s p w hs hp
  generalize (if preB s p = true then s.extract p.size s.size else s) = z at *
  generalize preB s p = a at *
  go_enter Tryd.func31, Tryd.ntmps31
  go_wp2_with fail
  refine h1.mono ?_
  rintro e w' ⟨rfl, rfl⟩
  go_wp2_with fail
  go_ret2
  exact ⟨rfl, rfl⟩
def ruleS : ByteArray := ⟨#[114, 117, 108, 101, 95]⟩
def ruleB (s : ByteArray) : Bool := preB s ruleS && nameB (s.extract 5 s.size)
theorem ruleS_list : ruleS.toList = [114, 117, 108, 101, 95] := by simp [ruleS]
theorem nameB_empty (s : ByteArray) (h : s.size = 0) : nameB s = false := by
  unfold nameB; rw [letB_out s 97 (by omega)]; rfl
theorem ruleB_short (s : ByteArray) (h : s.size ≤ 5) : ruleB s = false := by
  unfold ruleB
  rw [nameB_empty _ (by rw [ByteArray.size_extract]; omega), Bool.and_false]
theorem ruleB_long (s : ByteArray) (h : 5 < s.size) : ruleB s = (((s.extract 0 5).toList == ruleS.toList) && nameB (s.extract 5 s.size)) := by
  unfold ruleB; rw [preB_eq s ruleS (by show 5 ≤ s.size; omega)]; rfl
theorem extract_le (s : ByteArray) (a b : Nat) (hs : s.size ≤ maxLen) : (s.extract a b).size ≤ maxLen := by rw [ByteArray.size_extract]; omega
set_option maxRecDepth 100000 in
theorem rule_any (s : ByteArray) (w : World) (hs : s.size ≤ maxLen) (hkw : StrsIs w 1 kwT) :
    Calls Tryd.prog 18 #[.string s] w fun e w' => e = .returned (.tuple #[.string (if ruleB s = true then s.extract 5 s.size else ⟨#[]⟩), .bool (ruleB s)]) ∧ w = w' := by
  have h1 := cut_any s ⟨#[114, 117, 108, 101, 95]⟩ w hs (by unfold maxLen; show 5 ≤ _; omega)
  have HR : Hid (ruleB s = (preB s ⟨#[114, 117, 108, 101, 95]⟩ && nameB (s.extract 5 s.size))) := rfl
  rw [show (ByteArray.mk #[114, 117, 108, 101, 95]).size = 5 from rfl] at h1
  have h2 := name_any (s.extract 5 s.size) w (extract_le s _ _ hs) hkw
  generalize preB s ⟨#[114, 117, 108, 101, 95]⟩ = a at *
  generalize nameB (s.extract 5 s.size) = b at *
  generalize ruleB s = r at *
  generalize s.extract 5 s.size = t at *
  go_enter Tryd.func18, Tryd.ntmps18
  cases a
  · obtain rfl : r = false := HR.out
    go_wp2_with fail
    refine h1.mono ?_
    rintro e w' ⟨rfl, rfl⟩
    go_wp2_with fail
    go_ret2
    exact ⟨rfl, rfl⟩
  · obtain rfl : r = b := HR.out
    go_wp2_with fail
    refine h1.mono ?_
    rintro e w' ⟨rfl, rfl⟩
    go_wp2_with fail
    refine h2.mono ?_
    rintro e w' ⟨rfl, rfl⟩
    cases r
    all_goals
      go_wp2_with fail
      go_ret2
      exact ⟨rfl, rfl⟩
set_option maxRecDepth 100000 in
theorem refRule_any (s : ByteArray) (w : World) (hs : s.size ≤ maxLen) :
    Calls Tryd.prog 19 #[.string s] w fun e w' => e = .returned (.tuple #[.string (if ruleB s = true then s.extract 5 s.size else ⟨#[]⟩), .bool (ruleB s)]) ∧ w = w' := by
  have h2 := refName_any (s.extract 5 s.size) w (extract_le s _ _ hs)
  by_cases h : 5 < s.size
  · have HR := Lib.hid (ruleB_long s h)
    generalize nameB (s.extract 5 s.size) = b at *
    generalize ruleB s = r at *
    unfold maxLen at hs
    have hi : (5 : Int) < (s.size : Int) := by omega
    by_cases hq : (s.extract 0 5).toList = [114, 117, 108, 101, 95]
    · obtain rfl : r = b := by rw [HR.out, hq, ruleS_list]; simp
      go_enter Tryd.func19, Tryd.ntmps19
      go_wp2_with fail
      refine h2.mono ?_
      rintro e w' ⟨rfl, rfl⟩
      cases r
      all_goals
        go_wp2_with fail
        go_ret2
        exact ⟨rfl, rfl⟩
    · obtain rfl : r = false := by rw [HR.out, ruleS_list]; simp [hq]
      go_enter Tryd.func19, Tryd.ntmps19
      go_wp2_with fail
      go_ret2
      exact ⟨rfl, rfl⟩
  · have HR := Lib.hid (ruleB_short s (by omega))
    generalize ruleB s = r at *
    obtain rfl := HR.out
    unfold maxLen at hs
    have hi : (s.size : Int) ≤ (5 : Int) := by omega
    go_enter Tryd.func19, Tryd.ntmps19
    go_wp2_with fail
    go_ret2
    exact ⟨rfl, rfl⟩
set_option maxRecDepth 100000 in
theorem refOf_any (s : ByteArray) (w : World) (hs : s.size ≤ maxLen) :
    Calls Tryd.prog 21 #[.string s] w fun e w' => e = .returned (.string (if nameB s = true then bs [114, 117, 108, 101, 95] ++ s else bs [])) ∧ w = w' := by
  have h1 := refName_any s w hs
  have hb := nameB_size s
  generalize nameB s = a at *
  go_enter Tryd.func21, Tryd.ntmps21
  go_wp2_with fail
  refine h1.mono ?_
  rintro e w' ⟨rfl, rfl⟩
  cases a
  · go_wp2_with fail
    go_ret
    exact ⟨rfl, rfl⟩
  · obtain ⟨hz1, hz2⟩ := hb rfl
    have hz3 : (5 : Int) + (s.size : Int) ≤ 9223372036854775807 := by omega
    have hz4 : 5 + s.size ≤ 9223372036854775807 := by omega
    go_wp2_with fail
    go_ret
    exact ⟨rfl, rfl⟩
end Go.Proofs.YtleefjhgpjdihaaDoor
