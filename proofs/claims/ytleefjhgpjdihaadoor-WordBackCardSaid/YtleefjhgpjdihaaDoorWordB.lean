/-
  The statement that Rule undoes Of, and that what Of tells is a program's name.
-/
import Derived.Test.YtleefjhgpjdihaaDoorWordL
namespace Go.Proofs.YtleefjhgpjdihaaDoor
open Go.RowKit
set_option linter.unusedVariables false

/-- What Of tells of a name. -/
def ofS (s : ByteArray) : ByteArray := bs [114, 117, 108, 101, 95] ++ s
theorem ofS_data (s : ByteArray) : (ofS s).data.toList = [114, 117, 108, 101, 95] ++ s.data.toList := by simp [ofS, bs]
theorem ofS_size (s : ByteArray) : (ofS s).size = 5 + s.size := by
  rw [ofS, ByteArray.size_append]; rfl
theorem ofS_toList (s : ByteArray) : (ofS s).toList = [114, 117, 108, 101, 95] ++ s.toList := by rw [ByteArray.toList_eq, ByteArray.toList_eq, ofS_data]
theorem ofS_pre (s : ByteArray) : ((ofS s).extract 0 5).toList = [114, 117, 108, 101, 95] := by
  rw [ByteArray.toList_eq, ByteArray.data_extract, Array.toList_extract, ofS_data]
  simp
theorem ofS_post (s : ByteArray) : (ofS s).extract 5 (ofS s).size = s := by
  apply ByteArray.ext
  apply Array.toList_inj.1
  rw [ByteArray.data_extract, Array.toList_extract, ofS_data, ofS_size]
  simp
  exact List.take_of_length_le (by simp)
theorem ofS_rule (s : ByteArray) (h : nameB s = true) : ruleB (ofS s) = true := by
  have hz := (nameB_size s h).1
  rw [ruleB_long _ (by rw [ofS_size]; omega), ofS_pre, ofS_post, h, ruleS_list]
  simp
theorem ofS_reserved (s : ByteArray) : inB (ofS s) resT = false := by
  unfold inB
  rw [ofS_toList]
  simp [resT, bs]
theorem ofS_spelt (s : ByteArray) (h : nameB s = true) : spB (ofS s) = true := by
  obtain ⟨h1, h2⟩ := nameB_size s h
  refine spB_yes _ (by rw [ofS_size]; omega) (by rw [ofS_size]; omega) fun j hj => ?_
  rw [ofS_size] at hj
  unfold wchAt
  rw [ofS_data]
  by_cases h5 : j < 5
  · rcases (show j = 0 ∨ j = 1 ∨ j = 2 ∨ j = 3 ∨ j = 4 from by omega) with rfl | rfl | rfl | rfl | rfl <;> simp
  · have hg : ([114, 117, 108, 101, 95] ++ s.data.toList : List UInt8).getD j 0 = s.data.toList.getD (j - 5) 0 := by
      rw [List.getD_eq_getElem?_getD, List.getD_eq_getElem?_getD, List.getElem?_append_right (by simpa using h5)]
      rfl
    rw [hg]
    have hc : chAt s 97 (j - 5) = true := by
      unfold nameB letB at h
      rw [Bool.and_eq_true, Bool.and_eq_true] at h
      exact List.all_eq_true.1 h.1.2 _ (by simp; omega)
    unfold chAt at hc
    have hc' := of_decide_eq_true hc
    exact decide_eq_true (by omega)
theorem ofS_is (s : ByteArray) (h : nameB s = true) : isB (ofS s) = true := by
  unfold isB; rw [ofS_spelt s h, ofS_reserved]; rfl

set_option maxRecDepth 100000 in
theorem wordBack_walk (s : ByteArray) (w : World) (hs : s.size ≤ maxLen) (hkw : StrsIs w 1 kwT) (hres : StrsIs w 0 resT) :
    Calls Tryd.prog 5 #[.string s] w fun e w' => e = .returned (.bool true) ∧ w = w' := by
  have h0 := law27works_any w hkw hres
  have h1 := of_any s w hs hkw
  have h2 := refName_any s w hs
  cases hn : nameB s
  · rw [hn] at h1 h2
    go_enter Tryd.func5, Tryd.ntmps5
    go_wp2_with fail
    refine h0.mono ?_
    rintro e w' ⟨rfl, rfl⟩
    go_wp2_with fail
    refine h1.mono ?_
    rintro e w' ⟨rfl, rfl⟩
    go_wp2_with fail
    refine h2.mono ?_
    rintro e w' ⟨rfl, rfl⟩
    go_wp2_with fail
    go_ret
    exact ⟨ret_bool (by simp [bs]), rfl⟩
  · have hz := (nameB_size s hn).2
    have hos : (ofS s).size ≤ maxLen := by rw [ofS_size]; unfold maxLen; omega
    rw [hn, if_pos rfl] at h1
    rw [hn] at h2
    have h3 := rule_any (ofS s) w hos hkw
    rw [ofS_rule s hn, if_pos rfl, ofS_post] at h3
    have h4 := is_any (ofS s) w hos hres
    rw [ofS_is s hn] at h4
    have h5 := reserved_any (ofS s) w hos hres
    rw [ofS_reserved] at h5
    change Calls _ _ _ _ fun e w' => e = .returned (.string (ofS s)) ∧ w = w' at h1
    generalize ofS s = t at *
    go_enter Tryd.func5, Tryd.ntmps5
    go_wp2_with fail
    refine h0.mono ?_
    rintro e w' ⟨rfl, rfl⟩
    go_wp2_with fail
    refine h1.mono ?_
    rintro e w' ⟨rfl, rfl⟩
    go_wp2_with fail
    refine h2.mono ?_
    rintro e w' ⟨rfl, rfl⟩
    go_wp2_with fail
    refine h3.mono ?_
    rintro e w' ⟨rfl, rfl⟩
    go_wp2_with fail
    refine h4.mono ?_
    rintro e w' ⟨rfl, rfl⟩
    go_wp2_with fail
    refine h5.mono ?_
    rintro e w' ⟨rfl, rfl⟩
    go_wp2_with fail
    go_ret
    exact ⟨rfl, rfl⟩
theorem wordBack_law {H : Type} (enc : TypeId × Value → H) (W : World) (a0 : ByteArray) (w0 : a0.size ≤ maxLen) (hL : laidMetH Tryd.prog Rows.wordBackRow.laid W) :
    Calls Tryd.prog 5 #[.string a0] W fun e w' => e = .returned (.bool true) ∧ Below W.heap.size W w' :=
  (wordBack_walk a0 W w0 (kw_of hL (by rfl)) (res_of hL (by rfl))).mono fun e w' h => ⟨h.1, h.2 ▸ Below.refl _ _⟩
end Go.Proofs.YtleefjhgpjdihaaDoor
