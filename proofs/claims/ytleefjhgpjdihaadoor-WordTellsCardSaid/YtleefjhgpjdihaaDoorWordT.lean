/-
  The statement on programs' names, types and what they point to.
-/
import Derived.Test.YtleefjhgpjdihaaDoorWordL
namespace Go.Proofs.YtleefjhgpjdihaaDoor
open Go.RowKit
set_option linter.unusedVariables false

theorem ex_toList1 (x : UInt8) : (ByteArray.mk #[x]).toList = [x] := by simp
theorem isB_empty (s : ByteArray) (h : s.size = 0) : isB s = false := by
  unfold isB; rw [spB_out s (by omega)]; rfl
theorem pointsB_short (s : ByteArray) (h : s.size ≤ 1) : pointsB s = false := by
  unfold pointsB
  rw [isB_empty _ (by rw [ByteArray.size_extract]; omega), Bool.and_false]
theorem star_first (s : ByteArray) (h : 0 < s.size) : (s.extract 0 1).toList = [s[0]] := by
  have h' : 0 < s.data.size := h
  rw [ByteArray.toList_eq, ByteArray.data_extract]
  apply List.ext_getElem
  · simp; omega
  · intro i h1 h2
    have h3 : i = 0 := by simpa using h2
    subst h3
    simp
    rfl
theorem pointsB_long (s : ByteArray) (h : 1 < s.size) : pointsB s = (((s[0].toNat : Int) == 42) && isB (s.extract 1 s.size)) := by
  unfold pointsB
  rw [preB_eq s ⟨#[42]⟩ (by show 1 ≤ s.size; omega), show (ByteArray.mk #[42]).size = 1 from rfl, star_first s (by omega), ex_toList1]
  congr 1
  rw [Bool.eq_iff_iff]
  simp
  constructor
  · intro h; rw [h]; rfl
  · intro h; exact UInt8.toNat_inj.1 (by show s[0].toNat = 42; omega)
set_option maxRecDepth 100000 in
theorem refPoints_any (s : ByteArray) (w : World) (hs : s.size ≤ maxLen) :
    Calls Tryd.prog 10 #[.string s] w fun e w' => e = .returned (.tuple #[.string (if pointsB s = true then s.extract 1 s.size else ⟨#[]⟩), .bool (pointsB s)]) ∧ Below w.heap.size w w' := by
  have h2 := refIs_any (s.extract 1 s.size) w (extract_le s _ _ hs)
  by_cases h : 1 < s.size
  · have HR := Lib.hid (pointsB_long s h)
    generalize isB (s.extract 1 s.size) = b at *
    generalize pointsB s = r at *
    unfold maxLen at hs
    have hi : (1 : Int) < (s.size : Int) := by omega
    rcases Bool.eq_false_or_eq_true ((s[0].toNat : Int) == 42) with hq | hq
    · obtain rfl : r = b := by rw [HR.out, hq]; simp
      go_enter Tryd.func10, Tryd.ntmps10
      go_wp2_with fail
      refine h2.mono ?_
      rintro e w' ⟨rfl, hb⟩
      cases r
      all_goals
        go_wp2_with fail
        go_ret2
        exact ⟨rfl, hb⟩
    · obtain rfl : r = false := by rw [HR.out, hq]; simp
      go_enter Tryd.func10, Tryd.ntmps10
      go_wp2_with fail
      go_ret2
      exact ⟨rfl, Below.refl _ _⟩
  · have HR := Lib.hid (pointsB_short s (by omega))
    generalize pointsB s = r at *
    obtain rfl := HR.out
    unfold maxLen at hs
    have hi : (s.size : Int) ≤ (1 : Int) := by omega
    go_enter Tryd.func10, Tryd.ntmps10
    go_wp2_with fail
    go_ret2
    exact ⟨rfl, Below.refl _ _⟩
set_option maxRecDepth 100000 in
theorem refType_any (s : ByteArray) (w : World) (hs : s.size ≤ maxLen) :
    Calls Tryd.prog 16 #[.string s] w fun e w' => e = .returned (.bool (typeB s)) ∧ Below w.heap.size w w' := by
  have h2 := refIs_any (s.extract 1 s.size) w (extract_le s _ _ hs)
  have HT : Hid (typeB s = (pointsB s || (s.toList == [105, 110, 116] || s.toList == [98, 111, 111, 108]))) := rfl
  by_cases hw1 : s.toList = [105, 110, 116]
  · go_enter Tryd.func16, Tryd.ntmps16
    go_wp2_with fail
    go_ret
    exact ⟨ret_bool (by rw [HT.out, hw1]; simp), Below.refl _ _⟩
  by_cases hw2 : s.toList = [98, 111, 111, 108]
  · go_enter Tryd.func16, Tryd.ntmps16
    go_wp2_with fail
    go_ret
    exact ⟨ret_bool (by rw [HT.out, hw2]; simp), Below.refl _ _⟩
  have HE : Hid (typeB s = pointsB s) := by show _ = _; rw [HT.out]; simp [hw1, hw2]
  by_cases h : 1 < s.size
  · have HR := Lib.hid (pointsB_long s h)
    generalize isB (s.extract 1 s.size) = b at *
    generalize pointsB s = r at *
    unfold maxLen at hs
    have hi : (1 : Int) < (s.size : Int) := by omega
    rcases Bool.eq_false_or_eq_true ((s[0].toNat : Int) == 42) with hq | hq
    · obtain rfl : r = b := by rw [HR.out, hq]; simp
      go_enter Tryd.func16, Tryd.ntmps16
      go_wp2_with fail
      refine h2.mono ?_
      rintro e w' ⟨rfl, hb⟩
      cases r
      all_goals
        go_wp2_with fail
        go_ret
        exact ⟨ret_bool (by simp [HE.out, hw1, hw2]), hb⟩
    · obtain rfl : r = false := by rw [HR.out, hq]; simp
      go_enter Tryd.func16, Tryd.ntmps16
      go_wp2_with fail
      go_ret
      exact ⟨ret_bool (by simp [HE.out, hw1, hw2]), Below.refl _ _⟩
  · have HR := Lib.hid (pointsB_short s (by omega))
    generalize pointsB s = r at *
    obtain rfl := HR.out
    unfold maxLen at hs
    have hi : (s.size : Int) ≤ (1 : Int) := by omega
    go_enter Tryd.func16, Tryd.ntmps16
    go_wp2_with fail
    go_ret
    exact ⟨ret_bool (by simp [HE.out, hw1, hw2]), Below.refl _ _⟩
set_option maxRecDepth 100000 in
theorem wordTells_walk (s : ByteArray) (w : World) (hs : s.size ≤ maxLen) (hkw : StrsIs w 1 kwT) (hres : StrsIs w 0 resT) :
    Calls Tryd.prog 3 #[.string s] w fun e w' => e = .returned (.bool true) ∧ Below w.heap.size w w' := by
  have H1 := Lib.hid (points_any s w hs hres)
  have H2 := Lib.hid (refPoints_any s w hs)
  have H3 := Lib.hid fun w h => is_any s w hs h
  have H4 := Lib.hid fun w => refIs_any s w hs
  have H5 := Lib.hid fun w h => reserved_any s w hs h
  have H6 := Lib.hid fun w => refReserved_any s w hs
  have H7 := Lib.hid fun w h => type_any s w hs h
  have H8 := Lib.hid fun w => refType_any s w hs
  generalize (if pointsB s = true then s.extract 1 s.size else ⟨#[]⟩) = z at *
  generalize pointsB s = r at *
  generalize isB s = b1 at *
  generalize inB s resT = b2 at *
  generalize typeB s = b3 at *
  go_enter Tryd.func3, Tryd.ntmps3
  go_wp2_with fail
  refine H1.out.mono ?_
  rintro e w1 ⟨rfl, rfl⟩
  go_wp2_with fail
  refine H2.out.mono ?_
  rintro e w2 ⟨rfl, hb2⟩
  have hres2 := hres.below hb2 (Nat.le_refl _)
  have hkw2 := hkw.below hb2 (Nat.le_refl _)
  go_wp2_with fail
  refine (H3.out w2 hres2).mono ?_
  rintro e w3 ⟨rfl, rfl⟩
  go_wp2_with fail
  refine (H4.out w2).mono ?_
  rintro e w4 ⟨rfl, hb4⟩
  have hres4 := hres2.below hb4 (Nat.le_refl _)
  have hkw4 := hkw2.below hb4 (Nat.le_refl _)
  go_wp2_with fail
  refine (H5.out w4 hres4).mono ?_
  rintro e w5 ⟨rfl, rfl⟩
  go_wp2_with fail
  refine (H6.out w4).mono ?_
  rintro e w6 ⟨rfl, hb6⟩
  have hres6 := hres4.below hb6 (Nat.le_refl _)
  have hkw6 := hkw4.below hb6 (Nat.le_refl _)
  go_wp2_with fail
  refine (H7.out w6 hres6).mono ?_
  rintro e w7 ⟨rfl, rfl⟩
  go_wp2_with fail
  refine (H8.out w6).mono ?_
  rintro e w8 ⟨rfl, hb8⟩
  have hres8 := hres6.below hb8 (Nat.le_refl _)
  have hkw8 := hkw6.below hb8 (Nat.le_refl _)
  go_wp2_with fail
  refine (law27works_any w8 hkw8 hres8).mono ?_
  rintro e w9 ⟨rfl, rfl⟩
  go_wp2_with fail
  go_ret
  exact ⟨rfl, ((hb2.trans (hb4.mono hb2.size)).trans (hb6.mono (Nat.le_trans hb2.size hb4.size))).trans (hb8.mono (Nat.le_trans hb2.size (Nat.le_trans hb4.size hb6.size)))⟩
theorem wordTells_law {H : Type} (enc : TypeId × Value → H) (W : World) (a0 : ByteArray) (w0 : a0.size ≤ maxLen) (hL : laidMetH Tryd.prog Rows.wordTellsRow.laid W) :
    Calls Tryd.prog 3 #[.string a0] W fun e w' => e = .returned (.bool true) ∧ Below W.heap.size W w' :=
  wordTells_walk a0 W w0 (kw_of hL (by rfl)) (res_of hL (by rfl))
end Go.Proofs.YtleefjhgpjdihaaDoor
