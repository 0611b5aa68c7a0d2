/-
  Stores: the walks of Len, has, Get, Set, Zero, New, and of the document's.
-/
import Derived.Test.YtfmhdmgkbaicbaaProg
import Derived.Test.YtfmhdmgkbaicbaaSto
import Derived.BigRegion
import Derived.Deep.DeepCutAuto
namespace Go.Proofs.Ytfmhdmgkbaicbaa
open Go.RowKit
set_option linter.unusedVariables false
set_option linter.unusedSimpArgs false

theorem set2_below {B : Nat} {w0 w : World} {b : Nat} (h : Below B w0 w) (hb : B ≤ b) (x y : Value) : Below B w0 ((w.setCell ⟨b, 0, none⟩ x).setCell ⟨b, 1, none⟩ y) := (h.setCell (p := ⟨b, 0, none⟩) hb _).setCell (p := ⟨b, 1, none⟩) hb _
theorem ret_boolS {a b : Bool} (h : a = b) : Ending.returned (.bool a) = .returned (.bool b) := by rw [h]
set_option maxRecDepth 100000 in
theorem stLen_any {w : World} {B g : Nat} {vo : Value} {X : List Cel} (h : St 54 w B g vo X) :
    Calls Try.prog 15 #[.pointer (some ⟨g, 0, none⟩)] w fun e w' => e = .returned (.int .i64 (X.length : Nat)) ∧ w = w' := by
  obtain ⟨ao, c, rfl, hc1, hc2⟩ := owns_val h.objs.out
  obtain ⟨c0, f0⟩ := h.cell
  clear h
  generalize X.length = n at *
  go_enter Try.func15, Try.ntmps15
  go_wp2_with fail
  go_ret
  exact ⟨rfl, rfl⟩
theorem stLen_nil (w : World) :
    Calls Try.prog 15 #[.pointer none] w fun e w' => e = .returned (.int .i64 0) ∧ w = w' := by
  go_enter Try.func15, Try.ntmps15
  go_wp2_with fail
  go_ret
  exact ⟨rfl, rfl⟩
set_option maxRecDepth 100000 in
theorem stHas_yes {w : World} {B g : Nat} {vo : Value} {X : List Cel} (h : St 54 w B g vo X) (i f : Nat) (hi : i < X.length) (hf : f < X[i].L.length) :
    Calls Try.prog 23 #[.pointer (some ⟨g, 0, none⟩), .int .i64 i, .int .i64 f] w fun e w' => e = .returned (.bool true) ∧ w = w' := by
  have hL := stLen_any h
  obtain ⟨ao, c, rfl, hc1, hc2⟩ := owns_val h.objs.out
  obtain ⟨c0, f0⟩ := h.cell
  obtain ⟨b, rfl, hb1, hb2, c1, c2, _⟩ := h.objs.at i hi
  obtain ⟨ao2, cc, hv, hv1, hv2⟩ := h.objs.vat i hi
  rw [hv] at c2
  clear h hv
  generalize X[i].L.length = m at *
  generalize X[i].ty = ty at *
  generalize X.length = n at *
  have HL := Lib.hid hL
  clear hL
  have g0 : (0 : Int) ≤ (i : Int) := by omega
  have g1 : (i : Int) < (n : Int) := by omega
  have g2 : (0 : Int) ≤ (f : Int) := by omega
  have g3 : (f : Int) < (m : Int) := by omega
  go_enter Try.func23, Try.ntmps23
  go_wp2_with (go_at_call 15; refine HL.out.mono ?_; rintro e w' ⟨rfl, rfl⟩)
  go_ret
  exact ⟨ret_boolS (by first | (simp; done) | (simp; omega)), rfl⟩
set_option maxRecDepth 100000 in
theorem stHas_no {w : World} {B g : Nat} {vo : Value} {X : List Cel} (h : St 54 w B g vo X) (i f : Int) (hno : ∀ (i' f' : Nat) (hi : i' < X.length), i = i' → f = f' → ¬ f' < X[i'].L.length) :
    Calls Try.prog 23 #[.pointer (some ⟨g, 0, none⟩), .int .i64 i, .int .i64 f] w fun e w' => e = .returned (.bool false) ∧ w = w' := by
  have hL := stLen_any h
  obtain ⟨ao, c, rfl, hc1, hc2⟩ := owns_val h.objs.out
  obtain ⟨c0, f0⟩ := h.cell
  have HL := Lib.hid hL
  clear hL
  by_cases h0 : i < 0
  · clear h hno
    generalize X.length = n at *
    go_enter Try.func23, Try.ntmps23
    go_wp2_with (go_at_call 15; refine HL.out.mono ?_; rintro e w' ⟨rfl, rfl⟩)
    go_ret
    exact ⟨rfl, rfl⟩
  · obtain ⟨j, rfl⟩ : ∃ j : Nat, i = j := ⟨i.toNat, by omega⟩
    by_cases h1 : j < X.length
    · by_cases h2 : f < 0
      · clear h hno
        generalize X.length = n at *
        have g1 : (j : Int) < (n : Int) := by omega
        go_enter Try.func23, Try.ntmps23
        go_wp2_with (go_at_call 15; refine HL.out.mono ?_; rintro e w' ⟨rfl, rfl⟩)
        go_ret
        exact ⟨rfl, rfl⟩
      · obtain ⟨k, rfl⟩ : ∃ k : Nat, f = k := ⟨f.toNat, by omega⟩
        have h3 := hno j k h1 rfl rfl
        obtain ⟨b, rfl, hb1, hb2, c1, c2, _⟩ := h.objs.at j h1
        obtain ⟨ao2, cc, hv, hv1, hv2⟩ := h.objs.vat j h1
        rw [hv] at c2
        clear h hv hno
        generalize X[j].L.length = m at *
        generalize X[j].ty = ty at *
        generalize X.length = n at *
        have g0 : (0 : Int) ≤ (j : Int) := by omega
        have g1 : (j : Int) < (n : Int) := by omega
        have g2 : (0 : Int) ≤ (k : Int) := by omega
        have g3 : ¬ (k : Int) < (m : Int) := by omega
        go_enter Try.func23, Try.ntmps23
        go_wp2_with (go_at_call 15; refine HL.out.mono ?_; rintro e w' ⟨rfl, rfl⟩)
        go_ret
        exact ⟨ret_boolS (by first | (simp; done) | (simp; omega)), rfl⟩
    · clear h hno
      generalize X.length = n at *
      have g0 : (0 : Int) ≤ (j : Int) := by omega
      have g1 : ¬ (j : Int) < (n : Int) := by omega
      have g2 : decide ((j : Int) < (n : Int)) = false := by simp; omega
      have g3 : decide (j < n) = false := by simp; omega
      go_enter Try.func23, Try.ntmps23
      go_wp2_with (go_at_call 15; refine HL.out.mono ?_; rintro e w' ⟨rfl, rfl⟩)
      go_ret
      exact ⟨rfl, rfl⟩
set_option maxRecDepth 100000 in
theorem refThere_yes {w : World} {B g : Nat} {vo : Value} {X : List Cel} (h : St 28 w B g vo X) (i f : Nat) (hi : i < X.length) (hf : f < X[i].L.length) :
    Calls Try.prog 24 #[.pointer (some ⟨g, 0, none⟩), .int .i64 i, .int .i64 f] w fun e w' => e = .returned (.bool true) ∧ w = w' := by
  obtain ⟨ao, c, rfl, hc1, hc2⟩ := owns_val h.objs.out
  obtain ⟨c0, f0⟩ := h.cell
  obtain ⟨b, rfl, hb1, hb2, c1, c2, _⟩ := h.objs.at i hi
  obtain ⟨ao2, cc, hv, hv1, hv2⟩ := h.objs.vat i hi
  rw [hv] at c2
  clear h hv
  generalize X[i].L.length = m at *
  generalize X[i].ty = ty at *
  generalize X.length = n at *
  have g0 : (0 : Int) ≤ (i : Int) := by omega
  have g1 : (i : Int) < (n : Int) := by omega
  have g2 : (0 : Int) ≤ (f : Int) := by omega
  have g3 : (f : Int) < (m : Int) := by omega
  go_enter Try.func24, Try.ntmps24
  go_wp2_with fail
  go_ret
  exact ⟨ret_boolS (by first | (simp; done) | (simp; omega)), rfl⟩
set_option maxRecDepth 100000 in
theorem refThere_no {w : World} {B g : Nat} {vo : Value} {X : List Cel} (h : St 28 w B g vo X) (i f : Int) (hno : ∀ (i' f' : Nat) (hi : i' < X.length), i = i' → f = f' → ¬ f' < X[i'].L.length) :
    Calls Try.prog 24 #[.pointer (some ⟨g, 0, none⟩), .int .i64 i, .int .i64 f] w fun e w' => e = .returned (.bool false) ∧ w = w' := by
  obtain ⟨ao, c, rfl, hc1, hc2⟩ := owns_val h.objs.out
  obtain ⟨c0, f0⟩ := h.cell
  by_cases h0 : i < 0
  · clear h hno
    generalize X.length = n at *
    go_enter Try.func24, Try.ntmps24
    go_wp2_with fail
    go_ret
    exact ⟨rfl, rfl⟩
  · obtain ⟨j, rfl⟩ : ∃ j : Nat, i = j := ⟨i.toNat, by omega⟩
    by_cases h1 : j < X.length
    · by_cases h2 : f < 0
      · clear h hno
        generalize X.length = n at *
        have g1 : (j : Int) < (n : Int) := by omega
        go_enter Try.func24, Try.ntmps24
        go_wp2_with fail
        go_ret
        exact ⟨rfl, rfl⟩
      · obtain ⟨k, rfl⟩ : ∃ k : Nat, f = k := ⟨f.toNat, by omega⟩
        have h3 := hno j k h1 rfl rfl
        obtain ⟨b, rfl, hb1, hb2, c1, c2, _⟩ := h.objs.at j h1
        obtain ⟨ao2, cc, hv, hv1, hv2⟩ := h.objs.vat j h1
        rw [hv] at c2
        clear h hv hno
        generalize X[j].L.length = m at *
        generalize X[j].ty = ty at *
        generalize X.length = n at *
        have g0 : (0 : Int) ≤ (j : Int) := by omega
        have g1 : (j : Int) < (n : Int) := by omega
        have g2 : (0 : Int) ≤ (k : Int) := by omega
        have g3 : ¬ (k : Int) < (m : Int) := by omega
        go_enter Try.func24, Try.ntmps24
        go_wp2_with fail
        go_ret
        exact ⟨ret_boolS (by first | (simp; done) | (simp; omega)), rfl⟩
    · clear h hno
      generalize X.length = n at *
      have g0 : (0 : Int) ≤ (j : Int) := by omega
      have g1 : ¬ (j : Int) < (n : Int) := by omega
      have g2 : decide ((j : Int) < (n : Int)) = false := by simp; omega
      have g3 : decide (j < n) = false := by simp; omega
      go_enter Try.func24, Try.ntmps24
      go_wp2_with fail
      go_ret
      exact ⟨rfl, rfl⟩
theorem stHas_nil (w : World) : Calls Try.prog 23 #[.pointer none, .int .i64 0, .int .i64 0] w fun e w' => e = .returned (.bool false) ∧ w = w' := by
  have HL := Lib.hid (stLen_nil w)
  go_enter Try.func23, Try.ntmps23
  go_wp2_with (go_at_call 15; refine HL.out.mono ?_; rintro e w' ⟨rfl, rfl⟩)
  go_ret
  exact ⟨rfl, rfl⟩
set_option maxRecDepth 100000 in
theorem stGet_yes {w : World} {B g : Nat} {vo : Value} {X : List Cel} (h : St 54 w B g vo X) (i f : Nat) (hi : i < X.length) (hf : f < X[i].L.length) :
    Calls Try.prog 10 #[.pointer (some ⟨g, 0, none⟩), .int .i64 i, .int .i64 f] w fun e w' => e = .returned (.tuple #[.agg #[.int .i64 X[i].L[f].1, .int .i64 X[i].L[f].2], .int .i64 0]) ∧ Below w.heap.size w w' := by
  have hb : Below w.heap.size w (w.alloc (.cells #[.int .i64 0, .int .i64 0] 30)) := (Below.refl _ _).alloc (Nat.le_refl _) _
  have hH := stHas_yes (h.below hb) i f hi hf
  have hgl := h.gl
  obtain ⟨ao, c, rfl, hc1, hc2⟩ := owns_val h.objs.out
  obtain ⟨c0, f0⟩ := h.cell
  obtain ⟨b, rfl, hb1, hb2, c1, c2, _⟩ := h.objs.at i hi
  obtain ⟨ao2, cc, hv, hv1, hv2⟩ := h.objs.vat i hi
  obtain ⟨b2, rfl, hbb1, hbb2, d1, d2, _⟩ := h.objs.field i hi hv f hf
  rw [hv] at c2
  clear h hv
  generalize X[i].L[f] = p at *
  generalize X[i].L.length = m at *
  generalize X[i].ty = ty at *
  generalize X.length = n at *
  have HH := Lib.hid hH
  have Hb := Lib.hid hb
  clear hH hb
  have g0 : (0 : Int) ≤ (i : Int) := by omega
  have g1 : (i : Int) < (n : Int) := by omega
  have g2 : (0 : Int) ≤ (f : Int) := by omega
  have g3 : (f : Int) < (m : Int) := by omega
  go_enter Try.func10, Try.ntmps10
  go_wp2_with (go_at_call 23; refine HH.out.mono ?_; rintro e w' ⟨rfl, rfl⟩)
  exact bodyPost_ret (v := .tuple #[.agg #[.int .i64 p.1, .int .i64 p.2], .int .i64 0]) (by simp [results, Try.results10, go_sem]) rfl ⟨rfl, (Below.refl _ w).alloc (Nat.le_refl _) _⟩
set_option maxRecDepth 100000 in
theorem stGet_no {w : World} {B g : Nat} {vo : Value} {X : List Cel} (h : St 54 w B g vo X) (i f : Int) (hno : ∀ (i' f' : Nat) (hi : i' < X.length), i = i' → f = f' → ¬ f' < X[i'].L.length) :
    Calls Try.prog 10 #[.pointer (some ⟨g, 0, none⟩), .int .i64 i, .int .i64 f] w fun e w' => e = .returned (.tuple #[.agg #[.int .i64 0, .int .i64 0], .int .i64 3]) ∧ Below w.heap.size w w' := by
  have hb : Below w.heap.size w (w.alloc (.cells #[.int .i64 0, .int .i64 0] 30)) := (Below.refl _ _).alloc (Nat.le_refl _) _
  have HH := Lib.hid (stHas_no (h.below hb) i f hno)
  clear hno hb
  go_enter Try.func10, Try.ntmps10
  go_wp2_with (go_at_call 23; refine HH.out.mono ?_; rintro e w' ⟨rfl, rfl⟩)
  exact bodyPost_ret (v := .tuple #[.agg #[.int .i64 0, .int .i64 0], .int .i64 3]) (by simp [results, Try.results10, go_sem]) rfl ⟨rfl, (Below.refl _ w).alloc (Nat.le_refl _) _⟩
set_option maxRecDepth 100000 in
theorem refGet_yes {w : World} {B g : Nat} {vo : Value} {X : List Cel} (h : St 28 w B g vo X) (i f : Nat) (hi : i < X.length) (hf : f < X[i].L.length) :
    Calls Try.prog 11 #[.pointer (some ⟨g, 0, none⟩), .int .i64 i, .int .i64 f] w fun e w' => e = .returned (.tuple #[.agg #[.int .i64 X[i].L[f].1, .int .i64 X[i].L[f].2], .int .i64 0]) ∧ Below w.heap.size w w' := by
  have hb : Below w.heap.size w (w.alloc (.cells #[.int .i64 0, .int .i64 0] 30)) := (Below.refl _ _).alloc (Nat.le_refl _) _
  have hH := refThere_yes (h.below hb) i f hi hf
  have hgl := h.gl
  obtain ⟨ao, c, rfl, hc1, hc2⟩ := owns_val h.objs.out
  obtain ⟨c0, f0⟩ := h.cell
  obtain ⟨b, rfl, hb1, hb2, c1, c2, _⟩ := h.objs.at i hi
  obtain ⟨ao2, cc, hv, hv1, hv2⟩ := h.objs.vat i hi
  obtain ⟨b2, rfl, hbb1, hbb2, d1, d2, _⟩ := h.objs.field i hi hv f hf
  rw [hv] at c2
  clear h hv
  generalize X[i].L[f] = p at *
  generalize X[i].L.length = m at *
  generalize X[i].ty = ty at *
  generalize X.length = n at *
  have HH := Lib.hid hH
  have Hb := Lib.hid hb
  clear hH hb
  have g0 : (0 : Int) ≤ (i : Int) := by omega
  have g1 : (i : Int) < (n : Int) := by omega
  have g2 : (0 : Int) ≤ (f : Int) := by omega
  have g3 : (f : Int) < (m : Int) := by omega
  go_enter Try.func11, Try.ntmps11
  go_wp2_with (go_at_call 24; refine HH.out.mono ?_; rintro e w' ⟨rfl, rfl⟩)
  exact bodyPost_ret (v := .tuple #[.agg #[.int .i64 p.1, .int .i64 p.2], .int .i64 0]) (by simp [results, Try.results11, go_sem]) rfl ⟨rfl, (Below.refl _ w).alloc (Nat.le_refl _) _⟩
set_option maxRecDepth 100000 in
theorem refGet_no {w : World} {B g : Nat} {vo : Value} {X : List Cel} (h : St 28 w B g vo X) (i f : Int) (hno : ∀ (i' f' : Nat) (hi : i' < X.length), i = i' → f = f' → ¬ f' < X[i'].L.length) :
    Calls Try.prog 11 #[.pointer (some ⟨g, 0, none⟩), .int .i64 i, .int .i64 f] w fun e w' => e = .returned (.tuple #[.agg #[.int .i64 0, .int .i64 0], .int .i64 3]) ∧ Below w.heap.size w w' := by
  have hb : Below w.heap.size w (w.alloc (.cells #[.int .i64 0, .int .i64 0] 30)) := (Below.refl _ _).alloc (Nat.le_refl _) _
  have HH := Lib.hid (refThere_no (h.below hb) i f hno)
  clear hno hb
  go_enter Try.func11, Try.ntmps11
  go_wp2_with (go_at_call 24; refine HH.out.mono ?_; rintro e w' ⟨rfl, rfl⟩)
  exact bodyPost_ret (v := .tuple #[.agg #[.int .i64 0, .int .i64 0], .int .i64 3]) (by simp [results, Try.results11, go_sem]) rfl ⟨rfl, (Below.refl _ w).alloc (Nat.le_refl _) _⟩
theorem stGet_nil (w : World) : Calls Try.prog 10 #[.pointer none, .int .i64 0, .int .i64 0] w fun e w' => e = .returned (.tuple #[.agg #[.int .i64 0, .int .i64 0], .int .i64 3]) ∧ Below w.heap.size w w' := by
  have HH := Lib.hid (stHas_nil (w.alloc (.cells #[.int .i64 0, .int .i64 0] 30)))
  go_enter Try.func10, Try.ntmps10
  go_wp2_with (go_at_call 23; refine HH.out.mono ?_; rintro e w' ⟨rfl, rfl⟩)
  exact bodyPost_ret (v := .tuple #[.agg #[.int .i64 0, .int .i64 0], .int .i64 3]) (by simp [results, Try.results10, go_sem]) rfl ⟨rfl, (Below.refl _ w).alloc (Nat.le_refl _) _⟩
theorem stSet_nil (w : World) (a b : Int) : Calls Try.prog 12 #[.pointer none, .int .i64 0, .int .i64 0, .agg #[.int .i64 a, .int .i64 b]] w fun e w' => e = .returned (.int .i64 3) ∧ Below w.heap.size w w' := by
  have HH := Lib.hid (stHas_nil (w.alloc (.cells #[.int .i64 a, .int .i64 b] 30)))
  go_enter Try.func12, Try.ntmps12
  go_wp2_with (go_at_call 23; refine HH.out.mono ?_; rintro e w' ⟨rfl, rfl⟩)
  go_ret
  exact ⟨rfl, (Below.refl _ w).alloc (Nat.le_refl _) _⟩
def zeroK (s : ByteArray) : Int := if (s.toList == [105, 110, 116]) = true then 1 else if (s.toList == [98, 111, 111, 108]) = true then 2 else 4
set_option maxRecDepth 100000 in
theorem stZero_any (s : ByteArray) (w : World) : Calls Try.prog 20 #[.string s] w fun e w' => e = .returned (.agg #[.int .i64 (zeroK s), .int .i64 0]) ∧ Below w.heap.size w w' := by
  rcases Bool.eq_false_or_eq_true (s.toList == [105, 110, 116]) with h1 | h1
  · have HZ : Hid (zeroK s = 1) := by show zeroK s = 1; unfold zeroK; rw [if_pos h1]
    have hs : s.toList = [105, 110, 116] := by simpa using h1
    clear h1
    go_enter Try.func20, Try.ntmps20
    go_wp2_with fail
    exact bodyPost_ret (v := .agg #[.int .i64 1, .int .i64 0]) (by simp [results, Try.results20, go_sem]) rfl ⟨by rw [HZ.out], (Below.refl _ w).alloc (Nat.le_refl _) _⟩
  · rcases Bool.eq_false_or_eq_true (s.toList == [98, 111, 111, 108]) with h2 | h2
    · have HZ : Hid (zeroK s = 2) := by show zeroK s = 2; unfold zeroK; rw [if_neg (by rw [h1]; decide), if_pos h2]
      have hs : s.toList = [98, 111, 111, 108] := by simpa using h2
      clear h2
      go_enter Try.func20, Try.ntmps20
      go_wp2_with fail
      exact bodyPost_ret (v := .agg #[.int .i64 2, .int .i64 0]) (by simp [results, Try.results20, go_sem]) rfl ⟨by rw [HZ.out], (Below.refl _ w).alloc (Nat.le_refl _) _⟩
    · have HZ : Hid (zeroK s = 4) := by show zeroK s = 4; unfold zeroK; rw [if_neg (by rw [h1]; decide), if_neg (by rw [h2]; decide)]
      have n1 : ¬ s.toList = [105, 110, 116] := by simpa using h1
      have n2 : ¬ s.toList = [98, 111, 111, 108] := by simpa using h2
      go_enter Try.func20, Try.ntmps20
      go_wp2_with fail
      exact bodyPost_ret (v := .agg #[.int .i64 4, .int .i64 0]) (by simp [results, Try.results20, go_sem]) rfl ⟨by rw [HZ.out], (Below.refl _ w).alloc (Nat.le_refl _) _⟩
set_option maxRecDepth 100000 in
theorem refZero_any (s : ByteArray) (w : World) : Calls Try.prog 21 #[.string s] w fun e w' => e = .returned (.agg #[.int .i64 (zeroK s), .int .i64 0]) ∧ Below w.heap.size w w' := by
  rcases Bool.eq_false_or_eq_true (s.toList == [105, 110, 116]) with h1 | h1
  · have HZ : Hid (zeroK s = 1) := by show zeroK s = 1; unfold zeroK; rw [if_pos h1]
    have hs : s.toList = [105, 110, 116] := by simpa using h1
    clear h1
    go_enter Try.func21, Try.ntmps21
    go_wp2_with fail
    exact bodyPost_ret (v := .agg #[.int .i64 1, .int .i64 0]) (by simp [results, Try.results21, go_sem]) rfl ⟨by rw [HZ.out], (Below.refl _ w).alloc (Nat.le_refl _) _⟩
  · rcases Bool.eq_false_or_eq_true (s.toList == [98, 111, 111, 108]) with h2 | h2
    · have HZ : Hid (zeroK s = 2) := by show zeroK s = 2; unfold zeroK; rw [if_neg (by rw [h1]; decide), if_pos h2]
      have hs : s.toList = [98, 111, 111, 108] := by simpa using h2
      clear h2
      go_enter Try.func21, Try.ntmps21
      go_wp2_with fail
      exact bodyPost_ret (v := .agg #[.int .i64 2, .int .i64 0]) (by simp [results, Try.results21, go_sem]) rfl ⟨by rw [HZ.out], (Below.refl _ w).alloc (Nat.le_refl _) _⟩
    · have HZ : Hid (zeroK s = 4) := by show zeroK s = 4; unfold zeroK; rw [if_neg (by rw [h1]; decide), if_neg (by rw [h2]; decide)]
      have n1 : ¬ s.toList = [105, 110, 116] := by simpa using h1
      have n2 : ¬ s.toList = [98, 111, 111, 108] := by simpa using h2
      go_enter Try.func21, Try.ntmps21
      go_wp2_with fail
      exact bodyPost_ret (v := .agg #[.int .i64 4, .int .i64 0]) (by simp [results, Try.results21, go_sem]) rfl ⟨by rw [HZ.out], (Below.refl _ w).alloc (Nat.le_refl _) _⟩
end Go.Proofs.Ytfmhdmgkbaicbaa
