/-
  The walks of the statements on digits.
-/
import Derived.Test.YtjfehnjkijecpaaDoorDigitP
namespace Go.Proofs.YtjfehnjkijecpaaDoor
open Go.RowKit
set_option linter.unusedVariables false

set_option maxHeartbeats 400000 in
theorem refParse_yes (n : Nat) (w : World) (hn : n ≤ 2147483647) :
    Calls Tryd.prog 37 #[.string (decS n)] w fun e w' => e = .returned (.tuple #[.int .i64 n, .int .i64 0]) ∧ w = w' := by
  go_enter Tryd.func37, Tryd.ntmps37
  go_wp2_with fail
  refine (baseWhole_yes n _ hn).mono ?_
  rintro e w1 ⟨rfl, rfl⟩
  have h1 : ¬ (2147483647 : Int) < (n : Int) := by omega
  go_wp2_with fail
  go_ret2
  exact ⟨rfl, rfl⟩
set_option maxHeartbeats 400000 in
theorem refParse_no (s : ByteArray) (w : World) (hs : s.size ≤ maxLen) (hno : ∀ n, ¬ IsNum s n) :
    Calls Tryd.prog 37 #[.string s] w fun e w' => e = .returned (.tuple #[.int .i64 0, .int .i64 5]) ∧ w = w' := by
  go_enter Tryd.func37, Tryd.ntmps37
  go_wp2_with fail
  refine (baseWhole_no s _ hs hno).mono ?_
  rintro e w1 ⟨n, b, rfl, hb, hn, rfl⟩
  have Hno := Lib.hid hno; clear hno
  cases b with
  | false =>
    go_wp2_with fail
    go_ret2
    exact ⟨rfl, rfl⟩
  | true =>
    have h1 : (2147483647 : Int) < (n : Int) := by
      rcases hb with hb | hb
      · cases hb
      · omega
    clear hb
    go_wp2_with fail
    go_ret2
    exact ⟨rfl, rfl⟩

theorem not007 : ∀ n, ¬ IsNum ⟨#[48, 48, 55]⟩ n := by
  rintro n ⟨h, hn⟩
  have h1 : Lib.decDigits n = [48, 48, 55] := by
    have := congrArg (fun a : ByteArray => a.data.toList) h; exact this.symm
  have h2 := val_dec n
  rw [h1] at h2
  have : n = 7 := by rw [← h2]; rfl
  subst this
  rw [dec_small 7 (by decide)] at h1
  simp at h1
theorem dec70 : (⟨#[55, 48]⟩ : ByteArray) = decS 70 := by
  apply strEq; show [55, 48] = Lib.decDigits 70
  rw [dec_big 70 (by decide), dec_small _ (by decide)]; rfl
theorem dec12 : decS 12 = ⟨#[49, 50]⟩ := by
  apply strEq; show Lib.decDigits 12 = [49, 50]
  rw [dec_big 12 (by decide), dec_small _ (by decide)]; rfl
set_option maxHeartbeats 400000 in
theorem law03works_any (w : World) (ht : Tab10 w) : Calls Tryd.prog 35 #[] w fun e w' => e = .returned (.bool true) ∧ Below w.heap.size w w' := by
  have h70 := fun W => digitParse_yes 70 W (by decide)
  rw [← dec70] at h70
  have h12 := fun W => digitPrint_any 12 W (by decide)
  rw [show clamp 12 = 12 from rfl, dec12] at h12
  have H70 := Lib.hid h70; have H12 := Lib.hid h12; clear h70 h12
  go_enter Tryd.func35, Tryd.ntmps35
  go_wp2_with fail
  refine (H70.out _ ht).mono ?_
  rintro e w1 ⟨rfl, hb1⟩
  have ht1 := ht.below hb1 (Nat.le_refl _)
  have hs1 := hb1.size
  go_wp2_with fail
  refine (digitParse_no _ _ (by decide) not007 ht1).mono ?_
  rintro e w2 ⟨rfl, hb2⟩
  have ht2 := ht1.below hb2 (Nat.le_refl _)
  have hs2 := hb2.size
  go_wp2_with fail
  refine (H12.out _ ht2).mono ?_
  rintro e w3 ⟨rfl, hb3⟩
  go_wp2_with fail
  go_ret
  exact ⟨rfl, hb1.trans ((hb2.mono hs1).trans (hb3.mono (by omega)))⟩

set_option maxHeartbeats 400000 in
theorem digitParses_walk (s : ByteArray) (w : World) (hs : s.size ≤ maxLen) (ht : Tab10 w) :
    Calls Tryd.prog 8 #[.string s] w fun e w' => e = .returned (.bool true) ∧ Below w.heap.size w w' := by
  by_cases hn : ∃ n, IsNum s n
  · obtain ⟨n, rfl, hn⟩ := hn
    go_enter Tryd.func8, Tryd.ntmps8
    go_wp2_with fail
    refine (digitParse_yes n _ hn ht).mono ?_
    rintro e w1 ⟨rfl, hb1⟩
    have ht1 := ht.below hb1 (Nat.le_refl _)
    have hs1 := hb1.size
    go_wp2_with fail
    refine (refParse_yes n _ hn).mono ?_
    rintro e w2 ⟨rfl, rfl⟩
    go_wp2_with fail
    refine (law03works_any _ ht1).mono ?_
    rintro e w3 ⟨rfl, hb3⟩
    go_wp2_with fail
    go_ret
    exact ⟨rfl, hb1.trans (hb3.mono hs1)⟩
  · have Hno : Hid (∀ n, ¬ IsNum s n) := fun n h => hn ⟨n, h⟩
    clear hn
    go_enter Tryd.func8, Tryd.ntmps8
    go_wp2_with fail
    refine (digitParse_no s _ hs Hno.out ht).mono ?_
    rintro e w1 ⟨rfl, hb1⟩
    have ht1 := ht.below hb1 (Nat.le_refl _)
    have hs1 := hb1.size
    go_wp2_with fail
    refine (refParse_no s _ hs Hno.out).mono ?_
    rintro e w2 ⟨rfl, rfl⟩
    go_wp2_with fail
    refine (law03works_any _ ht1).mono ?_
    rintro e w3 ⟨rfl, hb3⟩
    go_wp2_with fail
    go_ret
    exact ⟨rfl, hb1.trans (hb3.mono hs1)⟩
theorem digitParses_law {H : Type} (enc : TypeId × Value → H) (W : World) (a0 : ByteArray) (w0 : a0.size ≤ maxLen) (hL : laidMetH Tryd.prog Rows.digitParsesRow.laid W) :
    Calls Tryd.prog 8 #[.string a0] W fun e w' => e = .returned (.bool true) ∧ Below W.heap.size W w' :=
  digitParses_walk a0 W w0 (tab10_of hL (by rfl))

set_option maxHeartbeats 800000 in
theorem digitBack_walk (a : Nat) (s : ByteArray) (w : World) (ha : a ≤ 4294967295) (hs : s.size ≤ maxLen) (ht : Tab10 w) :
    Calls Tryd.prog 9 #[.int .u32 a, .string s] w fun e w' => e = .returned (.bool true) ∧ Below w.heap.size w w' := by
  have hP := fun W => digitPrint_any ((a / 2 : Nat) : Int) W (by omega)
  rw [clamp_nat (a / 2) (by omega)] at hP
  have HP := Lib.hid hP; clear hP
  go_enter Tryd.func9, Tryd.ntmps9
  go_wp2_with fail
  refine (law03works_any _ ht).mono ?_
  rintro e w1 ⟨rfl, hb1⟩
  have ht1 := ht.below hb1 (Nat.le_refl _)
  have hs1 := hb1.size
  go_wp2_with fail
  have He := Lib.hid (show ((a : Int) / 2) = ((a / 2 : Nat) : Int) from by omega)
  rw [He.out]
  refine (HP.out _ ht1).mono ?_
  rintro e w2 ⟨rfl, hb2⟩
  have ht2 := ht1.below hb2 (Nat.le_refl _)
  have hs2 := hb2.size
  go_wp2_with fail
  refine (digitParse_yes (a / 2) _ (by omega) ht2).mono ?_
  rintro e w3 ⟨rfl, hb3⟩
  have ht3 := ht2.below hb3 (Nat.le_refl _)
  have hs3 := hb3.size
  by_cases hn : ∃ n, IsNum s n
  · obtain ⟨n, rfl, hn⟩ := hn
    have hQ := fun W => digitPrint_any n W (by omega)
    rw [clamp_nat n hn] at hQ
    have HQ := Lib.hid hQ; clear hQ
    go_wp2_with fail
    refine (digitParse_yes n _ hn ht3).mono ?_
    rintro e w4 ⟨rfl, hb4⟩
    have ht4 := ht3.below hb4 (Nat.le_refl _)
    have hs4 := hb4.size
    go_wp2_with fail
    refine (HQ.out _ ht4).mono ?_
    rintro e w5 ⟨rfl, hb5⟩
    go_wp2_with fail
    go_ret
    exact ⟨rfl, hb1.trans ((hb2.mono hs1).trans ((hb3.mono (by omega)).trans ((hb4.mono (by omega)).trans (hb5.mono (by omega)))))⟩
  · have Hno : Hid (∀ n, ¬ IsNum s n) := fun n h => hn ⟨n, h⟩
    clear hn
    go_wp2_with fail
    refine (digitParse_no s _ hs Hno.out ht3).mono ?_
    rintro e w4 ⟨rfl, hb4⟩
    go_wp2_with fail
    go_ret
    exact ⟨rfl, hb1.trans ((hb2.mono hs1).trans ((hb3.mono (by omega)).trans (hb4.mono (by omega))))⟩
theorem digitBack_law {H : Type} (enc : TypeId × Value → H) (W : World) (a0 : Int) (w0 : (Lit.int .u32 a0).wf = true) (a1 : ByteArray) (w1 : a1.size ≤ maxLen) (hL : laidMetH Tryd.prog Rows.digitBackRow.laid W) :
    Calls Tryd.prog 9 #[.int .u32 a0, .string a1] W fun e w' => e = .returned (.bool true) ∧ Below W.heap.size W w' := by
  have hu : 0 ≤ a0 ∧ a0 ≤ 4294967295 := by simpa [Lit.wf, IntKind.min, IntKind.max, IntKind.signed, IntKind.bits] using w0
  obtain ⟨n, rfl⟩ := Int.eq_ofNat_of_zero_le hu.1
  exact digitBack_walk n a1 W (by omega) w1 (tab10_of hL (by rfl))

theorem padS_size (n w : Int) : (padS n w).size ≤ 120 := by
  have := wide_le w; have h2 := clamp_le n; have h3 := dec_len (clamp n) (by omega)
  show (_ : List UInt8).toArray.size ≤ 120; simp; omega
theorem wide_min (w : Int) : min (max w 0) 100 = ((wide w : Nat) : Int) := by
  unfold wide; split <;> (try split) <;> omega
theorem repeat_one (c : Nat) : Lib.repeatL [32] c = List.replicate c 32 := by
  induction c with
  | zero => rfl
  | succ c ih => rw [List.replicate_succ, ← ih]; rfl

set_option maxHeartbeats 400000 in
theorem digitPad_any (n k : Int) (w : World) (hn : -9223372036854775808 ≤ n ∧ n ≤ 9223372036854775807) (hk : -9223372036854775808 ≤ k ∧ k ≤ 9223372036854775807) (ht : Tab10 w) :
    Calls Tryd.prog 33 #[.int .i64 n, .int .i64 k] w fun e w' => e = .returned (.string (padS n k)) ∧ Below w.heap.size w w' := by
  have hc := clamp_le n
  have hsz := decS_size (clamp n) (by omega)
  have hwl := wide_le k
  have Hw := Lib.hid (wide_min k)
  have hdl : (decS (clamp n)).size = (Lib.decDigits (clamp n)).length := by show (Lib.decDigits _).toArray.size = _; simp
  have Hdl := Lib.hid hdl; clear hdl
  go_enter Tryd.func33, Tryd.ntmps33
  go_wp2_with fail
  refine (digitPrint_any n _ hn ht).mono ?_
  rintro e w1 ⟨rfl, hb1⟩
  go_wp2_with fail
  rw [Hw.out]
  have He : Hid (max (((wide k : Nat) : Int) - ((decS (clamp n)).size : Int)) 0 = ((wide k - (Lib.decDigits (clamp n)).length : Nat) : Int)) := by
    show _ = _; rw [Hdl.out]; omega
  rw [He.out]
  generalize hcc : wide k - (Lib.decDigits (clamp n)).length = c at *
  have Hcc := Lib.hid hcc
  have hcl : c ≤ 100 := by omega
  clear hcc
  have ht1 := hb1.size
  refine (Tryd.strings_Repeat ⟨#[32]⟩ c _ (by omega) (by show 1 * c ≤ _; omega)).mono ?_
  rintro e w2 ⟨rfl, hb2⟩
  have hz : (⟨(Lib.repeatL [32] c).toArray⟩ : ByteArray).size ≤ 100 := by
    show (_ : List UInt8).toArray.size ≤ 100; rw [repeat_one]; simpa using hcl
  go_wp2_with fail
  go_ret
  refine ⟨retStr ?_, hb1.trans (hb2.mono ht1)⟩
  unfold padS decS
  rw [Hcc.out, ByteArray.data_append]
  show (_ ++ _ : Array UInt8).toList = _
  rw [Array.toList_append]
  show Lib.repeatL [32] c ++ _ = _
  rw [repeat_one]

theorem padHalf_size (j : Nat) (D : List UInt8) : (⟨(List.replicate j 32 ++ D).toArray⟩ : ByteArray).size = j + D.length := by
  show (_ : List UInt8).toArray.size = _; simp
theorem padHalf_cons (j : Nat) (D : List UInt8) : (⟨#[32]⟩ : ByteArray) ++ ⟨(List.replicate j 32 ++ D).toArray⟩ = ⟨(List.replicate (j + 1) 32 ++ D).toArray⟩ := by
  have := strCat [32] (List.replicate j 32 ++ D)
  rw [List.replicate_succ]; exact this

set_option maxHeartbeats 800000 in
theorem refPad_any (n k : Int) (w : World) (hn : -9223372036854775808 ≤ n ∧ n ≤ 9223372036854775807) (hk : -9223372036854775808 ≤ k ∧ k ≤ 9223372036854775807) :
    Calls Tryd.prog 34 #[.int .i64 n, .int .i64 k] w fun e w' => e = .returned (.string (padS n k)) ∧ Below w.heap.size w w' := by
  have hc := clamp_le n
  have hln := dec_len (clamp n) (by omega)
  have hwl := wide_le k
  have Hpad : Hid (padS n k = ⟨(List.replicate (wide k - (Lib.decDigits (clamp n)).length) 32 ++ Lib.decDigits (clamp n)).toArray⟩) := rfl
  have Hdec : Hid (decS (clamp n) = ⟨(List.replicate 0 32 ++ Lib.decDigits (clamp n)).toArray⟩) := rfl
  have hP := refPrint_any n w hn
  rw [Hdec.out] at hP
  have HP := Lib.hid hP
  have hwk : (∀ m : Nat, m < wide k → (m : Int) < k ∧ m < 100) ∧ (∀ m : Nat, ¬ m < wide k → ¬ (m : Int) < k ∨ ¬ m < 100) := by
    unfold wide
    constructor
    · intro m hm; split at hm <;> (try split at hm) <;> omega
    · intro m hm; split at hm <;> (try split at hm) <;> omega
  have Hwk := Lib.hid hwk
  clear hP Hdec hwk
  generalize Lib.decDigits (clamp n) = D at *
  generalize wide k = W at *
  go_enter Tryd.func34, Tryd.ntmps34
  go_wp2_with fail
  refine HP.out.mono ?_
  rintro e w1 ⟨rfl, hb1⟩
  go_wp2_with fail
  go_loop [5] (fun s => ∃ j : Nat, (j = 0 ∨ j + D.length ≤ W) ∧ s = .string ⟨(List.replicate j 32 ++ D).toArray⟩) (fun s => 200 - (match s with | .string t => t.size | _ => 0))
  case atStart => exact ⟨0, .inl rfl, rfl⟩
  case round =>
    obtain ⟨j, hj, rfl⟩ := hrel
    have hjl : j ≤ 120 := by omega
    have Hsz := Lib.hid (padHalf_size j D)
    have Hsz2 := Lib.hid (padHalf_size (j + 1) D)
    have hcons := padHalf_cons j D
    have hzz : (⟨(List.replicate j 32 ++ D).toArray⟩ : ByteArray).size ≤ 140 := by rw [Hsz.out]; omega
    by_cases hlt : j + D.length < W
    · obtain ⟨h1, h2⟩ := Hwk.out.1 (j + D.length) hlt
      have h3 : (((⟨(List.replicate j 32 ++ D).toArray⟩ : ByteArray).size : Nat) : Int) < k := by rw [Hsz.out]; exact h1
      have h4 : (((⟨(List.replicate j 32 ++ D).toArray⟩ : ByteArray).size : Nat) : Int) < 100 := by rw [Hsz.out]; omega
      generalize hX : (⟨(List.replicate j 32 ++ D).toArray⟩ : ByteArray) = X at *
      generalize hY : (⟨(List.replicate (j + 1) 32 ++ D).toArray⟩ : ByteArray) = Y at *
      have HX := Lib.hid hX; have HY := Lib.hid hY
      clear hX hY h1
      go_wp2
      go_round
      case rel => exact ⟨j + 1, .inr (by omega), by rw [HY.out]⟩
      case measure => have a := Hsz.out; have b := Hsz2.out; simp; omega
    · have Hfin : Hid (padS n k = ⟨(List.replicate j 32 ++ D).toArray⟩) := by
        show _ = _
        rw [Hpad.out]
        rcases hj with rfl | hj
        · rw [show W - D.length = 0 from by omega]
        · rw [show W - D.length = j from by omega]
      have h0 := Hwk.out.2 (j + D.length) hlt
      clear hcons
      rcases Int.lt_or_le (((⟨(List.replicate j 32 ++ D).toArray⟩ : ByteArray).size : Nat) : Int) k with h3 | h3
      · have h4 : ¬ (((⟨(List.replicate j 32 ++ D).toArray⟩ : ByteArray).size : Nat) : Int) < 100 := by
          rw [Hsz.out] at h3 ⊢; omega
        generalize (⟨(List.replicate j 32 ++ D).toArray⟩ : ByteArray) = X at *
        clear h0
        go_wp2
        go_ret
        exact ⟨retStr (by rw [Hfin.out]), hb1⟩
      · generalize (⟨(List.replicate j 32 ++ D).toArray⟩ : ByteArray) = X at *
        clear h0
        go_wp2
        go_ret
        exact ⟨retStr (by rw [Hfin.out]), hb1⟩

set_option maxHeartbeats 400000 in
theorem digitPrints_walk (n k : Int) (w : World) (hn : -9223372036854775808 ≤ n ∧ n ≤ 9223372036854775807) (hk : -9223372036854775808 ≤ k ∧ k ≤ 9223372036854775807) (ht : Tab10 w) :
    Calls Tryd.prog 7 #[.int .i64 n, .int .i64 k] w fun e w' => e = .returned (.bool true) ∧ Below w.heap.size w w' := by
  go_enter Tryd.func7, Tryd.ntmps7
  go_wp2_with fail
  refine (digitPrint_any n _ hn ht).mono ?_
  rintro e w1 ⟨rfl, hb1⟩
  have ht1 := ht.below hb1 (Nat.le_refl _)
  have hs1 := hb1.size
  go_wp2_with fail
  refine (refPrint_any n _ hn).mono ?_
  rintro e w2 ⟨rfl, hb2⟩
  have ht2 := ht1.below hb2 (Nat.le_refl _)
  have hs2 := hb2.size
  go_wp2_with fail
  refine (digitPad_any n k _ hn hk ht2).mono ?_
  rintro e w3 ⟨rfl, hb3⟩
  have ht3 := ht2.below hb3 (Nat.le_refl _)
  have hs3 := hb3.size
  go_wp2_with fail
  refine (refPad_any n k _ hn hk).mono ?_
  rintro e w4 ⟨rfl, hb4⟩
  have ht4 := ht3.below hb4 (Nat.le_refl _)
  have hs4 := hb4.size
  go_wp2_with fail
  refine (law03works_any _ ht4).mono ?_
  rintro e w5 ⟨rfl, hb5⟩
  go_wp2_with fail
  go_ret
  exact ⟨rfl, hb1.trans ((hb2.mono hs1).trans ((hb3.mono (by omega)).trans ((hb4.mono (by omega)).trans (hb5.mono (by omega)))))⟩
theorem i64_of_wf {a : Int} (h : (Lit.int .i64 a).wf = true) : -9223372036854775808 ≤ a ∧ a ≤ 9223372036854775807 := by
  simpa [Lit.wf, IntKind.min, IntKind.max, IntKind.signed, IntKind.bits] using h
theorem digitPrints_law {H : Type} (enc : TypeId × Value → H) (W : World) (a0 : Int) (w0 : (Lit.int .i64 a0).wf = true) (a1 : Int) (w1 : (Lit.int .i64 a1).wf = true) (hL : laidMetH Tryd.prog Rows.digitPrintsRow.laid W) :
    Calls Tryd.prog 7 #[.int .i64 a0, .int .i64 a1] W fun e w' => e = .returned (.bool true) ∧ Below W.heap.size W w' :=
  digitPrints_walk a0 a1 W (i64_of_wf w0) (i64_of_wf w1) (tab10_of hL (by rfl))
end Go.Proofs.YtjfehnjkijecpaaDoor
