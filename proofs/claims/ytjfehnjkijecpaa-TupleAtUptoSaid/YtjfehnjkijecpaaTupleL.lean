/-
  The walks of gramaryelaw12's helpers, and of TupleTells and TupleWhole.
-/
import Derived.Test.YtjfehnjkijecpaaTupleR
import Derived.Deep.DeepCutAuto
import Derived.Deep.RegionWith
import Derived.Deep.RegionHeld3
namespace Go.Proofs.Ytjfehnjkijecpaa
open Go.RowKit
set_option linter.unusedVariables false

def cut50 (s : ByteArray) : ByteArray := s.extract 0 50
theorem cut50_size (s : ByteArray) : (cut50 s).size ≤ 50 := by unfold cut50; rw [ByteArray.size_extract]; omega

set_option maxHeartbeats 400000 in
theorem law12short_any (s : ByteArray) (w : World) (hs : s.size ≤ maxLen) :
    Calls Try.prog 15 #[.string s] w fun e w' => e = .returned (.string (cut50 s)) ∧ w = w' := by
  unfold maxLen at hs
  by_cases h : s.size ≤ 50
  · go_enter Try.func15, Try.ntmps15
    go_wp2
    go_ret
    exact ⟨ret_str (bext (by unfold cut50; rw [bext0, List.take_of_length_le (by rw [blen]; omega)])), rfl⟩
  · go_enter Try.func15, Try.ntmps15
    go_wp2
    go_ret
    exact ⟨rfl, rfl⟩

set_option maxHeartbeats 400000 in
theorem law12works_any (w : World) : Calls Try.prog 23 #[] w fun e w' => e = .returned (.bool true) ∧ Below w.heap.size w w' := by
  have hr : Row (w.alloc (.cells #[.int .i64 1, .int .i64 2] 3)) (w.heap.size + 1) 1 (.slice (some ⟨w.heap.size, 0, none⟩) 2 2) [1, 2].length (ints [1, 2]) :=
    ⟨rfl, by decide, .inr ⟨_, 2, rfl, Nat.le_refl _, by decide, .inr (Nat.lt_succ_self _), cell_two_new w _ _ _⟩⟩
  have hAt := tupleAt_any _ _ [1, 2] 1 3 _ hr (by simp) (by decide) (by decide)
  have e1 : atB [1, 2] 1 (lookN 3) = ⟨#[2, 0, 0]⟩ := by decide +kernel
  have e2 : mayB ⟨#[2, 0, 0]⟩ 3 = true := by decide +kernel
  rw [e1] at hAt
  have HAt := Lib.hid hAt
  have hMay := fun w => (tupleMay_any ⟨#[2, 0, 0]⟩ 3 w (by decide))
  rw [e2] at hMay
  have HMay := Lib.hid hMay
  clear hAt hMay e1 e2
  go_enter Try.func23, Try.ntmps23
  go_wp2_with fail
  refine (HAt.out).mono ?_
  rintro e w1 ⟨rfl, hb⟩
  go_wp2_with fail
  refine (HMay.out _).mono ?_
  rintro e w2 ⟨rfl, rfl⟩
  go_wp2_with fail
  go_ret
  exact ⟨rfl, ((Below.refl _ w).alloc (Nat.le_refl _) _).trans (hb.mono (by simp))⟩

theorem int64_of_wf {a : Int} (h : (Lit.int .i64 a).wf = true) : -9223372036854775808 ≤ a ∧ a ≤ 9223372036854775807 := by
  simpa [Lit.wf, IntKind.min, IntKind.max, IntKind.signed, IntKind.bits] using h
theorem below_of_drew {w w' : World} (h : Below w.drew.heap.size w.drew w') : Below w.heap.size w w' := ((Below.refl _ _).drew).trans h
theorem ints_take (l : List Int) (k : Nat) : (ints l).take (k * 1) = ints (l.take k) := by simp [ints, List.map_take]

set_option maxHeartbeats 4000000 in
theorem tupleTells_walk (a b : ByteArray) (k : Int) (ao : Option Addr) (n c : Nat) (l : List Int) (w : World) (ha : a.size ≤ maxLen) (hb : b.size ≤ maxLen) (hk : -9223372036854775808 ≤ k ∧ k ≤ 9223372036854775807) (hr : Row w w.heap.size 1 (.slice ao n c) n (ints l)) (hc1 : n ≤ c) (hc2 : c ≤ maxLen) :
    Calls Try.prog 5 #[.string a, .string b, .int .i64 k, .slice ao n c] w fun e w' => e = .returned (.bool true) ∧ Below w.heap.size w w' := by
  have hnl : l.length = n := by have := hr.1; simpa [ints] using this
  have Hnl := Lib.hid hnl; clear hnl
  unfold maxLen at hc2
  have hrt := hr.take (min n 50) (by omega)
  rw [ints_take] at hrt
  have hcI : (n : Int) ≤ c := by omega
  have hcJ : (c : Int) ≤ 9223372036854775807 := by omega
  have ca := cut50_size a
  have cb := cut50_size b
  go_enter Try.func5, Try.ntmps5
  go_upto_region 1 with fail
  go_cut [0, 1, 3] (fun s0 s1 s3 wx => s0 = .string (cut50 a) ∧ s1 = .string (cut50 b) ∧ wx.ownsRow w.heap.size 3 1 s3 (min n 50) (ints (l.take (min n 50))) ∧ Below w.heap.size w wx)
  case first =>
    by_cases h50 : n ≤ 50
    · have hm : min n 50 = n := by omega
      rw [hm] at hrt
      have hi0 : (0 : Int) ≤ (n : Int) := by omega
      have hi1 : (n : Int) ≤ 50 := by omega
      have hi2 : ¬ (50 : Int) < (n : Int) := by omega
      have hi3 : ¬ c < n := by omega
      have hi4 : ¬ (c : Int) < (n : Int) := by omega
      have hi5 : ¬ (n : Int) < 0 := by omega
      have Hm := Lib.hid hm; clear hm
      have hrd := Lib.hid (hrt.below (Below.refl _ w).drew); clear hrt
      go_region_with (first | (go_at_call_of 15 (Value.string a); refine (law12short_any a _ ha).mono ?_; rintro e w' ⟨rfl, rfl⟩) | (go_at_call_of 15 (Value.string b); refine (law12short_any b _ hb).mono ?_; rintro e w' ⟨rfl, rfl⟩) | (go_at_call 16; refine (ints_any (.slice ao n c) n w.heap.size (l.take n) _ ?_ ?_ ?_).mono ?_; exact hrd.out; exact Nat.le_refl _; omega; rintro e w' ⟨v', rfl, hown, hbel⟩; replace hbel := below_of_drew hbel))
      all_goals (go_wp2_with fail; go_meet; case rel => exact ⟨rfl, rfl, by rw [Hm.out]; exact hown, hbel⟩)
    · have hm : min n 50 = 50 := by omega
      rw [hm] at hrt
      have h51 : (50 : Int) < n := by omega
      have hi1 : (50 : Int) ≤ c := by omega
      have Hm := Lib.hid hm; clear hm
      have hrd := Lib.hid (hrt.below (Below.refl _ w).drew); clear hrt
      go_region_held3 (fun w' => Below w.heap.size w w') (first | exact Below.refl _ _ | exact (Below.refl _ _).drew | assumption) (first | (go_at_call_of 15 (Value.string a); refine (law12short_any a _ ha).mono ?_; rintro e w' ⟨rfl, rfl⟩) | (go_at_call_of 15 (Value.string b); refine (law12short_any b _ hb).mono ?_; rintro e w' ⟨rfl, rfl⟩) | (go_at_call 16; refine (ints_any (.slice ao 50 c) 50 w.heap.size (l.take 50) _ ?_ ?_ ?_).mono ?_; exact hrd.out; exact Nat.le_refl _; omega; rintro e w' ⟨v', rfl, hown, hbel⟩; replace hbel := below_of_drew hbel))
      all_goals (go_wp2_with fail; go_meet; case rel => exact ⟨rfl, rfl, by rw [Hm.out]; exact hown, hbel⟩)
  case rest =>
    obtain ⟨rfl, rfl, hown, hbel⟩ := hcut
    have hsz := hbel.size
    have hml : min n 50 ≤ 50 := by omega
    have hlt : (l.take (min n 50)).length = min n 50 := by rw [List.length_take, Hnl.out]; omega
    generalize l.take (min n 50) = l' at *
    generalize min n 50 = m at *
    subst hlt
    have hr1 := Lib.hid (Row.of_owns hown)
    clear hown hr hrt
    go_wp2_with fail
    refine (tupleMay_any (cut50 a) k _ (by unfold maxLen; omega)).mono ?_
    rintro e w1 ⟨rfl, rfl⟩
    go_wp2_with fail
    refine (refMay_any (cut50 a) k _ (by unfold maxLen; omega)).mono ?_
    rintro e w1 ⟨rfl, rfl⟩
    go_wp2_with fail
    refine (tupleCat_any (cut50 a) (cut50 b) k _ (by omega) (by omega) hk).mono ?_
    rintro e w1 ⟨rfl, rfl⟩
    go_wp2_with fail
    refine (refCat_any (cut50 a) (cut50 b) k _ (by omega) (by omega) hk).mono ?_
    rintro e w1 ⟨rfl, rfl⟩
    go_wp2_with fail
    refine (ints_any _ _ _ l' _ hr1.out (Nat.le_refl _) (by omega)).mono ?_
    rintro e w2 ⟨v2, rfl, hown2, hb2⟩
    have hr2 := Lib.hid (Row.of_owns hown2)
    have hr1' := Lib.hid (hr1.out.below hb2)
    have hz2 := hb2.size
    clear hown2
    go_wp2_with fail
    refine (tupleOf_any _ _ l' _ hr2.out (Nat.le_refl _) (by omega)).mono ?_
    rintro e w3 ⟨rfl, hb3⟩
    have hr1'' := Lib.hid (hr1'.out.below (hb3.mono hz2))
    have hz3 := hb3.size
    go_wp2_with fail
    refine (refOf12_any _ _ l' _ hr1''.out (by omega) (by omega)).mono ?_
    rintro e w4 ⟨rfl, hb4⟩
    have hz4 := hb4.size
    go_wp2_with fail
    refine (law12works_any _).mono ?_
    rintro e w5 ⟨rfl, hb5⟩
    go_wp2_with fail
    go_ret
    exact ⟨rfl, hbel.trans ((hb2.mono hsz).trans ((hb3.mono (by omega)).trans ((hb4.mono (by omega)).trans (hb5.mono (by omega)))))⟩

/-- The walk, as the frame hands it its arguments. -/
theorem tupleTells_law {H : Type} {base : Nat} (enc : TypeId × Value → H) (W : World) (a0 : ByteArray) (w0 : a0.size ≤ maxLen) (a1 : ByteArray) (w1 : a1.size ≤ maxLen) (a2 : Int) (w2 : (Lit.int .i64 a2).wf = true)
    (v3 : Value) (d3 : DataW H) (p3 : List MemPlace) (k3 : Value.okWide Try.prog W .any base 32 v3) (h3 : DataW.Trod enc Try.prog W 0 (fun _ => true) true 32 v3 d3 p3) :
    Calls Try.prog 5 #[.string a0, .string a1, .int .i64 a2, v3] W fun e w' => e = .returned (.bool true) ∧ Below W.heap.size W w' := by
  obtain ⟨l, hr, _⟩ := Row.of_ints Try.underlying32 Try.underlying3 (by kernel_rfl) (Go.WideShapes.okWide_slice Try.underlying32 k3) h3
  obtain ⟨ao, c, rfl, h1, h2⟩ := hr.val
  exact tupleTells_walk a0 a1 a2 ao l.length c l W w0 w1 (int64_of_wf w2) hr h1 h2
end Go.Proofs.Ytjfehnjkijecpaa
