/-
  The walks of gramaryelaw01's helpers.
-/
import Derived.Test.YtjfehnjkijecpaaPlaceA
namespace Go.Proofs.Ytjfehnjkijecpaa
open Go.RowKit

def PlaceShort (w : World) (e : Ending) (w' : World) : Prop := ∃ t : ByteArray, e = .returned (.string t) ∧ t.size ≤ 300 ∧ w = w'

set_option maxHeartbeats 400000 in
theorem law01short_any (s : ByteArray) (w : World) (hs : s.size ≤ maxLen) :
    Calls Try.prog 8 #[.string s] w (PlaceShort w) := by
  unfold maxLen at hs
  by_cases h : s.size ≤ 300
  · go_enter Try.func8, Try.ntmps8
    go_wp2
    go_ret
    refine ⟨_, rfl, ?_, rfl⟩
    first | assumption | (rw [ByteArray.size_extract]; omega)
  · go_enter Try.func8, Try.ntmps8
    go_wp2
    go_ret
    refine ⟨_, rfl, ?_, rfl⟩
    first | assumption | (rw [ByteArray.size_extract]; omega)

theorem placeOf_ex (w : World) :
    Calls Try.prog 9 #[.string { data := #[97, 10, 98, 99] }, .int .i64 3] w fun e w' => e = .returned (.tuple #[.int .i64 2, .int .i64 2, .int .i64 0]) ∧ w' = w :=
  placeOf_good ⟨#[97, 10, 98, 99]⟩ 3 w (by decide) (by decide)
theorem placeLines_ex (w : World) :
    Calls Try.prog 11 #[.string { data := #[97, 10, 98, 99] }] w fun e w' => e = .returned (.int .i64 2) ∧ w' = w :=
  placeLines_any ⟨#[97, 10, 98, 99]⟩ w (by decide)

set_option maxHeartbeats 400000 in
theorem law01works_any (w : World) : Calls Try.prog 12 #[] w fun e w' => e = .returned (.bool true) ∧ w' = w := by
  go_enter Try.func12, Try.ntmps12
  go_wp2_with fail
  refine (placeOf_ex _).mono ?_
  rintro e w' ⟨rfl, rfl⟩
  go_wp2_with fail
  refine (placeLines_ex _).mono ?_
  rintro e w' ⟨rfl, rfl⟩
  go_wp2_with fail
  go_ret
  exact ⟨rfl, rfl⟩

theorem int64_of_wf {a : Int} (h : (Lit.int .i64 a).wf = true) : -9223372036854775808 ≤ a ∧ a ≤ 9223372036854775807 := by
  simpa [Lit.wf, IntKind.min, IntKind.max, IntKind.signed, IntKind.bits] using h

set_option maxHeartbeats 400000 in
theorem placeOf_law (a0 : ByteArray) (a1 : Int) (w0 : a0.size ≤ maxLen) (w1 : (Lit.int .i64 a1).wf = true) (w : World) :
    Calls Try.prog 3 #[.string a0, .int .i64 a1] w fun e w' => e = .returned (.bool true) ∧ w' = w := by
  have hb := int64_of_wf w1
  go_enter Try.func3, Try.ntmps3
  go_wp2_with fail
  refine (law01short_any _ _ w0).mono ?_
  rintro e w' ⟨t, rfl, ht, rfl⟩
  by_cases hn : 0 ≤ a1 ∧ a1 ≤ t.size
  · obtain ⟨n, rfl⟩ := Int.eq_ofNat_of_zero_le hn.1
    have hn' : n ≤ t.size := by omega
    go_wp2_with fail
    refine (placeOf_good t n _ (by omega) hn').mono ?_
    rintro e w' ⟨rfl, rfl⟩
    go_wp2_with fail
    refine (refOf_good t n _ (by omega) hn').mono ?_
    rintro e w' ⟨rfl, rfl⟩
    go_wp2_with fail
    refine (refOf_good t t.size _ (by omega) (by omega)).mono ?_
    rintro e w' ⟨rfl, rfl⟩
    go_wp2_with fail
    refine (placeLines_any t _ (by omega)).mono ?_
    rintro e w' ⟨rfl, rfl⟩
    go_wp2_with fail
    refine (law01works_any _).mono ?_
    rintro e w' ⟨rfl, rfl⟩
    go_wp2_with fail
    go_ret
    exact ⟨rfl, rfl⟩
  · have hn' : a1 < 0 ∨ (t.size : Int) < a1 := by omega
    go_wp2_with fail
    refine (placeOf_bad t a1 _ (by omega) hn' hb).mono ?_
    rintro e w' ⟨rfl, rfl⟩
    go_wp2_with fail
    refine (refOf_bad t a1 _ (by omega) hn' hb).mono ?_
    rintro e w' ⟨rfl, rfl⟩
    go_wp2_with fail
    refine (refOf_good t t.size _ (by omega) (by omega)).mono ?_
    rintro e w' ⟨rfl, rfl⟩
    go_wp2_with fail
    refine (placeLines_any t _ (by omega)).mono ?_
    rintro e w' ⟨rfl, rfl⟩
    go_wp2_with fail
    refine (law01works_any _).mono ?_
    rintro e w' ⟨rfl, rfl⟩
    go_wp2_with fail
    go_ret
    exact ⟨rfl, rfl⟩

set_option maxHeartbeats 400000 in
theorem placeAt_law (a0 : ByteArray) (a1 : Int) (a2 : Int) (w0 : a0.size ≤ maxLen) (w1 : (Lit.int .i64 a1).wf = true) (w2 : (Lit.int .i64 a2).wf = true) (w : World) :
    Calls Try.prog 4 #[.string a0, .int .i64 a1, .int .i64 a2] w fun e w' => e = .returned (.bool true) ∧ w' = w := by
  have hb1 := int64_of_wf w1
  have hb2 := int64_of_wf w2
  go_enter Try.func4, Try.ntmps4
  go_wp2_with fail
  refine (law01short_any _ _ w0).mono ?_
  rintro e w' ⟨t, rfl, ht, rfl⟩
  by_cases hn : ∃ n, n ≤ t.size ∧ PlaceAt t.data.toList a1 a2 n
  · obtain ⟨n, hn', hp⟩ := hn
    have Hp := Lib.hid hp; clear hp
    go_wp2_with fail
    refine (placeAt_yes t a1 a2 n _ (by omega) hn' Hp.out).mono ?_
    rintro e w' ⟨rfl, rfl⟩
    go_wp2_with fail
    refine (refAt_yes t a1 a2 n _ (by omega) hn' Hp.out).mono ?_
    rintro e w' ⟨rfl, rfl⟩
    go_wp2_with fail
    refine (law01works_any _).mono ?_
    rintro e w' ⟨rfl, rfl⟩
    go_wp2_with fail
    go_ret
    exact ⟨rfl, rfl⟩
  · have Hp : Hid (∀ n, n ≤ t.size → ¬ PlaceAt t.data.toList a1 a2 n) := fun n h1 h2 => hn ⟨n, h1, h2⟩
    clear hn
    go_wp2_with fail
    refine (placeAt_no t a1 a2 _ (by omega) hb1.2 hb2.2 Hp.out).mono ?_
    rintro e w' ⟨rfl, rfl⟩
    go_wp2_with fail
    refine (refAt_no t a1 a2 _ (by omega) Hp.out).mono ?_
    rintro e w' ⟨rfl, rfl⟩
    go_wp2_with fail
    refine (law01works_any _).mono ?_
    rintro e w' ⟨rfl, rfl⟩
    go_wp2_with fail
    go_ret
    exact ⟨rfl, rfl⟩
end Go.Proofs.Ytjfehnjkijecpaa
