/-
  The walks of package digit and of the document's answers.
-/
import Derived.Test.YtapmjkgndojdfaaDoorDigitM
import Derived.Test.YtapmjkgndojdfaaDoorTab
namespace Go.Proofs.YtapmjkgndojdfaaDoor
open Go.RowKit
set_option linter.unusedVariables false

theorem decS_size (n : Nat) (h : n < 18446744073709551616) : (decS n).size ≤ 20 := by
  show (Lib.decDigits n).toArray.size ≤ 20; simpa using dec_len n h

theorem clamp_min (n : Int) : min (max n 0) 2147483647 = ((clamp n : Nat) : Int) := by
  unfold clamp; split <;> (try split) <;> omega
set_option maxHeartbeats 400000 in
theorem digitPrint_any (n : Int) (w : World) (hn : -9223372036854775808 ≤ n ∧ n ≤ 9223372036854775807) (ht : Tab10 w) :
    Calls Tryd.prog 15 #[.int .i64 n] w fun e w' => e = .returned (.string (decS (clamp n))) ∧ Below w.heap.size w w' := by
  have hc := clamp_le n
  have hI := Lib.hid (itoa_any (clamp n) w (by omega) ht)
  have He := Lib.hid (clamp_min n)
  go_enter Tryd.func15, Tryd.ntmps15
  go_wp2_with fail
  rw [He.out]
  refine hI.out.mono ?_
  rintro e w1 ⟨rfl, hb⟩
  go_wp2_with fail
  go_ret
  exact ⟨rfl, hb⟩
set_option maxHeartbeats 400000 in
theorem refPrint_any (n : Int) (w : World) (hn : -9223372036854775808 ≤ n ∧ n ≤ 9223372036854775807) :
    Calls Tryd.prog 16 #[.int .i64 n] w fun e w' => e = .returned (.string (decS (clamp n))) ∧ Below w.heap.size w w' := by
  have hc := clamp_le n
  have hI := Lib.hid (baseItoa_any (clamp n) w (by omega))
  have He := Lib.hid (clamp_min n)
  go_enter Tryd.func16, Tryd.ntmps16
  go_wp2_with fail
  rw [He.out]
  refine hI.out.mono ?_
  rintro e w1 ⟨rfl, hb⟩
  go_wp2_with fail
  go_ret
  exact ⟨rfl, hb⟩

/-- The text that is read as n. -/
def IsNum (s : ByteArray) (n : Nat) : Prop := s = decS n ∧ n ≤ 2147483647

theorem bgetL (s : ByteArray) (k : Nat) (h : k < s.size) : s.data.toList[k]? = some s[k] := by
  have h' : k < s.data.size := h
  rw [List.getElem?_eq_getElem (by simpa using h')]; rfl
theorem take_snocB (s : ByteArray) (k : Nat) (h : k < s.size) : s.data.toList.take (k + 1) = s.data.toList.take k ++ [s[k]] := by
  have h' : k < s.data.size := h
  rw [List.take_succ_eq_append_getElem (by simpa using h')]; rfl
theorem val_take (s : ByteArray) (k : Nat) (h : k < s.size) : val (s.data.toList.take (k + 1)) = val (s.data.toList.take k) * 10 + (s[k].toNat - 48) := by
  rw [take_snocB s k h, val_snoc]
theorem take_allB (s : ByteArray) : s.data.toList.take s.size = s.data.toList := by
  rw [List.take_of_length_le]; exact Nat.le_of_eq (by rw [Array.length_toList]; rfl)

set_option maxHeartbeats 800000 in
theorem digitParse_yes (n : Nat) (w : World) (hn : n ≤ 2147483647) (ht : Tab10 w) :
    Calls Tryd.prog 21 #[.string (decS n)] w fun e w' => e = .returned (.tuple #[.int .i64 n, .int .i64 0]) ∧ Below w.heap.size w w' := by
  obtain ⟨s, hs⟩ : ∃ s, s = decS n := ⟨_, rfl⟩
  have hsl : s.data.toList = Lib.decDigits n := by rw [hs]; rfl
  have hsz := decS_size n (by omega)
  rw [← hs] at hsz
  have Hall := Lib.hid (fun k (h : k < s.size) => show IsDig s[k] from dec_all n _ (by rw [← hsl]; exact List.mem_of_getElem? (bgetL s k h)))
  have Hval := Lib.hid (fun k => show val (s.data.toList.take k) ≤ n from by
    have h1 := val_le (s.data.toList.take k) (s.data.toList.drop k)
    rw [List.take_append_drop, hsl, val_dec] at h1; rw [hsl]; exact h1)
  have Hend := Lib.hid (show val (s.data.toList.take s.size) = n from by rw [take_allB, hsl, val_dec])
  have Hs := Lib.hid hs
  rw [← hs]
  clear hs hsl
  go_enter Tryd.func21, Tryd.ntmps21
  go_wp2
  go_loop [4, 8] (fun v i => ∃ k : Nat, k ≤ s.size ∧ i = .int .i64 k ∧ v = .int .i64 (val (s.data.toList.take k))) (fun _ i => s.size - (intOf i).toNat)
  case atStart => exact ⟨0, by omega, rfl, rfl⟩
  case round =>
    obtain ⟨k, hk, rfl, rfl⟩ := hrel
    have hv := Hval.out k
    by_cases hlt : k < s.size
    · have hd := Hall.out k hlt
      unfold IsDig at hd
      obtain ⟨hd1, hd2⟩ := hd
      have hv2 := Hval.out (k + 1)
      have Hst := Lib.hid (val_take s k hlt)
      rw [Hst.out] at hv2
      have hd3 : (48 : Int) ≤ (s[k].toNat : Int) := by omega
      have hd4 : (s[k].toNat : Int) ≤ 57 := by omega
      generalize val (s.data.toList.take k) = q at *
      have hv3 : (q : Int) * 10 + ((s[k].toNat : Int) - 48) ≤ 2147483647 := by omega
      clear hd1 hd2
      go_wp2
      go_round
      case rel => exact ⟨k + 1, by omega, by go_num, by rw [Hst.out]; go_num⟩
      case measure => simp [intOf]; omega
    · obtain rfl : k = s.size := by omega
      have hP := fun W => digitPrint_any n W (by omega)
      rw [clamp_nat n hn] at hP
      rw [← Hs.out] at hP
      have HP := Lib.hid hP
      clear hP hv
      rw [Hend.out]
      go_wp2_with fail
      refine (HP.out _ ht).mono ?_
      rintro e w1 ⟨rfl, hb⟩
      go_wp2_with fail
      go_ret2
      exact ⟨rfl, hb⟩
end Go.Proofs.YtapmjkgndojdfaaDoor
