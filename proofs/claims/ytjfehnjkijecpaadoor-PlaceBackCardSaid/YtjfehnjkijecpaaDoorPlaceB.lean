/-
  The walks of place.Fault, of the document's answer, and of PlaceBack.
-/
import Derived.Test.YtjfehnjkijecpaaDoorPlaceL
import Derived.Test.YtjfehnjkijecpaaDoorTab
namespace Go.Proofs.YtjfehnjkijecpaaDoor
open Go.RowKit
set_option linter.unusedVariables false

/-- What a fault at a place is told as: without a place, the error alone. -/
def faultS (s : ByteArray) (at_ : Int) (e : Nat) : ByteArray :=
  if 0 ≤ at_ ∧ at_ ≤ s.size then decS (PlaceM.cnt s.data.toList at_.toNat + 1) ++ ⟨#[58]⟩ ++ decS ((at_.toNat : Int) - PlaceM.fa s.data.toList at_.toNat).toNat ++ ⟨#[58, 32]⟩ ++ errS e else errS e

set_option maxHeartbeats 400000 in
theorem refText_any (n : Nat) (w : World) (hn : n ≤ 9223372036854775807) :
    Calls Tryd.prog 42 #[.int .i64 n] w fun e w' => e = .returned (.string (errS n)) ∧ Below w.heap.size w w' := by
  have hlen := dec_len n (by omega)
  have hsz : (decS n).size ≤ 20 := by show (Lib.decDigits n).toArray.size ≤ 20; simpa using hlen
  go_enter Tryd.func42, Tryd.ntmps42
  go_wp2_with fail
  refine (baseItoa_any n _ hn).mono ?_
  rintro e w' ⟨rfl, hb⟩
  go_wp2_with fail
  go_ret
  exact ⟨retStr (by unfold errS decS; rw [ByteArray.data_append]; simp), hb⟩

set_option maxHeartbeats 800000 in
theorem placeFault_any (s : ByteArray) (at_ : Int) (n : Nat) (w : World) (hs : s.size ≤ 140737488355328) (hk : -9223372036854775808 ≤ at_ ∧ at_ ≤ 9223372036854775807) (hn : n ≤ 9223372036854775807) (ht : Tab10 w) :
    Calls Tryd.prog 12 #[.string s, .int .i64 at_, .int .i64 n] w fun e w' => e = .returned (.string (faultS s at_ n)) ∧ Below w.heap.size w w' := by
  by_cases hr : 0 ≤ at_ ∧ at_ ≤ s.size
  · obtain ⟨m, rfl⟩ := Int.eq_ofNat_of_zero_le hr.1
    have hm : m ≤ s.size := by omega
    have b1 := PlaceM.cnt_le s.data.toList m
    have b2 := PlaceM.fa_ge s.data.toList m
    have b3 := PlaceM.fa_lt s.data.toList m
    obtain ⟨c, hc⟩ := Int.eq_ofNat_of_zero_le (show 0 ≤ (m : Int) - PlaceM.fa s.data.toList m by omega)
    have hF : faultS s m n = decS (PlaceM.cnt s.data.toList m + 1) ++ ⟨#[58]⟩ ++ decS c ++ ⟨#[58, 32]⟩ ++ errS n := by
      unfold faultS; rw [if_pos hr, Int.toNat_natCast, hc, Int.toNat_natCast]
    have HF := Lib.hid hF; have Hc := Lib.hid hc
    have hof := placeOf_good s m w hs hm
    rw [hc] at hof
    have Hof := Lib.hid hof
    have hcb : c ≤ 140737488355329 := by omega
    have l1 := dec_len (PlaceM.cnt s.data.toList m + 1) (by omega)
    have l2 := dec_len c (by omega)
    have l3 := dec_len n (by omega)
    have z1 : (decS (PlaceM.cnt s.data.toList m + 1)).size ≤ 20 := by show (Lib.decDigits _).toArray.size ≤ 20; simpa using l1
    have z2 : (decS c).size ≤ 20 := by show (Lib.decDigits _).toArray.size ≤ 20; simpa using l2
    have z3 : (errS n).size ≤ 26 := by show (_ : List UInt8).toArray.size ≤ 26; simp; omega
    clear hF hc hof l1 l2 l3 b2 b3
    generalize PlaceM.cnt s.data.toList m = q at *
    go_enter Tryd.func12, Tryd.ntmps12
    go_wp2_with fail
    refine (Hof.out).mono ?_
    rintro e w' ⟨rfl, rfl⟩
    go_wp2_with fail
    have hI := fun W => itoa_any (q + 1) W (by omega)
    simp only [Int.natCast_add, Int.cast_ofNat_Int] at hI
    refine (hI _ ht).mono ?_
    rintro e w1 ⟨rfl, hb1⟩
    have ht1 := ht.below hb1 (Nat.le_refl _)
    have hs1 := hb1.size
    go_wp2_with fail
    refine (itoa_any c _ (by omega) ht1).mono ?_
    rintro e w2 ⟨rfl, hb2⟩
    have hs2 := hb2.size
    go_wp2_with fail
    refine (errText_any n _ hn).mono ?_
    rintro e w3 ⟨rfl, hb3⟩
    go_wp2_with fail
    go_ret
    exact ⟨retStr (by rw [HF.out]), hb1.trans ((hb2.mono hs1).trans (hb3.mono (by omega)))⟩
  · have hF : faultS s at_ n = errS n := by unfold faultS; rw [if_neg hr]
    have HF := Lib.hid hF; clear hF
    go_enter Tryd.func12, Tryd.ntmps12
    go_wp2_with fail
    refine (placeOf_bad s at_ _ hs (by omega) hk).mono ?_
    rintro e w' ⟨rfl, rfl⟩
    go_wp2_with fail
    refine (errText_any n _ hn).mono ?_
    rintro e w3 ⟨rfl, hb3⟩
    go_wp2_with fail
    go_ret
    exact ⟨retStr (by rw [HF.out]), hb3⟩

set_option maxHeartbeats 800000 in
theorem refFault_any (s : ByteArray) (at_ : Int) (n : Nat) (w : World) (hs : s.size ≤ 140737488355328) (hk : -9223372036854775808 ≤ at_ ∧ at_ ≤ 9223372036854775807) (hn : n ≤ 9223372036854775807) :
    Calls Tryd.prog 13 #[.string s, .int .i64 at_, .int .i64 n] w fun e w' => e = .returned (.string (faultS s at_ n)) ∧ Below w.heap.size w w' := by
  by_cases hr : 0 ≤ at_ ∧ at_ ≤ s.size
  · obtain ⟨m, rfl⟩ := Int.eq_ofNat_of_zero_le hr.1
    have hm : m ≤ s.size := by omega
    have b1 := PlaceM.cnt_le s.data.toList m
    have b2 := PlaceM.fa_ge s.data.toList m
    have b3 := PlaceM.fa_lt s.data.toList m
    obtain ⟨c, hc⟩ := Int.eq_ofNat_of_zero_le (show 0 ≤ (m : Int) - PlaceM.fa s.data.toList m by omega)
    have hF : faultS s m n = decS (PlaceM.cnt s.data.toList m + 1) ++ ⟨#[58]⟩ ++ decS c ++ ⟨#[58, 32]⟩ ++ errS n := by
      unfold faultS; rw [if_pos hr, Int.toNat_natCast, hc, Int.toNat_natCast]
    have HF := Lib.hid hF; have Hc := Lib.hid hc
    have hof := refOf_good s m w hs hm
    rw [hc] at hof
    have Hof := Lib.hid hof
    have hcb : c ≤ 140737488355329 := by omega
    have l1 := dec_len (PlaceM.cnt s.data.toList m + 1) (by omega)
    have l2 := dec_len c (by omega)
    have l3 := dec_len n (by omega)
    have z1 : (decS (PlaceM.cnt s.data.toList m + 1)).size ≤ 20 := by show (Lib.decDigits _).toArray.size ≤ 20; simpa using l1
    have z2 : (decS c).size ≤ 20 := by show (Lib.decDigits _).toArray.size ≤ 20; simpa using l2
    have z3 : (errS n).size ≤ 26 := by show (_ : List UInt8).toArray.size ≤ 26; simp; omega
    clear hF hc hof l1 l2 l3 b2 b3
    generalize PlaceM.cnt s.data.toList m = q at *
    go_enter Tryd.func13, Tryd.ntmps13
    go_wp2_with fail
    refine (Hof.out).mono ?_
    rintro e w' ⟨rfl, rfl⟩
    go_wp2_with fail
    have hI := fun W => baseItoa_any (q + 1) W (by omega)
    simp only [Int.natCast_add, Int.cast_ofNat_Int] at hI
    refine (hI _).mono ?_
    rintro e w1 ⟨rfl, hb1⟩
    have hs1 := hb1.size
    go_wp2_with fail
    refine (baseItoa_any c _ (by omega)).mono ?_
    rintro e w2 ⟨rfl, hb2⟩
    have hs2 := hb2.size
    go_wp2_with fail
    refine (refText_any n _ hn).mono ?_
    rintro e w3 ⟨rfl, hb3⟩
    go_wp2_with fail
    go_ret
    exact ⟨retStr (by rw [HF.out]), hb1.trans ((hb2.mono hs1).trans (hb3.mono (by omega)))⟩
  · have hF : faultS s at_ n = errS n := by unfold faultS; rw [if_neg hr]
    have HF := Lib.hid hF; clear hF
    go_enter Tryd.func13, Tryd.ntmps13
    go_wp2_with fail
    refine (refOf_bad s at_ _ hs (by omega) hk).mono ?_
    rintro e w' ⟨rfl, rfl⟩
    go_wp2_with fail
    refine (refText_any n _ hn).mono ?_
    rintro e w3 ⟨rfl, hb3⟩
    go_wp2_with fail
    go_ret
    exact ⟨retStr (by rw [HF.out]), hb3⟩

def AmongPost (w : World) (n : Nat) (e : Ending) (w' : World) : Prop := ∃ k : Nat, k < n ∧ e = .returned (.int .i64 k) ∧ w = w'
theorem wrapU_nonneg (x : Int) : 0 ≤ IntKind.u64.wrap x := by
  simp [IntKind.wrap, IntKind.bits, IntKind.signed] <;> omega
theorem among_val (x : Int) (n : Nat) (hn : 1 ≤ n) (hn2 : n ≤ 140737488355329) : ∃ k : Nat, k < n ∧ wrap64 ((IntKind.u64.wrap x).tmod n) = k := by
  have h0 := wrapU_nonneg x
  generalize IntKind.u64.wrap x = y at *
  rw [Int.tmod_eq_emod_of_nonneg h0]
  have h1 := Int.emod_nonneg y (show (n : Int) ≠ 0 by omega)
  have h2 := Int.emod_lt_of_pos y (show (0 : Int) < n by omega)
  obtain ⟨k, hk⟩ := Int.eq_ofNat_of_zero_le h1
  refine ⟨k, by omega, ?_⟩
  rw [hk]; unfold wrap64; omega
set_option maxHeartbeats 400000 in
theorem among_any (x : Int) (n : Nat) (w : World) (hn : 1 ≤ n) (hn2 : n ≤ 140737488355329) (hx : -9223372036854775808 ≤ x ∧ x ≤ 9223372036854775807) :
    Calls Tryd.prog 14 #[.int .i64 x, .int .i64 n] w (AmongPost w n) := by
  have h1 : ¬ (n : Int) < 1 := by omega
  go_enter Tryd.func14, Tryd.ntmps14
  go_wp2
  obtain ⟨k, hk, hv⟩ := among_val x n hn hn2
  go_ret
  exact ⟨k, hk, ret_int hv, rfl⟩

set_option maxHeartbeats 800000 in
theorem placeBack_walk (a0 : ByteArray) (a1 : Int) (a2 : Nat) (w : World) (w0 : a0.size ≤ maxLen) (hk : -9223372036854775808 ≤ a1 ∧ a1 ≤ 9223372036854775807) (he : a2 ≤ 255) (ht : Tab10 w) :
    Calls Tryd.prog 3 #[.string a0, .int .i64 a1, .int .u8 a2] w fun e w' => e = .returned (.bool true) ∧ Below w.heap.size w w' := by
  go_enter Tryd.func3, Tryd.ntmps3
  go_wp2_with fail
  refine (law01works_any _).mono ?_
  rintro e w' ⟨rfl, rfl⟩
  go_wp2_with fail
  refine (law01short_any _ _ w0).mono ?_
  rintro e w' ⟨t, rfl, hts, rfl⟩
  go_wp2_with fail
  refine (placeFault_any t a1 a2 _ (by omega) hk (by omega) ht).mono ?_
  rintro e w1 ⟨rfl, hb1⟩
  go_wp2_with fail
  refine (refFault_any t a1 a2 _ (by omega) hk (by omega)).mono ?_
  rintro e w2 ⟨rfl, hb2⟩
  go_wp2_with fail
  have hA := fun W => among_any a1 (t.size + 1) W (by omega) (by omega) hk
  simp only [Int.natCast_add, Int.cast_ofNat_Int] at hA
  refine (hA _).mono ?_
  rintro e w3 ⟨k, hkt, rfl, rfl⟩
  have hkt' : k ≤ t.size := by omega
  go_wp2_with fail
  refine (placeOf_good t k _ (by omega) hkt').mono ?_
  rintro e w3 ⟨rfl, rfl⟩
  go_wp2_with fail
  refine (placeAt_yes t _ _ k _ (by omega) hkt' ⟨rfl, rfl⟩).mono ?_
  rintro e w3 ⟨rfl, rfl⟩
  go_wp2_with fail
  go_ret
  exact ⟨rfl, hb1.trans (hb2.mono hb1.size)⟩
theorem placeBack_law {H : Type} (enc : TypeId × Value → H) (W : World) (a0 : ByteArray) (w0 : a0.size ≤ maxLen) (a1 : Int) (w1 : (Lit.int .i64 a1).wf = true) (a2 : Int) (w2 : (Lit.int .u8 a2).wf = true) (hL : laidMetH Tryd.prog Rows.placeBackRow.laid W) :
    Calls Tryd.prog 3 #[.string a0, .int .i64 a1, .int .u8 a2] W fun e w' => e = .returned (.bool true) ∧ Below W.heap.size W w' := by
  have hu : 0 ≤ a2 ∧ a2 ≤ 255 := by simpa [Lit.wf, IntKind.min, IntKind.max, IntKind.signed, IntKind.bits] using w2
  obtain ⟨n, rfl⟩ := Int.eq_ofNat_of_zero_le hu.1
  exact placeBack_walk a0 a1 n W w0 (int64_of_wf w1) (by omega) (tab10_of hL (by rfl))
end Go.Proofs.YtjfehnjkijecpaaDoor
