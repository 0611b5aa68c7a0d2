/-
  The walks of place.Of, place.Lines, place.At, and of the document's answers.
-/
import Derived.Test.YtjfehnjkijecpaaDoorPlaceW
namespace Go.Proofs.YtjfehnjkijecpaaDoor
open Go.RowKit

set_option maxHeartbeats 400000 in
theorem placeOf_bad (s : ByteArray) (n : Int) (w : World) (hs : s.size ≤ 140737488355328) (hn : n < 0 ∨ (s.size : Int) < n) (hk : -9223372036854775808 ≤ n ∧ n ≤ 9223372036854775807) :
    Calls Tryd.prog 15 #[.string s, .int .i64 n] w fun e w' => e = .returned (.tuple #[.int .i64 0, .int .i64 0, .int .i64 2]) ∧ w' = w := by
  have hs' : s.size ≤ maxLen := by unfold maxLen; omega
  rcases hn with hn | hn
  · go_enter Tryd.func15, Tryd.ntmps15
    go_wp2
    go_ret3
    exact ⟨rfl, rfl⟩
  · have h0 : ¬ n < 0 := by omega
    go_enter Tryd.func15, Tryd.ntmps15
    go_wp2
    go_ret3
    exact ⟨rfl, rfl⟩

set_option maxHeartbeats 400000 in
theorem placeOf_good (s : ByteArray) (n : Nat) (w : World) (hs : s.size ≤ 140737488355328) (hn : n ≤ s.size) :
    Calls Tryd.prog 15 #[.string s, .int .i64 n] w fun e w' => e = .returned (.tuple #[.int .i64 (PlaceM.cnt s.data.toList n + 1), .int .i64 (n - PlaceM.fa s.data.toList n), .int .i64 0]) ∧ w' = w := by
  have hs' : s.size ≤ maxLen := by unfold maxLen; omega
  have hfg := PlaceM.fa_ge s.data.toList n
  have hfl := PlaceM.fa_lt s.data.toList n
  go_enter Tryd.func15, Tryd.ntmps15
  go_wp2_with fail
  refine (feedAhead_any s n _ hs' hn).mono ?_
  rintro e w' ⟨rfl, rfl⟩
  have hc := PlaceM.cnt_le s.data.toList n
  have Hst : Hid (0 + PlaceM.cnt s.data.toList (PlaceM.fa s.data.toList n + 1).toNat = PlaceM.cnt s.data.toList n) := by
    rw [Nat.zero_add]; exact PlaceM.cnt_last _ _
  have Hft : Hid (∀ m : Nat, PlaceM.fa s.data.toList n = m → s.data.toList[m]? = some 10) := fun m h => PlaceM.fa_feed _ n m h
  generalize hx : PlaceM.fa s.data.toList n = x at *
  have Hx := Lib.hid hx; clear hx
  go_wp2_with fail
  go_loop [8, 9] (fun c f => ∃ (k : Nat) (g : Int), -1 ≤ g ∧ g < s.size ∧ (∀ m : Nat, g = m → s.data.toList[m]? = some 10) ∧ c = .int .i64 (k + 1) ∧ f = .int .i64 g ∧ k + PlaceM.cnt s.data.toList (g + 1).toNat = PlaceM.cnt s.data.toList n) (fun _ f => (intOf f + 1).toNat)
  case atStart => exact ⟨0, x, by omega, by omega, Hft.out, rfl, rfl, Hst.out⟩
  case round =>
    obtain ⟨k, g, hg1, hg2, hgf, rfl, rfl, hk⟩ := hrel
    have hkb : k ≤ n := by omega
    have Hk := Lib.hid hk; clear hk
    have Hgf := Lib.hid hgf; clear hgf
    by_cases hg : g = -1
    · subst hg
      go_wp2_with fail
      go_ret3
      refine ⟨ret_tup3 ?_ ?_ ?_, rfl⟩
      · have := Hk.out
        simp [PlaceM.cnt] at this; rw [this]
      · rw [Hx.out]
      · rfl
    · obtain ⟨m, rfl⟩ := Int.eq_ofNat_of_zero_le (show 0 ≤ g by omega)
      have hmg := PlaceM.fa_ge s.data.toList m
      have hml := PlaceM.fa_lt s.data.toList m
      have Hb := Lib.hid (PlaceM.cnt_back s.data.toList k m _ (Hgf.out m rfl) Hk.out)
      have Hbf := Lib.hid (fun (j : Nat) (hj : PlaceM.fa s.data.toList m = (j : Int)) => PlaceM.fa_feed s.data.toList m j hj)
      go_wp2_with fail
      refine (feedAhead_any s m _ hs' (by omega)).mono ?_
      rintro e w' ⟨rfl, rfl⟩
      go_wp2_with fail
      go_round
      case rel => exact ⟨k + 1, _, hmg, by omega, Hbf.out, by go_num, rfl, Hb.out⟩
      case measure => simp [intOf]; omega

set_option maxHeartbeats 400000 in
theorem placeLines_any (s : ByteArray) (w : World) (hs : s.size ≤ 140737488355328) :
    Calls Tryd.prog 38 #[.string s] w fun e w' => e = .returned (.int .i64 (PlaceM.cnt s.data.toList s.size + 1)) ∧ w' = w := by
  have hs' : s.size ≤ maxLen := by unfold maxLen; omega
  have hfg := PlaceM.fa_ge s.data.toList s.size
  have hfl := PlaceM.fa_lt s.data.toList s.size
  go_enter Tryd.func38, Tryd.ntmps38
  go_wp2_with fail
  refine (feedAhead_any s s.size _ hs' (by omega)).mono ?_
  rintro e w' ⟨rfl, rfl⟩
  have hc := PlaceM.cnt_le s.data.toList s.size
  have Hst : Hid (0 + PlaceM.cnt s.data.toList (PlaceM.fa s.data.toList s.size + 1).toNat = PlaceM.cnt s.data.toList s.size) := by
    rw [Nat.zero_add]; exact PlaceM.cnt_last _ _
  have Hft : Hid (∀ m : Nat, PlaceM.fa s.data.toList s.size = m → s.data.toList[m]? = some 10) := fun m h => PlaceM.fa_feed _ s.size m h
  generalize hx : PlaceM.fa s.data.toList s.size = x at *
  have Hx := Lib.hid hx; clear hx
  go_wp2_with fail
  go_loop [3, 4] (fun c f => ∃ (k : Nat) (g : Int), -1 ≤ g ∧ g < s.size ∧ (∀ m : Nat, g = m → s.data.toList[m]? = some 10) ∧ c = .int .i64 (k + 1) ∧ f = .int .i64 g ∧ k + PlaceM.cnt s.data.toList (g + 1).toNat = PlaceM.cnt s.data.toList s.size) (fun _ f => (intOf f + 1).toNat)
  case atStart => exact ⟨0, x, by omega, by omega, Hft.out, rfl, rfl, Hst.out⟩
  case round =>
    obtain ⟨k, g, hg1, hg2, hgf, rfl, rfl, hk⟩ := hrel
    have hkb : k ≤ s.size := by omega
    have Hk := Lib.hid hk; clear hk
    have Hgf := Lib.hid hgf; clear hgf
    by_cases hg : g = -1
    · subst hg
      go_wp2_with fail
      go_ret
      refine ⟨ret_int ?_, rfl⟩
      have := Hk.out
      simp [PlaceM.cnt] at this; rw [this]
    · obtain ⟨m, rfl⟩ := Int.eq_ofNat_of_zero_le (show 0 ≤ g by omega)
      have hmg := PlaceM.fa_ge s.data.toList m
      have hml := PlaceM.fa_lt s.data.toList m
      have Hb := Lib.hid (PlaceM.cnt_back s.data.toList k m _ (Hgf.out m rfl) Hk.out)
      have Hbf := Lib.hid (fun (j : Nat) (hj : PlaceM.fa s.data.toList m = (j : Int)) => PlaceM.fa_feed s.data.toList m j hj)
      go_wp2_with fail
      refine (feedAhead_any s m _ hs' (by omega)).mono ?_
      rintro e w' ⟨rfl, rfl⟩
      go_wp2_with fail
      go_round
      case rel => exact ⟨k + 1, _, hmg, by omega, Hbf.out, by go_num, rfl, Hb.out⟩
      case measure => simp [intOf]; omega

set_option maxHeartbeats 400000 in
theorem refOf_bad (s : ByteArray) (n : Int) (w : World) (hs : s.size ≤ 140737488355328) (hn : n < 0 ∨ (s.size : Int) < n) (hk : -9223372036854775808 ≤ n ∧ n ≤ 9223372036854775807) :
    Calls Tryd.prog 41 #[.string s, .int .i64 n] w fun e w' => e = .returned (.tuple #[.int .i64 0, .int .i64 0, .int .i64 2]) ∧ w' = w := by
  have hs' : s.size ≤ maxLen := by unfold maxLen; omega
  rcases hn with hn | hn
  · go_enter Tryd.func41, Tryd.ntmps41
    go_wp2
    go_ret3
    exact ⟨rfl, rfl⟩
  · have h0 : ¬ n < 0 := by omega
    go_enter Tryd.func41, Tryd.ntmps41
    go_wp2
    go_ret3
    exact ⟨rfl, rfl⟩

set_option maxHeartbeats 400000 in
theorem refOf_good (s : ByteArray) (n : Nat) (w : World) (hs : s.size ≤ 140737488355328) (hn : n ≤ s.size) :
    Calls Tryd.prog 41 #[.string s, .int .i64 n] w fun e w' => e = .returned (.tuple #[.int .i64 (PlaceM.cnt s.data.toList n + 1), .int .i64 (n - PlaceM.fa s.data.toList n), .int .i64 0]) ∧ w' = w := by
  have hs' : s.size ≤ maxLen := by unfold maxLen; omega
  have g0 : decide ((n : Int) < 0) = false := by simp
  have g1 : decide (s.size < n) = false := by simpa using hn
  go_enter Tryd.func41, Tryd.ntmps41
  go_wp2
  go_loop [7, 8, 9] (fun c d i => ∃ k : Nat, k ≤ n ∧ i = .int .i64 k ∧ c = .int .i64 (PlaceM.cnt s.data.toList k + 1) ∧ d = .int .i64 (k - PlaceM.fa s.data.toList k)) (fun _ _ i => n - (intOf i).toNat)
  case atStart => exact ⟨0, by omega, rfl, rfl, rfl⟩
  case round =>
    obtain ⟨k, hk, rfl, rfl, rfl⟩ := hrel
    have b1 := PlaceM.cnt_le s.data.toList k
    have b2 := PlaceM.fa_ge s.data.toList k
    have b3 := PlaceM.fa_lt s.data.toList k
    by_cases hlt : k < n
    · by_cases hf : s.data.toList[k]? = some 10
      · have ht := placeTestE s k (by omega) hf
        have H1 := Lib.hid (PlaceM.fa_hit _ _ hf)
        have H2 := Lib.hid (PlaceM.cnt_hit _ _ hf); clear hf
        go_wp2
        go_round
        case rel => exact ⟨k + 1, by omega, by go_num, by rw [H2.out]; go_num, by rw [H1.out]; go_num⟩
        case measure => simp [intOf]; omega
      · have ht := placeTestE' s k (by omega) hf
        have H1 := Lib.hid (PlaceM.fa_step _ _ hf)
        have H2 := Lib.hid (PlaceM.cnt_step _ _ hf); clear hf
        go_wp2
        go_round
        case rel => exact ⟨k + 1, by omega, by go_num, by rw [H2.out], by rw [H1.out]; go_num⟩
        case measure => simp [intOf]; omega
    · obtain rfl : k = n := by omega
      go_wp2
      go_ret3
      exact ⟨rfl, rfl⟩
end Go.Proofs.YtjfehnjkijecpaaDoor
