/-
  The document's reader of a grammar's tokens: its walks.
-/
import Derived.Test.YteijndfacjgfbaaDoorLexR
import Derived.Deep.RegionWith
namespace Go.Proofs.YteijndfacjgfbaaDoor
open Go.RowKit LX
set_option linter.unusedVariables false

set_option maxRecDepth 100000 in
set_option maxHeartbeats 1600000 in
theorem span1_any (s : ByteArray) (a : Nat) (w : World) (hs : s.size ≤ maxLen) (ha : a ≤ s.size) :
    Calls Tryd.prog 71 #[.string s, .int .i64 a, .int .i64 1] w fun e w' => e = .returned (.int .i64 (runEnd isWord s a - a : Nat)) ∧ w = w' := by
  unfold maxLen at hs
  go_enter Tryd.func71, Tryd.ntmps71
  go_wp2
  go_loop [7] (fun v => ∃ n : Nat, v = .int .i64 n ∧ a + n ≤ s.size ∧ Hid (runEnd isWord s (a + n) = runEnd isWord s a)) (fun v => s.size - (a + (intOf v).toNat))
  case atStart => exact ⟨0, rfl, by omega, Lib.hid rfl⟩
  case round =>
    obtain ⟨n, rfl, hk, Hst⟩ := hrel
    by_cases hlt : a + n < s.size
    · have hc := byteAt_get s (a + n) hlt
      have h255 := byte_le s[a + n]
      rcases (show (s[a + n].toNat < 48) ∨ (48 ≤ s[a + n].toNat ∧ s[a + n].toNat ≤ 57) ∨ (58 ≤ s[a + n].toNat ∧ s[a + n].toNat ≤ 94) ∨ (s[a + n].toNat = 95) ∨ (s[a + n].toNat = 96) ∨ (97 ≤ s[a + n].toNat ∧ s[a + n].toNat ≤ 122) ∨ (123 ≤ s[a + n].toNat) from by omega) with h | h | h | h | h | h | h
      · have hp : isWord (byteAt s (a + n)) = false := by rw [hc]; unfold isWord; simp; omega
        have e95 : ((s[a + n].toNat : Int) == 95) = false := by simp; omega
        have g0 : (s[a + n].toNat : Int) < 48 := by omega
        have HE : Hid (runEnd isWord s a - a = n) := by show _ = _; rw [← Hst.out, runEnd_stop isWord s (a + n) hlt hp]; omega
        clear hp hc h
        go_wp2
        all_goals first
          | (go_ret; exact ⟨ret_i (by rw [HE.out]), rfl⟩)
          | (exfalso; rename_i z; simp at z; omega)
      · have hp : isWord (byteAt s (a + n)) = true := by rw [hc]; unfold isWord; simp; omega
        have e95 : ((s[a + n].toNat : Int) == 95) = false := by simp; omega
        have g0 : 48 ≤ (s[a + n].toNat : Int) := by omega
        have g1 : (s[a + n].toNat : Int) ≤ 57 := by omega
        have HN : Hid (runEnd isWord s (a + (n + 1)) = runEnd isWord s a) := by show _ = _; rw [← Hst.out, runEnd_step isWord s (a + n) hlt hp]; rfl
        clear hp hc h
        go_wp2
        all_goals first
          | (exfalso; rename_i z; simp at z; omega)
          | (exact ⟨⟨n + 1, by go_num, by omega, HN⟩, by simp [intOf]; omega⟩)
          | (go_round; case rel => exact ⟨n + 1, by go_num, by omega, HN⟩; case measure => simp [intOf]; omega)
      · have hp : isWord (byteAt s (a + n)) = false := by rw [hc]; unfold isWord; simp; omega
        have e95 : ((s[a + n].toNat : Int) == 95) = false := by simp; omega
        have g0 : 58 ≤ (s[a + n].toNat : Int) := by omega
        have g1 : (s[a + n].toNat : Int) ≤ 94 := by omega
        have HE : Hid (runEnd isWord s a - a = n) := by show _ = _; rw [← Hst.out, runEnd_stop isWord s (a + n) hlt hp]; omega
        clear hp hc h
        go_wp2
        all_goals first
          | (go_ret; exact ⟨ret_i (by rw [HE.out]), rfl⟩)
          | (exfalso; rename_i z; simp at z; omega)
      · have hp : isWord (byteAt s (a + n)) = true := by rw [hc]; unfold isWord; simp; omega
        have e95 : ((s[a + n].toNat : Int) == 95) = true := by simp; omega
        have g0 : (95 : Int) ≤ (s[a + n].toNat : Int) := by omega
        have g1 : (s[a + n].toNat : Int) ≤ 95 := by omega
        have HN : Hid (runEnd isWord s (a + (n + 1)) = runEnd isWord s a) := by show _ = _; rw [← Hst.out, runEnd_step isWord s (a + n) hlt hp]; rfl
        clear hp hc h
        go_wp2
        all_goals first
          | (exfalso; rename_i z; simp at z; omega)
          | (exact ⟨⟨n + 1, by go_num, by omega, HN⟩, by simp [intOf]; omega⟩)
          | (go_round; case rel => exact ⟨n + 1, by go_num, by omega, HN⟩; case measure => simp [intOf]; omega)
      · have hp : isWord (byteAt s (a + n)) = false := by rw [hc]; unfold isWord; simp; omega
        have e95 : ((s[a + n].toNat : Int) == 95) = false := by simp; omega
        have g0 : (96 : Int) ≤ (s[a + n].toNat : Int) := by omega
        have g1 : (s[a + n].toNat : Int) ≤ 96 := by omega
        have HE : Hid (runEnd isWord s a - a = n) := by show _ = _; rw [← Hst.out, runEnd_stop isWord s (a + n) hlt hp]; omega
        clear hp hc h
        go_wp2
        all_goals first
          | (go_ret; exact ⟨ret_i (by rw [HE.out]), rfl⟩)
          | (exfalso; rename_i z; simp at z; omega)
      · have hp : isWord (byteAt s (a + n)) = true := by rw [hc]; unfold isWord; simp; omega
        have e95 : ((s[a + n].toNat : Int) == 95) = false := by simp; omega
        have g0 : 97 ≤ (s[a + n].toNat : Int) := by omega
        have g1 : (s[a + n].toNat : Int) ≤ 122 := by omega
        have HN : Hid (runEnd isWord s (a + (n + 1)) = runEnd isWord s a) := by show _ = _; rw [← Hst.out, runEnd_step isWord s (a + n) hlt hp]; rfl
        clear hp hc h
        go_wp2
        all_goals first
          | (exfalso; rename_i z; simp at z; omega)
          | (exact ⟨⟨n + 1, by go_num, by omega, HN⟩, by simp [intOf]; omega⟩)
          | (go_round; case rel => exact ⟨n + 1, by go_num, by omega, HN⟩; case measure => simp [intOf]; omega)
      · have hp : isWord (byteAt s (a + n)) = false := by rw [hc]; unfold isWord; simp; omega
        have e95 : ((s[a + n].toNat : Int) == 95) = false := by simp; omega
        have g0 : 123 ≤ (s[a + n].toNat : Int) := by omega
        have HE : Hid (runEnd isWord s a - a = n) := by show _ = _; rw [← Hst.out, runEnd_stop isWord s (a + n) hlt hp]; omega
        clear hp hc h
        go_wp2
        all_goals first
          | (go_ret; exact ⟨ret_i (by rw [HE.out]), rfl⟩)
          | (exfalso; rename_i z; simp at z; omega)
    · have HE : Hid (runEnd isWord s a - a = n) := by show _ = _; rw [← Hst.out, runEnd_end isWord s (a + n) (by omega)]; omega
      have hge : (s.size : Int) ≤ (a : Int) + (n : Int) := by omega
      go_wp2
      go_ret
      exact ⟨ret_i (by rw [HE.out]), rfl⟩
set_option maxRecDepth 100000 in
set_option maxHeartbeats 1600000 in
theorem span2_any (s : ByteArray) (a : Nat) (w : World) (hs : s.size ≤ maxLen) (ha : a ≤ s.size) :
    Calls Tryd.prog 71 #[.string s, .int .i64 a, .int .i64 2] w fun e w' => e = .returned (.int .i64 (runEnd isCaps s a - a : Nat)) ∧ w = w' := by
  unfold maxLen at hs
  go_enter Tryd.func71, Tryd.ntmps71
  go_wp2
  go_loop [7] (fun v => ∃ n : Nat, v = .int .i64 n ∧ a + n ≤ s.size ∧ Hid (runEnd isCaps s (a + n) = runEnd isCaps s a)) (fun v => s.size - (a + (intOf v).toNat))
  case atStart => exact ⟨0, rfl, by omega, Lib.hid rfl⟩
  case round =>
    obtain ⟨n, rfl, hk, Hst⟩ := hrel
    by_cases hlt : a + n < s.size
    · have hc := byteAt_get s (a + n) hlt
      have h255 := byte_le s[a + n]
      rcases (show (s[a + n].toNat < 48) ∨ (48 ≤ s[a + n].toNat ∧ s[a + n].toNat ≤ 57) ∨ (58 ≤ s[a + n].toNat ∧ s[a + n].toNat ≤ 64) ∨ (65 ≤ s[a + n].toNat ∧ s[a + n].toNat ≤ 90) ∨ (91 ≤ s[a + n].toNat ∧ s[a + n].toNat ≤ 94) ∨ (s[a + n].toNat = 95) ∨ (96 ≤ s[a + n].toNat) from by omega) with h | h | h | h | h | h | h
      · have hp : isCaps (byteAt s (a + n)) = false := by rw [hc]; unfold isCaps; simp; omega
        have e95 : ((s[a + n].toNat : Int) == 95) = false := by simp; omega
        have g0 : (s[a + n].toNat : Int) < 48 := by omega
        have HE : Hid (runEnd isCaps s a - a = n) := by show _ = _; rw [← Hst.out, runEnd_stop isCaps s (a + n) hlt hp]; omega
        clear hp hc h
        go_wp2
        all_goals first
          | (go_ret; exact ⟨ret_i (by rw [HE.out]), rfl⟩)
          | (exfalso; rename_i z; simp at z; omega)
      · have hp : isCaps (byteAt s (a + n)) = true := by rw [hc]; unfold isCaps; simp; omega
        have e95 : ((s[a + n].toNat : Int) == 95) = false := by simp; omega
        have g0 : 48 ≤ (s[a + n].toNat : Int) := by omega
        have g1 : (s[a + n].toNat : Int) ≤ 57 := by omega
        have HN : Hid (runEnd isCaps s (a + (n + 1)) = runEnd isCaps s a) := by show _ = _; rw [← Hst.out, runEnd_step isCaps s (a + n) hlt hp]; rfl
        clear hp hc h
        go_wp2
        all_goals first
          | (exfalso; rename_i z; simp at z; omega)
          | (exact ⟨⟨n + 1, by go_num, by omega, HN⟩, by simp [intOf]; omega⟩)
          | (go_round; case rel => exact ⟨n + 1, by go_num, by omega, HN⟩; case measure => simp [intOf]; omega)
      · have hp : isCaps (byteAt s (a + n)) = false := by rw [hc]; unfold isCaps; simp; omega
        have e95 : ((s[a + n].toNat : Int) == 95) = false := by simp; omega
        have g0 : 58 ≤ (s[a + n].toNat : Int) := by omega
        have g1 : (s[a + n].toNat : Int) ≤ 64 := by omega
        have HE : Hid (runEnd isCaps s a - a = n) := by show _ = _; rw [← Hst.out, runEnd_stop isCaps s (a + n) hlt hp]; omega
        clear hp hc h
        go_wp2
        all_goals first
          | (go_ret; exact ⟨ret_i (by rw [HE.out]), rfl⟩)
          | (exfalso; rename_i z; simp at z; omega)
      · have hp : isCaps (byteAt s (a + n)) = true := by rw [hc]; unfold isCaps; simp; omega
        have e95 : ((s[a + n].toNat : Int) == 95) = false := by simp; omega
        have g0 : 65 ≤ (s[a + n].toNat : Int) := by omega
        have g1 : (s[a + n].toNat : Int) ≤ 90 := by omega
        have HN : Hid (runEnd isCaps s (a + (n + 1)) = runEnd isCaps s a) := by show _ = _; rw [← Hst.out, runEnd_step isCaps s (a + n) hlt hp]; rfl
        clear hp hc h
        go_wp2
        all_goals first
          | (exfalso; rename_i z; simp at z; omega)
          | (exact ⟨⟨n + 1, by go_num, by omega, HN⟩, by simp [intOf]; omega⟩)
          | (go_round; case rel => exact ⟨n + 1, by go_num, by omega, HN⟩; case measure => simp [intOf]; omega)
      · have hp : isCaps (byteAt s (a + n)) = false := by rw [hc]; unfold isCaps; simp; omega
        have e95 : ((s[a + n].toNat : Int) == 95) = false := by simp; omega
        have g0 : 91 ≤ (s[a + n].toNat : Int) := by omega
        have g1 : (s[a + n].toNat : Int) ≤ 94 := by omega
        have HE : Hid (runEnd isCaps s a - a = n) := by show _ = _; rw [← Hst.out, runEnd_stop isCaps s (a + n) hlt hp]; omega
        clear hp hc h
        go_wp2
        all_goals first
          | (go_ret; exact ⟨ret_i (by rw [HE.out]), rfl⟩)
          | (exfalso; rename_i z; simp at z; omega)
      · have hp : isCaps (byteAt s (a + n)) = true := by rw [hc]; unfold isCaps; simp; omega
        have e95 : ((s[a + n].toNat : Int) == 95) = true := by simp; omega
        have g0 : (95 : Int) ≤ (s[a + n].toNat : Int) := by omega
        have g1 : (s[a + n].toNat : Int) ≤ 95 := by omega
        have HN : Hid (runEnd isCaps s (a + (n + 1)) = runEnd isCaps s a) := by show _ = _; rw [← Hst.out, runEnd_step isCaps s (a + n) hlt hp]; rfl
        clear hp hc h
        go_wp2
        all_goals first
          | (exfalso; rename_i z; simp at z; omega)
          | (exact ⟨⟨n + 1, by go_num, by omega, HN⟩, by simp [intOf]; omega⟩)
          | (go_round; case rel => exact ⟨n + 1, by go_num, by omega, HN⟩; case measure => simp [intOf]; omega)
      · have hp : isCaps (byteAt s (a + n)) = false := by rw [hc]; unfold isCaps; simp; omega
        have e95 : ((s[a + n].toNat : Int) == 95) = false := by simp; omega
        have g0 : 96 ≤ (s[a + n].toNat : Int) := by omega
        have HE : Hid (runEnd isCaps s a - a = n) := by show _ = _; rw [← Hst.out, runEnd_stop isCaps s (a + n) hlt hp]; omega
        clear hp hc h
        go_wp2
        all_goals first
          | (go_ret; exact ⟨ret_i (by rw [HE.out]), rfl⟩)
          | (exfalso; rename_i z; simp at z; omega)
    · have HE : Hid (runEnd isCaps s a - a = n) := by show _ = _; rw [← Hst.out, runEnd_end isCaps s (a + n) (by omega)]; omega
      have hge : (s.size : Int) ≤ (a : Int) + (n : Int) := by omega
      go_wp2
      go_ret
      exact ⟨ret_i (by rw [HE.out]), rfl⟩
set_option maxRecDepth 100000 in
set_option maxHeartbeats 1600000 in
theorem span3_any (s : ByteArray) (a : Nat) (w : World) (hs : s.size ≤ maxLen) (ha : a ≤ s.size) :
    Calls Tryd.prog 71 #[.string s, .int .i64 a, .int .i64 3] w fun e w' => e = .returned (.int .i64 (runEnd isDigit s a - a : Nat)) ∧ w = w' := by
  unfold maxLen at hs
  go_enter Tryd.func71, Tryd.ntmps71
  go_wp2
  go_loop [7] (fun v => ∃ n : Nat, v = .int .i64 n ∧ a + n ≤ s.size ∧ Hid (runEnd isDigit s (a + n) = runEnd isDigit s a)) (fun v => s.size - (a + (intOf v).toNat))
  case atStart => exact ⟨0, rfl, by omega, Lib.hid rfl⟩
  case round =>
    obtain ⟨n, rfl, hk, Hst⟩ := hrel
    by_cases hlt : a + n < s.size
    · have hc := byteAt_get s (a + n) hlt
      have h255 := byte_le s[a + n]
      rcases (show (s[a + n].toNat < 48) ∨ (48 ≤ s[a + n].toNat ∧ s[a + n].toNat ≤ 57) ∨ (58 ≤ s[a + n].toNat) from by omega) with h | h | h
      · have hp : isDigit (byteAt s (a + n)) = false := by rw [hc]; unfold isDigit; simp; omega
        have g0 : (s[a + n].toNat : Int) < 48 := by omega
        have HE : Hid (runEnd isDigit s a - a = n) := by show _ = _; rw [← Hst.out, runEnd_stop isDigit s (a + n) hlt hp]; omega
        clear hp hc h
        go_wp2
        all_goals first
          | (go_ret; exact ⟨ret_i (by rw [HE.out]), rfl⟩)
          | (exfalso; rename_i z; simp at z; omega)
      · have hp : isDigit (byteAt s (a + n)) = true := by rw [hc]; unfold isDigit; simp; omega
        have g0 : 48 ≤ (s[a + n].toNat : Int) := by omega
        have g1 : (s[a + n].toNat : Int) ≤ 57 := by omega
        have HN : Hid (runEnd isDigit s (a + (n + 1)) = runEnd isDigit s a) := by show _ = _; rw [← Hst.out, runEnd_step isDigit s (a + n) hlt hp]; rfl
        clear hp hc h
        go_wp2
        all_goals first
          | (exfalso; rename_i z; simp at z; omega)
          | (exact ⟨⟨n + 1, by go_num, by omega, HN⟩, by simp [intOf]; omega⟩)
          | (go_round; case rel => exact ⟨n + 1, by go_num, by omega, HN⟩; case measure => simp [intOf]; omega)
      · have hp : isDigit (byteAt s (a + n)) = false := by rw [hc]; unfold isDigit; simp; omega
        have g0 : 58 ≤ (s[a + n].toNat : Int) := by omega
        have HE : Hid (runEnd isDigit s a - a = n) := by show _ = _; rw [← Hst.out, runEnd_stop isDigit s (a + n) hlt hp]; omega
        clear hp hc h
        go_wp2
        all_goals first
          | (go_ret; exact ⟨ret_i (by rw [HE.out]), rfl⟩)
          | (exfalso; rename_i z; simp at z; omega)
    · have HE : Hid (runEnd isDigit s a - a = n) := by show _ = _; rw [← Hst.out, runEnd_end isDigit s (a + n) (by omega)]; omega
      have hge : (s.size : Int) ≤ (a : Int) + (n : Int) := by omega
      go_wp2
      go_ret
      exact ⟨ret_i (by rw [HE.out]), rfl⟩
theorem sgn_at : ∀ j (h : j < (⟨#[58, 59, 124, 40, 41, 63, 42, 43, 61, 44]⟩ : ByteArray).size), isSign ((⟨#[58, 59, 124, 40, 41, 63, 42, 43, 61, 44]⟩ : ByteArray)[j].toNat) = true := by decide
theorem sgn_all (c : Nat) (hc : ∀ j (h : j < (⟨#[58, 59, 124, 40, 41, 63, 42, 43, 61, 44]⟩ : ByteArray).size), (⟨#[58, 59, 124, 40, 41, 63, 42, 43, 61, 44]⟩ : ByteArray)[j].toNat ≠ c) : isSign c = false := by
  have h0 := hc 0 (by decide); have h1 := hc 1 (by decide); have h2 := hc 2 (by decide); have h3 := hc 3 (by decide); have h4 := hc 4 (by decide)
  have h5 := hc 5 (by decide); have h6 := hc 6 (by decide); have h7 := hc 7 (by decide); have h8 := hc 8 (by decide); have h9 := hc 9 (by decide)
  have k0 : c ≠ 58 := Ne.symm h0; have k1 : c ≠ 59 := Ne.symm h1; have k2 : c ≠ 124 := Ne.symm h2; have k3 : c ≠ 40 := Ne.symm h3; have k4 : c ≠ 41 := Ne.symm h4
  have k5 : c ≠ 63 := Ne.symm h5; have k6 : c ≠ 42 := Ne.symm h6; have k7 : c ≠ 43 := Ne.symm h7; have k8 : c ≠ 61 := Ne.symm h8; have k9 : c ≠ 44 := Ne.symm h9
  unfold isSign
  simp [k0, k1, k2, k3, k4, k5, k6, k7, k8, k9]
set_option maxRecDepth 100000 in
set_option maxHeartbeats 1600000 in
theorem refSign_any (c : Nat) (w : World) (hc : c ≤ 255) :
    Calls Tryd.prog 74 #[.int .u8 c] w fun e w' => e = .returned (.bool (isSign c)) ∧ w = w' := by
  have hL : (⟨#[58, 59, 124, 40, 41, 63, 42, 43, 61, 44]⟩ : ByteArray).size = 10 := rfl
  go_enter Tryd.func74, Tryd.ntmps74
  go_wp2
  go_loop [4] (fun v => ∃ n : Nat, v = .int .i64 n ∧ n ≤ 10 ∧ Hid (∀ j (h : j < (⟨#[58, 59, 124, 40, 41, 63, 42, 43, 61, 44]⟩ : ByteArray).size), j < n → (⟨#[58, 59, 124, 40, 41, 63, 42, 43, 61, 44]⟩ : ByteArray)[j].toNat ≠ c)) (fun v => 10 - (intOf v).toNat)
  case atStart => exact ⟨0, rfl, by omega, fun j _ hj => by omega⟩
  case round =>
    obtain ⟨n, rfl, hk, Hst⟩ := hrel
    by_cases hlt : n < 10
    · have hn : n < (⟨#[58, 59, 124, 40, 41, 63, 42, 43, 61, 44]⟩ : ByteArray).size := hlt
      rcases Bool.eq_false_or_eq_true ((((⟨#[58, 59, 124, 40, 41, 63, 42, 43, 61, 44]⟩ : ByteArray)[n].toNat : Nat) : Int) == (c : Int)) with e | e
      · have HT : Hid (isSign c = true) := by
          show _ = _
          have h := sgn_at n hn
          have h2 : (⟨#[58, 59, 124, 40, 41, 63, 42, 43, 61, 44]⟩ : ByteArray)[n].toNat = c := by have := eq_of_beq e; omega
          rwa [h2] at h
        go_wp2
        go_ret
        exact ⟨ret_bool HT.out.symm, rfl⟩
      · have HN : Hid (∀ j (h : j < (⟨#[58, 59, 124, 40, 41, 63, 42, 43, 61, 44]⟩ : ByteArray).size), j < n + 1 → (⟨#[58, 59, 124, 40, 41, 63, 42, 43, 61, 44]⟩ : ByteArray)[j].toNat ≠ c) := fun j h hj => by
          rcases (show j < n ∨ j = n from by omega) with h1 | rfl
          · exact Hst.out j h h1
          · intro h2; rw [h2] at e; simp at e
        go_wp2
        go_round
        case rel => exact ⟨n + 1, by go_num, by omega, HN⟩
        case measure => simp [intOf]; omega
    · obtain rfl : n = 10 := by omega
      have HF := Lib.hid (sgn_all c fun j h => Hst.out j h h)
      go_wp2
      go_ret
      exact ⟨ret_bool HF.out.symm, rfl⟩
end Go.Proofs.YteijndfacjgfbaaDoor
