/-
  The document's reader of a program's tokens: its walks.
-/
import Derived.Test.YtapmjkgndojdfaaDoorTokV
import Derived.Deep.RegionWith
import Derived.Deep.QuietTactic
import Derived.BigQuiet
namespace Go.Proofs.YtapmjkgndojdfaaDoor
open Go.RowKit LX
set_option linter.unusedVariables false
set_option linter.unusedSimpArgs false

set_option maxRecDepth 100000 in
set_option maxHeartbeats 1600000 in
theorem refLetter28_any (c : Nat) (w : World) (hc : c ≤ 255) :
    Calls Tryd.prog 23 #[.int .u8 c] w fun e w' => e = .returned (.bool (isLetter c)) ∧ w = w' := by
  rcases (show (c < 65) ∨ (65 ≤ c ∧ c ≤ 90) ∨ (91 ≤ c ∧ c ≤ 94) ∨ (c = 95) ∨ (c = 96) ∨ (97 ≤ c ∧ c ≤ 122) ∨ (123 ≤ c) from by omega) with h | h | h | h | h | h | h
  · have HP : Hid (isLetter c = false) := by show _ = _; unfold isLetter; simp; omega
    have e95 : ((c : Int) == 95) = false := by simp; omega
    have g0 : (c : Int) < 65 := by omega
    clear h
    go_enter Tryd.func23, Tryd.ntmps23
    go_wp2
    all_goals first
      | (go_ret; exact ⟨ret_bool HP.out.symm, rfl⟩)
      | (go_ret; exact ⟨ret_bool (by rw [HP.out]; simp; omega), rfl⟩)
      | (exfalso; omega)
      | (exfalso; rename_i z; simp at z; omega)
  · have HP : Hid (isLetter c = true) := by show _ = _; unfold isLetter; simp; omega
    have e95 : ((c : Int) == 95) = false := by simp; omega
    have g0 : 65 ≤ (c : Int) := by omega
    have g1 : (c : Int) ≤ 90 := by omega
    clear h
    go_enter Tryd.func23, Tryd.ntmps23
    go_wp2
    all_goals first
      | (go_ret; exact ⟨ret_bool HP.out.symm, rfl⟩)
      | (go_ret; exact ⟨ret_bool (by rw [HP.out]; simp; omega), rfl⟩)
      | (exfalso; omega)
      | (exfalso; rename_i z; simp at z; omega)
  · have HP : Hid (isLetter c = false) := by show _ = _; unfold isLetter; simp; omega
    have e95 : ((c : Int) == 95) = false := by simp; omega
    have g0 : 91 ≤ (c : Int) := by omega
    have g1 : (c : Int) ≤ 94 := by omega
    clear h
    go_enter Tryd.func23, Tryd.ntmps23
    go_wp2
    all_goals first
      | (go_ret; exact ⟨ret_bool HP.out.symm, rfl⟩)
      | (go_ret; exact ⟨ret_bool (by rw [HP.out]; simp; omega), rfl⟩)
      | (exfalso; omega)
      | (exfalso; rename_i z; simp at z; omega)
  · have HP : Hid (isLetter c = true) := by show _ = _; unfold isLetter; simp; omega
    have e95 : ((c : Int) == 95) = true := by simp; omega
    have g0 : (95 : Int) ≤ (c : Int) := by omega
    have g1 : (c : Int) ≤ 95 := by omega
    clear h
    go_enter Tryd.func23, Tryd.ntmps23
    go_wp2
    all_goals first
      | (go_ret; exact ⟨ret_bool HP.out.symm, rfl⟩)
      | (go_ret; exact ⟨ret_bool (by rw [HP.out]; simp; omega), rfl⟩)
      | (exfalso; omega)
      | (exfalso; rename_i z; simp at z; omega)
  · have HP : Hid (isLetter c = false) := by show _ = _; unfold isLetter; simp; omega
    have e95 : ((c : Int) == 95) = false := by simp; omega
    have g0 : (96 : Int) ≤ (c : Int) := by omega
    have g1 : (c : Int) ≤ 96 := by omega
    clear h
    go_enter Tryd.func23, Tryd.ntmps23
    go_wp2
    all_goals first
      | (go_ret; exact ⟨ret_bool HP.out.symm, rfl⟩)
      | (go_ret; exact ⟨ret_bool (by rw [HP.out]; simp; omega), rfl⟩)
      | (exfalso; omega)
      | (exfalso; rename_i z; simp at z; omega)
  · have HP : Hid (isLetter c = true) := by show _ = _; unfold isLetter; simp; omega
    have e95 : ((c : Int) == 95) = false := by simp; omega
    have g0 : 97 ≤ (c : Int) := by omega
    have g1 : (c : Int) ≤ 122 := by omega
    clear h
    go_enter Tryd.func23, Tryd.ntmps23
    go_wp2
    all_goals first
      | (go_ret; exact ⟨ret_bool HP.out.symm, rfl⟩)
      | (go_ret; exact ⟨ret_bool (by rw [HP.out]; simp; omega), rfl⟩)
      | (exfalso; omega)
      | (exfalso; rename_i z; simp at z; omega)
  · have HP : Hid (isLetter c = false) := by show _ = _; unfold isLetter; simp; omega
    have e95 : ((c : Int) == 95) = false := by simp; omega
    have g0 : 123 ≤ (c : Int) := by omega
    clear h
    go_enter Tryd.func23, Tryd.ntmps23
    go_wp2
    all_goals first
      | (go_ret; exact ⟨ret_bool HP.out.symm, rfl⟩)
      | (go_ret; exact ⟨ret_bool (by rw [HP.out]; simp; omega), rfl⟩)
      | (exfalso; omega)
      | (exfalso; rename_i z; simp at z; omega)

set_option maxRecDepth 100000 in
set_option maxHeartbeats 1600000 in
theorem refNum28_any (c : Nat) (w : World) (hc : c ≤ 255) :
    Calls Tryd.prog 24 #[.int .u8 c] w fun e w' => e = .returned (.bool (isDigit c)) ∧ w = w' := by
  rcases (show (c < 48) ∨ (48 ≤ c ∧ c ≤ 57) ∨ (58 ≤ c) from by omega) with h | h | h
  · have HP : Hid (isDigit c = false) := by show _ = _; unfold isDigit; simp; omega
    have g0 : (c : Int) < 48 := by omega
    clear h
    go_enter Tryd.func24, Tryd.ntmps24
    go_wp2
    all_goals first
      | (go_ret; exact ⟨ret_bool HP.out.symm, rfl⟩)
      | (go_ret; exact ⟨ret_bool (by rw [HP.out]; simp; omega), rfl⟩)
      | (exfalso; omega)
      | (exfalso; rename_i z; simp at z; omega)
  · have HP : Hid (isDigit c = true) := by show _ = _; unfold isDigit; simp; omega
    have g0 : 48 ≤ (c : Int) := by omega
    have g1 : (c : Int) ≤ 57 := by omega
    clear h
    go_enter Tryd.func24, Tryd.ntmps24
    go_wp2
    all_goals first
      | (go_ret; exact ⟨ret_bool HP.out.symm, rfl⟩)
      | (go_ret; exact ⟨ret_bool (by rw [HP.out]; simp; omega), rfl⟩)
      | (exfalso; omega)
      | (exfalso; rename_i z; simp at z; omega)
  · have HP : Hid (isDigit c = false) := by show _ = _; unfold isDigit; simp; omega
    have g0 : 58 ≤ (c : Int) := by omega
    clear h
    go_enter Tryd.func24, Tryd.ntmps24
    go_wp2
    all_goals first
      | (go_ret; exact ⟨ret_bool HP.out.symm, rfl⟩)
      | (go_ret; exact ⟨ret_bool (by rw [HP.out]; simp; omega), rfl⟩)
      | (exfalso; omega)
      | (exfalso; rename_i z; simp at z; omega)


/-- The document's token at a place, how many bytes it has, and whether it is one. -/
def OneTPost (w : World) (i : Nat) (r : Option (Tok × Nat)) (e : Ending) (w' : World) : Prop :=
  ∃ (a : Int) (b : ByteArray) (c d n : Int), e = .returned (.tuple #[.agg #[.int .i64 a, .string b, .int .i64 c, .int .i64 d], .int .i64 n, .bool r.isSome]) ∧
    (∀ t j, r = some (t, j) → a = t.k ∧ b = t.s ∧ c = t.n ∧ d = t.p ∧ n = (j - i : Nat)) ∧ Below w.heap.size w w'
theorem oneTPost_some {w w' : World} {i : Nat} {r : Option (Tok × Nat)} {t : Tok} {j : Nat} (h : r = some (t, j)) {a : Int} {b : ByteArray} {c d n : Int} (ha : a = t.k) (hb : b = t.s) (hc : c = t.n) (hd : d = t.p) (hn : n = (j - i : Nat)) (hw : Below w.heap.size w w') :
    OneTPost w i r (.returned (.tuple #[.agg #[.int .i64 a, .string b, .int .i64 c, .int .i64 d], .int .i64 n, .bool true])) w' := by
  subst h
  refine ⟨a, b, c, d, n, rfl, fun t' j' h => ?_, hw⟩
  simp only [Option.some.injEq, Prod.mk.injEq] at h
  obtain ⟨rfl, rfl⟩ := h
  exact ⟨ha, hb, hc, hd, hn⟩
theorem oneTPost_none {w w' : World} {i : Nat} {r : Option (Tok × Nat)} (h : r = none) (a : Int) (b : ByteArray) (c d n : Int) (hw : Below w.heap.size w w') :
    OneTPost w i r (.returned (.tuple #[.agg #[.int .i64 a, .string b, .int .i64 c, .int .i64 d], .int .i64 n, .bool false])) w' := by
  subst h
  exact ⟨a, b, c, d, n, rfl, fun t' j' h => by (cases h), hw⟩
theorem below_drews28 (w : World) (n : Nat) : Below w.heap.size w (w.drewN n) := ⟨rfl, rfl, rfl, Nat.le_refl _, fun _ _ => rfl⟩
theorem letterC (c : Nat) (b : Bool) (h255 : c ≤ 255) (h : isLetter c = b) (w' : World) : Calls Tryd.prog 23 #[.int .u8 c] w' fun e w2 => e = .returned (.bool b) ∧ w' = w2 :=
  (refLetter28_any c w' h255).mono fun e w2 hh => ⟨hh.1.trans (ret_bool h), hh.2⟩
theorem numC (c : Nat) (b : Bool) (h255 : c ≤ 255) (h : isDigit c = b) (w' : World) : Calls Tryd.prog 24 #[.int .u8 c] w' fun e w2 => e = .returned (.bool b) ∧ w' = w2 :=
  (refNum28_any c w' h255).mono fun e w2 hh => ⟨hh.1.trans (ret_bool h), hh.2⟩
theorem lets_letter (c : Nat) (h : isLetter c = true) : isLets c = true := letter_lets c h

set_option maxRecDepth 100000 in
set_option maxHeartbeats 6400000 in
theorem refOneT_letter (s : ByteArray) (i : Nat) (w : World) (hi : i < s.size) (hs : s.size ≤ maxLen) (h1 : isLetter (byteAt s i) = true) :
    Calls Tryd.prog 14 #[.string s, .int .i64 i] w (OneTPost w i (oneT kwR numB s i)) := by
  have hs' := hs
  unfold maxLen at hs'
  have hc := byteAt_get s i hi
  have h255 := byte_le s[i]
  have Hl0 := Lib.hid (letterC s[i].toNat true h255 (by rw [← hc]; exact h1))
  have hO : oneT kwR numB s i = (if runEnd isLets s i - i ≤ 40 then some (⟨if kwR (s.extract i (runEnd isLets s i)) then 1 else 2, s.extract i (runEnd isLets s i), 0, i⟩, runEnd isLets s i) else none) := by
    rw [runEnd_step isLets s i hi (letter_lets _ h1)]
    unfold oneT; simp only; rw [if_pos h1]
  have HO := Lib.hid hO
  clear hO hc h1
  go_enter Tryd.func14, Tryd.ntmps14
  go_wp2_with (go_at_call 23; refine (Hl0.out _).mono ?_; rintro e w' ⟨rfl, rfl⟩)
  go_loop [9] (fun v => ∃ n : Nat, v = .int .i64 n ∧ i + n ≤ s.size ∧ Hid (runEnd isLets s (i + n) = runEnd isLets s i)) (fun v => s.size - (i + (intOf v).toNat))
  case atStart => exact ⟨0, rfl, by omega, Lib.hid rfl⟩
  case round =>
    obtain ⟨n, rfl, hk, Hst⟩ := hrel
    by_cases hin : i + n < s.size ∧ isLets (byteAt s (i + n)) = true
    · obtain ⟨hlt, hb⟩ := hin
      have hc := byteAt_get s (i + n) hlt
      have h255n := byte_le s[i + n]
      have HN := Lib.hid ((runEnd_step isLets s (i + n) hlt hb).symm.trans Hst.out)
      cases hl : isLetter (byteAt s (i + n)) with
      | true =>
        have Hl := Lib.hid (letterC s[i + n].toNat true h255n (by rw [← hc]; exact hl))
        clear hl hb hc
        go_wp2_with (go_at_call 23; refine (Hl.out _).mono ?_; rintro e w' ⟨rfl, rfl⟩)
        go_round
        case rel => exact ⟨n + 1, by go_num, by omega, HN⟩
        case measure => simp [intOf]; omega
      | false =>
        have hd : isDigit (byteAt s (i + n)) = true := by
          cases hd : isDigit (byteAt s (i + n)) with
          | true => rfl
          | false => rw [lets_not _ hl hd] at hb; cases hb
        have Hl := Lib.hid (letterC s[i + n].toNat false h255n (by rw [← hc]; exact hl))
        have Hd := Lib.hid (numC s[i + n].toNat true h255n (by rw [← hc]; exact hd))
        clear hl hb hc hd
        go_wp2_with (first | (go_at_call 23; refine (Hl.out _).mono ?_; rintro e w' ⟨rfl, rfl⟩) | (go_at_call 24; refine (Hd.out _).mono ?_; rintro e w' ⟨rfl, rfl⟩))
        go_round
        case rel => exact ⟨n + 1, by go_num, by omega, HN⟩
        case measure => simp [intOf]; omega
    · have HE : Hid (runEnd isLets s i = i + n) := by
        show _ = _
        rw [← Hst.out]
        by_cases hlt : i + n < s.size
        · refine runEnd_stop isLets s (i + n) hlt ?_
          cases hb : isLets (byteAt s (i + n)) with
          | false => rfl
          | true => exact absurd ⟨hlt, hb⟩ hin
        · exact runEnd_end isLets s (i + n) (by omega)
      have HO' : Hid (oneT kwR numB s i = (if n ≤ 40 then some (⟨if kwR (s.extract i (i + n)) then 1 else 2, s.extract i (i + n), 0, i⟩, i + n) else none)) := by
        have h := HO.out
        rw [HE.out, Nat.add_sub_cancel_left] at h
        exact Lib.hid h
      have hext : (s.extract i (i + n)).size ≤ maxLen := by rw [size_extract s i _ (by omega) hk]; unfold maxLen; omega
      have HR := Lib.hid fun w' => refReserved_any (s.extract i (i + n)) w' hext
      have HK : Hid (kwR (s.extract i (i + n)) = inB (s.extract i (i + n)) resT) := rfl
      have hex : (i + n < s.size ∧ isLetter (byteAt s (i + n)) = false ∧ isDigit (byteAt s (i + n)) = false) ∨ s.size ≤ i + n := by
        by_cases hlt : i + n < s.size
        · left
          refine ⟨hlt, ?_, ?_⟩
          · cases hl : isLetter (byteAt s (i + n)) with
            | false => rfl
            | true => exact absurd ⟨hlt, letter_lets _ hl⟩ hin
          · cases hd : isDigit (byteAt s (i + n)) with
            | false => rfl
            | true => exact absurd ⟨hlt, lets_digit _ hd⟩ hin
        · exact .inr (by omega)
      generalize inB (s.extract i (i + n)) resT = b at *
      clear hin HE HO Hst
      rcases hex with ⟨hlt, hl, hd⟩ | hge
      · have hc := byteAt_get s (i + n) hlt
        have h255n := byte_le s[i + n]
        have Hl := Lib.hid (letterC s[i + n].toNat false h255n (by rw [← hc]; exact hl))
        have Hd := Lib.hid (numC s[i + n].toNat false h255n (by rw [← hc]; exact hd))
        have hin : (i : Int) + n < s.size := by omega
        clear hl hc hd
        go_wp2_with (first | (go_at_call 23; refine (Hl.out _).mono ?_; rintro e w' ⟨rfl, rfl⟩) | (go_at_call 24; refine (Hd.out _).mono ?_; rintro e w' ⟨rfl, rfl⟩))
        go_region
        all_goals
          go_wp2_with fail
          refine (HR.out _).mono ?_
          rintro e w3 ⟨rfl, hb3⟩
          obtain ⟨hc3, hf3⟩ := bcell hb3
          have hz3 : w.heap.size + 1 < w3.heap.size := by have := hb3.size; simp at this; omega
          have d0 := (hc3 w.heap.size 0 (by simp; omega)).trans (by go_simp : _ = some (.int .i64 0))
          have d1 := (hc3 w.heap.size 1 (by simp; omega)).trans (by go_simp : _ = some (.string ⟨#[]⟩))
          have d2 := (hc3 w.heap.size 2 (by simp; omega)).trans (by go_simp : _ = some (.int .i64 0))
          have d3 := (hc3 w.heap.size 3 (by simp; omega)).trans (by go_simp : _ = some (.int .i64 0))
          have hbw : Below w.heap.size w w3 := by
            refine Below.trans ?_ (hb3.mono (by simp; omega))
            repeat (first | exact Below.refl _ _ | (refine Below.setCell ?_ (by first | exact Nat.le_refl _ | (simp; done) | (simp; omega)) _) | refine Below.drew ?_ | (refine Below.alloc ?_ (by first | exact Nat.le_refl _ | (simp; done) | (simp; omega)) _))
          have HB3 := Lib.hid hbw
          clear hb3 hbw
          by_cases h40 : n ≤ 40
          · have h40' : (n : Int) ≤ 40 := by omega
            have HO2 := HO'.out
            rw [if_pos h40, HK.out] at HO2
            have HO2 := Lib.hid HO2
            cases b
            · go_wp2_with fail
              refine bodyPost_ret (v := .tuple #[.agg #[.int .i64 2, .string (s.extract i (i + n)), .int .i64 0, .int .i64 i], .int .i64 n, .bool true]) (by simp [results, Tryd.results14, go_sem, d0, d1, d2, d3]) rfl (oneTPost_some HO2.out rfl rfl rfl rfl (by omega) ?_)
              exact set4_below HB3.out (Nat.le_refl _)
            · go_wp2_with fail
              refine bodyPost_ret (v := .tuple #[.agg #[.int .i64 1, .string (s.extract i (i + n)), .int .i64 0, .int .i64 i], .int .i64 n, .bool true]) (by simp [results, Tryd.results14, go_sem, d0, d1, d2, d3]) rfl (oneTPost_some HO2.out rfl rfl rfl rfl (by omega) ?_)
              exact set4_below (HB3.out.setCell (by simp) _) (Nat.le_refl _)
          · have h40' : decide ((n : Int) ≤ 40) = false := by simp; omega
            have h41' : decide (n ≤ 40) = false := by simp; omega
            have HO2 := HO'.out
            rw [if_neg h40] at HO2
            have HO2 := Lib.hid HO2
            cases b
            · go_wp2_with fail
              refine bodyPost_ret (v := .tuple #[.agg #[.int .i64 2, .string (s.extract i (i + n)), .int .i64 0, .int .i64 i], .int .i64 n, .bool false]) (by simp [results, Tryd.results14, go_sem, d0, d1, d2, d3]) rfl (oneTPost_none HO2.out _ _ _ _ _ ?_)
              exact set4_below HB3.out (Nat.le_refl _)
            · go_wp2_with fail
              refine bodyPost_ret (v := .tuple #[.agg #[.int .i64 1, .string (s.extract i (i + n)), .int .i64 0, .int .i64 i], .int .i64 n, .bool false]) (by simp [results, Tryd.results14, go_sem, d0, d1, d2, d3]) rfl (oneTPost_none HO2.out _ _ _ _ _ ?_)
              exact set4_below (HB3.out.setCell (by simp) _) (Nat.le_refl _)
      · have hin : (i : Int) + n ≤ s.size := by omega
        have hge' : (s.size : Int) ≤ (i : Int) + n := by omega
        go_wp2_with fail
        go_region
        all_goals
          go_wp2_with fail
          refine (HR.out _).mono ?_
          rintro e w3 ⟨rfl, hb3⟩
          obtain ⟨hc3, hf3⟩ := bcell hb3
          have hz3 : w.heap.size + 1 < w3.heap.size := by have := hb3.size; simp at this; omega
          have d0 := (hc3 w.heap.size 0 (by simp; omega)).trans (by go_simp : _ = some (.int .i64 0))
          have d1 := (hc3 w.heap.size 1 (by simp; omega)).trans (by go_simp : _ = some (.string ⟨#[]⟩))
          have d2 := (hc3 w.heap.size 2 (by simp; omega)).trans (by go_simp : _ = some (.int .i64 0))
          have d3 := (hc3 w.heap.size 3 (by simp; omega)).trans (by go_simp : _ = some (.int .i64 0))
          have hbw : Below w.heap.size w w3 := by
            refine Below.trans ?_ (hb3.mono (by simp; omega))
            repeat (first | exact Below.refl _ _ | (refine Below.setCell ?_ (by first | exact Nat.le_refl _ | (simp; done) | (simp; omega)) _) | refine Below.drew ?_ | (refine Below.alloc ?_ (by first | exact Nat.le_refl _ | (simp; done) | (simp; omega)) _))
          have HB3 := Lib.hid hbw
          clear hb3 hbw
          by_cases h40 : n ≤ 40
          · have h40' : (n : Int) ≤ 40 := by omega
            have HO2 := HO'.out
            rw [if_pos h40, HK.out] at HO2
            have HO2 := Lib.hid HO2
            cases b
            · go_wp2_with fail
              refine bodyPost_ret (v := .tuple #[.agg #[.int .i64 2, .string (s.extract i (i + n)), .int .i64 0, .int .i64 i], .int .i64 n, .bool true]) (by simp [results, Tryd.results14, go_sem, d0, d1, d2, d3]) rfl (oneTPost_some HO2.out rfl rfl rfl rfl (by omega) ?_)
              exact set4_below HB3.out (Nat.le_refl _)
            · go_wp2_with fail
              refine bodyPost_ret (v := .tuple #[.agg #[.int .i64 1, .string (s.extract i (i + n)), .int .i64 0, .int .i64 i], .int .i64 n, .bool true]) (by simp [results, Tryd.results14, go_sem, d0, d1, d2, d3]) rfl (oneTPost_some HO2.out rfl rfl rfl rfl (by omega) ?_)
              exact set4_below (HB3.out.setCell (by simp) _) (Nat.le_refl _)
          · have h40' : decide ((n : Int) ≤ 40) = false := by simp; omega
            have h41' : decide (n ≤ 40) = false := by simp; omega
            have HO2 := HO'.out
            rw [if_neg h40] at HO2
            have HO2 := Lib.hid HO2
            cases b
            · go_wp2_with fail
              refine bodyPost_ret (v := .tuple #[.agg #[.int .i64 2, .string (s.extract i (i + n)), .int .i64 0, .int .i64 i], .int .i64 n, .bool false]) (by simp [results, Tryd.results14, go_sem, d0, d1, d2, d3]) rfl (oneTPost_none HO2.out _ _ _ _ _ ?_)
              exact set4_below HB3.out (Nat.le_refl _)
            · go_wp2_with fail
              refine bodyPost_ret (v := .tuple #[.agg #[.int .i64 1, .string (s.extract i (i + n)), .int .i64 0, .int .i64 i], .int .i64 n, .bool false]) (by simp [results, Tryd.results14, go_sem, d0, d1, d2, d3]) rfl (oneTPost_none HO2.out _ _ _ _ _ ?_)
              exact set4_below (HB3.out.setCell (by simp) _) (Nat.le_refl _)

set_option maxRecDepth 100000 in
set_option maxHeartbeats 6400000 in
theorem refOneT_digit (s : ByteArray) (i : Nat) (w : World) (hi : i < s.size) (hs : s.size ≤ maxLen) (h0 : isLetter (byteAt s i) = false) (h1 : isDigit (byteAt s i) = true) :
    Calls Tryd.prog 14 #[.string s, .int .i64 i] w (OneTPost w i (oneT kwR numB s i)) := by
  have hs' := hs
  unfold maxLen at hs'
  have hc := byteAt_get s i hi
  have h255 := byte_le s[i]
  have Hl0 := Lib.hid (letterC s[i].toNat false h255 (by rw [← hc]; exact h0))
  have Hn0 := Lib.hid (numC s[i].toNat true h255 (by rw [← hc]; exact h1))
  have hO : oneT kwR numB s i = (match numB (s.extract i (runEnd isDigit s i)) with | some n => some (⟨4, ByteArray.empty, n, i⟩, runEnd isDigit s i) | none => none) := by
    rw [runEnd_step isDigit s i hi h1]
    unfold oneT; simp only; rw [if_neg (by rw [h0]; decide), if_pos h1]; cases numB (s.extract i (runEnd isDigit s (i + 1))) <;> rfl
  have HO := Lib.hid hO
  clear hO hc h1 h0
  go_enter Tryd.func14, Tryd.ntmps14
  go_wp2_with (first | (go_at_call 23; refine (Hl0.out _).mono ?_; rintro e w' ⟨rfl, rfl⟩) | (go_at_call 24; refine (Hn0.out _).mono ?_; rintro e w' ⟨rfl, rfl⟩))
  go_loop [9] (fun v => ∃ n : Nat, v = .int .i64 n ∧ i + n ≤ s.size ∧ Hid (runEnd isDigit s (i + n) = runEnd isDigit s i)) (fun v => s.size - (i + (intOf v).toNat))
  case atStart => exact ⟨0, rfl, by omega, Lib.hid rfl⟩
  case round =>
    obtain ⟨n, rfl, hk, Hst⟩ := hrel
    by_cases hin : i + n < s.size ∧ isDigit (byteAt s (i + n)) = true
    · obtain ⟨hlt, hb⟩ := hin
      have hc := byteAt_get s (i + n) hlt
      have h255n := byte_le s[i + n]
      have HN := Lib.hid ((runEnd_step isDigit s (i + n) hlt hb).symm.trans Hst.out)
      have Hd := Lib.hid (numC s[i + n].toNat true h255n (by rw [← hc]; exact hb))
      clear hb hc
      go_wp2_with (go_at_call 24; refine (Hd.out _).mono ?_; rintro e w' ⟨rfl, rfl⟩)
      go_round
      case rel => exact ⟨n + 1, by go_num, by omega, HN⟩
      case measure => simp [intOf]; omega
    · have HE : Hid (runEnd isDigit s i = i + n) := by
        show _ = _
        rw [← Hst.out]
        by_cases hlt : i + n < s.size
        · refine runEnd_stop isDigit s (i + n) hlt ?_
          cases hb : isDigit (byteAt s (i + n)) with
          | false => rfl
          | true => exact absurd ⟨hlt, hb⟩ hin
        · exact runEnd_end isDigit s (i + n) (by omega)
      have HO' : Hid (oneT kwR numB s i = (match numB (s.extract i (i + n)) with | some m => some (⟨4, ByteArray.empty, m, i⟩, i + n) | none => none)) := by
        have h := HO.out
        rw [HE.out] at h
        exact Lib.hid h
      have hext : (s.extract i (i + n)).size ≤ maxLen := by rw [size_extract s i _ (by omega) hk]; unfold maxLen; omega
      have hex : (i + n < s.size ∧ isDigit (byteAt s (i + n)) = false) ∨ s.size ≤ i + n := by
        by_cases hlt : i + n < s.size
        · left
          refine ⟨hlt, ?_⟩
          cases hd : isDigit (byteAt s (i + n)) with
          | false => rfl
          | true => exact absurd ⟨hlt, hd⟩ hin
        · exact .inr (by omega)
      clear hin HE HO Hst
      cases hv : numB (s.extract i (i + n)) with
      | none =>
        have HO2 := HO'.out
        rw [hv] at HO2
        have HO2 := Lib.hid HO2
        have HP := Lib.hid fun w' => refParse_no (s.extract i (i + n)) w' hext (fun m h => by rw [numB_of h] at hv; cases hv)
        clear hv HO'
        rcases hex with ⟨hlt, hd⟩ | hge
        · have hc := byteAt_get s (i + n) hlt
          have h255n := byte_le s[i + n]
          have Hd := Lib.hid (numC s[i + n].toNat false h255n (by rw [← hc]; exact hd))
          have hin : (i : Int) + n < s.size := by omega
          clear hc hd
          go_wp2_with (first | (go_at_call 24; refine (Hd.out _).mono ?_; rintro e w' ⟨rfl, rfl⟩) | (go_at_call 26; refine (HP.out _).mono ?_; rintro e w' ⟨rfl, rfl⟩))
          exact bodyPost_ret (v := .tuple #[.agg #[.int .i64 4, .string ⟨#[]⟩, .int .i64 0, .int .i64 i], .int .i64 n, .bool false]) (by simp [results, Tryd.results14, go_sem]) rfl (oneTPost_none HO2.out _ _ _ _ _ ((((Below.refl _ _).alloc (Nat.le_refl _) _).alloc (by simp) _)))
        · have hin : (i : Int) + n ≤ s.size := by omega
          have hge' : (s.size : Int) ≤ (i : Int) + n := by omega
          go_wp2_with (go_at_call 26; refine (HP.out _).mono ?_; rintro e w' ⟨rfl, rfl⟩)
          exact bodyPost_ret (v := .tuple #[.agg #[.int .i64 4, .string ⟨#[]⟩, .int .i64 0, .int .i64 i], .int .i64 n, .bool false]) (by simp [results, Tryd.results14, go_sem]) rfl (oneTPost_none HO2.out _ _ _ _ _ ((((Below.refl _ _).alloc (Nat.le_refl _) _).alloc (by simp) _)))
      | some v =>
        have hIs := numB_some hv
        have HO2 := HO'.out
        rw [hv] at HO2
        have HO2 := Lib.hid HO2
        have hp : ∀ w', Calls Tryd.prog 26 #[.string (s.extract i (i + n))] w' fun e w2 => e = .returned (.tuple #[.int .i64 (v : Nat), .int .i64 0]) ∧ w' = w2 := fun w' => by rw [hIs.1]; exact refParse_yes v w' hIs.2
        have HP := Lib.hid hp
        clear hv HO' hIs hp
        rcases hex with ⟨hlt, hd⟩ | hge
        · have hc := byteAt_get s (i + n) hlt
          have h255n := byte_le s[i + n]
          have Hd := Lib.hid (numC s[i + n].toNat false h255n (by rw [← hc]; exact hd))
          have hin : (i : Int) + n < s.size := by omega
          clear hc hd
          go_wp2_with (first | (go_at_call 24; refine (Hd.out _).mono ?_; rintro e w' ⟨rfl, rfl⟩) | (go_at_call 26; refine (HP.out _).mono ?_; rintro e w' ⟨rfl, rfl⟩))
          exact bodyPost_ret (v := .tuple #[.agg #[.int .i64 4, .string ⟨#[]⟩, .int .i64 v, .int .i64 i], .int .i64 n, .bool true]) (by simp [results, Tryd.results14, go_sem]) rfl (oneTPost_some HO2.out rfl rfl rfl rfl (by omega) ((((Below.refl _ _).alloc (Nat.le_refl _) _).alloc (by simp) _)))
        · have hin : (i : Int) + n ≤ s.size := by omega
          have hge' : (s.size : Int) ≤ (i : Int) + n := by omega
          go_wp2_with (go_at_call 26; refine (HP.out _).mono ?_; rintro e w' ⟨rfl, rfl⟩)
          exact bodyPost_ret (v := .tuple #[.agg #[.int .i64 4, .string ⟨#[]⟩, .int .i64 v, .int .i64 i], .int .i64 n, .bool true]) (by simp [results, Tryd.results14, go_sem]) rfl (oneTPost_some HO2.out rfl rfl rfl rfl (by omega) ((((Below.refl _ _).alloc (Nat.le_refl _) _).alloc (by simp) _)))
set_option maxRecDepth 100000 in
theorem begins_any28 (t s : ByteArray) (w : World) (ht : t.size ≤ maxLen) (hs : s.size ≤ maxLen) :
    Calls Tryd.prog 28 #[.string t, .string s] w fun e w' => e = .returned (.bool (preB t s)) ∧ w = w' := by
  unfold maxLen at hs ht
  by_cases h : s.size ≤ t.size
  · have HP := Lib.hid (preB_eq t s h)
    go_enter Tryd.func28, Tryd.ntmps28
    go_wp2_with fail
    all_goals
      go_ret
      exact ⟨ret_bool HP.out.symm, rfl⟩
  · have HP := Lib.hid (preB_no t s h)
    go_enter Tryd.func28, Tryd.ntmps28
    go_wp2_with fail
    all_goals
      go_ret
      exact ⟨ret_bool HP.out.symm, rfl⟩

theorem preB_bs (t : ByteArray) (x : List UInt8) : preB t (bs x) = x.isPrefixOf t.data.toList := by
  have hl : t.data.toList.length = t.size := by rw [Array.length_toList]; rfl
  have hx : (bs x).size = x.length := by show (x.toArray).size = _; simp
  unfold preB
  rw [ByteArray.toList_eq, ByteArray.toList_eq, hx, bs_toList, ext_list, List.drop_zero, Nat.sub_zero, Bool.eq_iff_iff, List.isPrefixOf_iff_prefix, List.prefix_iff_eq_take]
  simp only [Bool.and_eq_true, decide_eq_true_eq, beq_iff_eq]
  constructor
  · rintro ⟨_, h⟩; exact h.symm
  · intro h
    refine ⟨?_, h.symm⟩
    have := congrArg List.length h
    rw [List.length_take, hl] at this; omega
theorem oneT_sign (s : ByteArray) (i k : Nat) (hi : i < s.size) (h0 : isLetter (byteAt s i) = false) (h1 : isDigit (byteAt s i) = false) (hk : k < sigT.length) (hb : ∀ j (h : j < sigT.length), j < k → preB (s.extract i s.size) (bs sigT[j]) = false) (h : preB (s.extract i s.size) (bs sigT[k]) = true) :
    oneT kwR numB s i = some (⟨5, bs sigT[k], 0, i⟩, i + (bs sigT[k]).size) := by
  have hl := signLen_at (s.extract i s.size) k hk (fun j h hj => by rw [← preB_bs]; exact hb j h hj) (by rw [← preB_bs]; exact h)
  rw [signLen_ext s i (by omega)] at hl
  have hsz : (bs sigT[k]).size = sigT[k].length := by show (sigT[k].toArray).size = _; simp
  have hpos : 1 ≤ sigT[k].length := (sign_first _ (List.getElem_mem hk)).1
  have hx : s.extract i (i + sigT[k].length) = bs sigT[k] := by
    have h2 := preB_size _ _ h
    have h3 := h
    rw [preB_bs, List.isPrefixOf_iff_prefix, List.prefix_iff_eq_take, ext_list] at h3
    have h4 : (s.extract i (i + sigT[k].length)).data.toList = sigT[k] := by
      rw [ext_list, Nat.add_sub_cancel_left]
      have h5 : sigT[k].length ≤ s.size - i := by rw [hsz, size_extract s i _ (by omega) (Nat.le_refl _)] at h2; exact h2
      rw [List.take_take, Nat.min_eq_left h5] at h3
      exact h3.symm
    rw [← bs_data (s.extract i (i + sigT[k].length)), h4]
  unfold oneT
  simp only
  rw [if_neg (by rw [h0]; decide), if_neg (by rw [h1]; decide), hl, if_neg (by omega), hx, hsz]
theorem oneT_nosign (s : ByteArray) (i : Nat) (hi : i < s.size) (h0 : isLetter (byteAt s i) = false) (h1 : isDigit (byteAt s i) = false) (hb : ∀ j (h : j < sigT.length), preB (s.extract i s.size) (bs sigT[j]) = false) :
    oneT kwR numB s i = none := by
  have hl := signLen_no (s.extract i s.size) (fun j h => by rw [← preB_bs]; exact hb j h)
  rw [signLen_ext s i (by omega)] at hl
  unfold oneT
  simp only
  rw [if_neg (by rw [h0]; decide), if_neg (by rw [h1]; decide), hl, if_pos rfl]
set_option maxRecDepth 100000 in
theorem refSigns_any (w : World) : Calls Tryd.prog 27 #[] w fun e w' => e = .returned (.slice (some ⟨w.heap.size, 0, none⟩) 19 19) ∧ Below w.heap.size w w' ∧ w.heap.size < w'.heap.size ∧ Hid (∀ k (h : k < sigT.length), w'.cell? ⟨w.heap.size, k, none⟩ = some (.string (bs sigT[k]))) := by
  go_enter Tryd.func27, Tryd.ntmps27
  go_wp2_with fail
  go_ret
  refine ⟨rfl, (Below.refl _ _).alloc (Nat.le_refl _) _, by simp, ?_⟩
  intro k hk
  rw [cell_of_row _ _ _ _ _ (0, 0) (heap_alloc_new w _)]
  have : (sigT.map fun z => Value.string (bs z))[k]? = some (.string (bs sigT[k])) := by rw [List.getElem?_map, List.getElem?_eq_getElem hk]; rfl
  show ((sigT.map fun z => Value.string (bs z)).toArray)[k]? = _
  rw [List.getElem?_toArray]
  exact this
set_option maxRecDepth 100000 in
set_option maxHeartbeats 6400000 in
theorem refOneT_sign (s : ByteArray) (i : Nat) (w : World) (hi : i < s.size) (hs : s.size ≤ maxLen) (h0 : isLetter (byteAt s i) = false) (h1 : isDigit (byteAt s i) = false) :
    Calls Tryd.prog 14 #[.string s, .int .i64 i] w (OneTPost w i (oneT kwR numB s i)) := by
  have hs' := hs
  unfold maxLen at hs'
  have hc := byteAt_get s i hi
  have h255 := byte_le s[i]
  have Hl0 := Lib.hid (letterC s[i].toNat false h255 (by rw [← hc]; exact h0))
  have Hn0 := Lib.hid (numC s[i].toNat false h255 (by rw [← hc]; exact h1))
  have Hy := Lib.hid fun k => oneT_sign s i k hi h0 h1
  have Hno := Lib.hid (oneT_nosign s i hi h0 h1)
  have hie : (i : Int) ≤ s.size := by omega
  have hext : (s.extract i s.size).size ≤ maxLen := by rw [size_extract s i _ (by omega) (Nat.le_refl _)]; unfold maxLen; omega
  have HB := Lib.hid fun x hx w' => begins_any28 (s.extract i s.size) x w' hext hx
  clear hc h1 h0 hext
  go_enter Tryd.func14, Tryd.ntmps14
  go_wp2_with (first | (go_at_call 23; refine (Hl0.out _).mono ?_; rintro e w' ⟨rfl, rfl⟩) | (go_at_call 24; refine (Hn0.out _).mono ?_; rintro e w' ⟨rfl, rfl⟩))
  refine (refSigns_any _).mono ?_
  rintro e w3 ⟨rfl, hb3, hl3, Hc⟩
  have hz3 : w.heap.size + 2 < w3.heap.size := by simp at hl3; omega
  have hsz2 : ((w.alloc (.cells #[.int .i64 0, .string ⟨#[]⟩, .int .i64 0, .int .i64 0] 31)).alloc (.cells #[.int .i64 0, .string ⟨#[]⟩, .int .i64 0, .int .i64 i] 31)).heap.size = w.heap.size + 2 := by simp
  obtain ⟨hc3, hf3⟩ := bcell hb3
  have d0 := (hc3 (w.heap.size + 1) 0 (by simp)).trans (by go_simp : _ = some (.int .i64 0))
  have d1 := (hc3 (w.heap.size + 1) 1 (by simp)).trans (by go_simp : _ = some (.string ⟨#[]⟩))
  have d2 := (hc3 (w.heap.size + 1) 2 (by simp)).trans (by go_simp : _ = some (.int .i64 0))
  have d3 := (hc3 (w.heap.size + 1) 3 (by simp)).trans (by go_simp : _ = some (.int .i64 i))
  have e0 := (hc3 w.heap.size 0 (by simp; omega)).trans (by go_simp : _ = some (.int .i64 0))
  have e1 := (hc3 w.heap.size 1 (by simp; omega)).trans (by go_simp : _ = some (.string ⟨#[]⟩))
  have e2 := (hc3 w.heap.size 2 (by simp; omega)).trans (by go_simp : _ = some (.int .i64 0))
  have e3 := (hc3 w.heap.size 3 (by simp; omega)).trans (by go_simp : _ = some (.int .i64 0))
  have f0 := (hf3 (w.heap.size + 1) 0 (by simp)).trans (by go_simp : _ = false)
  have f1 := (hf3 (w.heap.size + 1) 1 (by simp)).trans (by go_simp : _ = false)
  have g0 := (hf3 w.heap.size 0 (by simp; omega)).trans (by go_simp : _ = false)
  have g1 := (hf3 w.heap.size 1 (by simp; omega)).trans (by go_simp : _ = false)
  have g2 := (hf3 w.heap.size 2 (by simp; omega)).trans (by go_simp : _ = false)
  have g3 := (hf3 w.heap.size 3 (by simp; omega)).trans (by go_simp : _ = false)
  have hbw : Below w.heap.size w w3 := by
    refine Below.trans ?_ (hb3.mono (by simp; omega))
    exact ((Below.refl _ _).alloc (Nat.le_refl _) _).alloc (by simp) _
  rw [hsz2] at Hc
  clear hb3 hl3 hc3 hf3
  have HBW := Lib.hid hbw
  clear hbw hsz2
  go_wp2_with fail
  go_loopw [13] (fun v wr => ∃ (k : Nat), v = .int .i64 k ∧ k ≤ 19 ∧ Below w3.heap.size w3 wr ∧ Hid (∀ j (h : j < sigT.length), j < k → preB (s.extract i s.size) (bs sigT[j]) = false)) (fun v _ => 19 - (intOf v).toNat)
  case atStart => exact ⟨0, rfl, by omega, Below.refl _ _, fun j _ hj => by omega⟩
  case round =>
    obtain ⟨k, rfl, hk, hbr, Hall⟩ := hrel
    obtain ⟨hcq, hfq⟩ := bcell hbr
    replace d0 := (hcq (w.heap.size + 1) 0 (by omega)).trans d0
    replace d1 := (hcq (w.heap.size + 1) 1 (by omega)).trans d1
    replace d2 := (hcq (w.heap.size + 1) 2 (by omega)).trans d2
    replace d3 := (hcq (w.heap.size + 1) 3 (by omega)).trans d3
    replace e0 := (hcq w.heap.size 0 (by omega)).trans e0
    replace e1 := (hcq w.heap.size 1 (by omega)).trans e1
    replace e2 := (hcq w.heap.size 2 (by omega)).trans e2
    replace e3 := (hcq w.heap.size 3 (by omega)).trans e3
    replace f0 := (hfq (w.heap.size + 1) 0 (by omega)).trans f0
    replace f1 := (hfq (w.heap.size + 1) 1 (by omega)).trans f1
    replace g0 := (hfq w.heap.size 0 (by omega)).trans g0
    replace g1 := (hfq w.heap.size 1 (by omega)).trans g1
    replace g2 := (hfq w.heap.size 2 (by omega)).trans g2
    replace g3 := (hfq w.heap.size 3 (by omega)).trans g3
    have hcg := fun k => hcq (w.heap.size + 1 + 1) k (by omega)
    have Hbr := Lib.hid hbr
    have hsr := hbr.size
    clear hcq hfq hbr
    by_cases hlt : k < 19
    · have hkl : k < sigT.length := by rw [sigT_length]; exact hlt
      have hck : wr.cell? ⟨w.heap.size + 1 + 1, k, none⟩ = some (.string (bs sigT[k])) := (hcg k).trans (Hc.out k hkl)
      clear hcg
      have hxs : (bs sigT[k]).size ≤ maxLen := by
        have h1 : (bs sigT[k]).size = sigT[k].length := by show (sigT[k].toArray).size = _; simp
        have h2 : ∀ x ∈ sigT, x.length ≤ 2 := by decide
        have := h2 _ (List.getElem_mem hkl); unfold maxLen; omega
      have hB := fun w' => HB.out (bs sigT[k]) hxs w'
      have hk0 : (k : Int) < 19 := by omega
      cases hp : preB (s.extract i s.size) (bs sigT[k]) with
      | true =>
        rw [hp] at hB
        have HO2 := Lib.hid (Hy.out k hkl Hall.out hp)
        have HB2 := Lib.hid hB
        clear hB hp hxs
        generalize bs sigT[k] = z at *
        clear hkl
        go_wp2_with fail
        go_quiet ((go_at_call 28; exact Calls.quiet_of_same ((HB2.out _).mono fun e w' h => ⟨h.1, h.2.symm⟩)))
        go_wp2_with fail
        generalize hwq : wr.drewN _ = wq at *
        have hbq : Below wr.heap.size wr wq := by subst hwq; exact below_drews28 _ _
        obtain ⟨hcq, hfq⟩ := bcell hbq
        replace d0 := (hcq (w.heap.size + 1) 0 (by omega)).trans d0
        replace d1 := (hcq (w.heap.size + 1) 1 (by omega)).trans d1
        replace d2 := (hcq (w.heap.size + 1) 2 (by omega)).trans d2
        replace d3 := (hcq (w.heap.size + 1) 3 (by omega)).trans d3
        replace e0 := (hcq w.heap.size 0 (by omega)).trans e0
        replace e1 := (hcq w.heap.size 1 (by omega)).trans e1
        replace e2 := (hcq w.heap.size 2 (by omega)).trans e2
        replace e3 := (hcq w.heap.size 3 (by omega)).trans e3
        replace f0 := (hfq (w.heap.size + 1) 0 (by omega)).trans f0
        replace f1 := (hfq (w.heap.size + 1) 1 (by omega)).trans f1
        replace g0 := (hfq w.heap.size 0 (by omega)).trans g0
        replace g1 := (hfq w.heap.size 1 (by omega)).trans g1
        replace g2 := (hfq w.heap.size 2 (by omega)).trans g2
        replace g3 := (hfq w.heap.size 3 (by omega)).trans g3
        replace hck := (hcq (w.heap.size + 1 + 1) k (by omega)).trans hck
        have HQ := Lib.hid (HBW.out.trans ((Hbr.out.trans (hbq.mono hsr)).mono (by omega)))
        clear hcq hfq hbq hwq HB2 Hall Hbr Hc Hy Hno Hl0 Hn0
        go_region
        all_goals
          go_wp2_with fail
          go_region
        all_goals
          go_wp2_with fail
          refine bodyPost_ret (v := .tuple #[.agg #[.int .i64 5, .string z, .int .i64 0, .int .i64 i], .int .i64 z.size, .bool true]) (by simp [results, Tryd.results14, go_sem, d0, d1, d2, d3, e0, e1, e2, e3]) rfl (oneTPost_some HO2.out rfl rfl rfl rfl (by omega) ?_)
          repeat (first | exact HQ.out | (refine Below.setCell ?_ (by first | exact Nat.le_refl _ | exact Nat.le_succ _ | (simp; done) | (simp; omega)) _) | refine Below.drew ?_)
      | false =>
        rw [hp] at hB
        have HN : Hid (∀ j (h : j < sigT.length), j < k + 1 → preB (s.extract i s.size) (bs sigT[j]) = false) := fun j h hj => by
          rcases (show j < k ∨ j = k from by omega) with h1 | rfl
          · exact Hall.out j h h1
          · exact hp
        have HB2 := Lib.hid hB
        clear hB hp hxs
        generalize bs sigT[k] = z at *
        clear hkl
        go_wp2_with fail
        go_quiet ((go_at_call 28; exact Calls.quiet_of_same ((HB2.out _).mono fun e w' h => ⟨h.1, h.2.symm⟩)))
        go_wp2_with fail
        go_roundw
        case rel => exact ⟨k + 1, by go_num, by omega, Hbr.out.trans ((below_drews28 _ _).mono hsr), HN⟩
        case measure => simp [intOf]; omega
    · obtain rfl : k = 19 := by omega
      clear hcg
      have HO2 := Lib.hid (Hno.out fun j h => Hall.out j h (by rw [sigT_length] at h; exact h))
      go_wp2_with fail
      refine bodyPost_ret (v := .tuple #[.agg #[.int .i64 0, .string ⟨#[]⟩, .int .i64 0, .int .i64 i], .int .i64 0, .bool false]) (by simp [results, Tryd.results14, go_sem, e0, e1, e2, e3]) rfl (oneTPost_none HO2.out _ _ _ _ _ ?_)
      exact set4_below (HBW.out.trans (Hbr.out.mono (by omega))) (Nat.le_refl _)
end Go.Proofs.YtapmjkgndojdfaaDoor
