/-
  The document's tokens: the walks of its reader of one token, and of its All.
-/
import Derived.Test.YteijndfacjgfbaaDoorLexT
import Derived.Test.YteijndfacjgfbaaDoorDigitL
import Derived.Deep.DeepCutAuto
namespace Go.Proofs.YteijndfacjgfbaaDoor
open Go.RowKit LX
set_option linter.unusedVariables false

/-- The document's token at a place, how many bytes it has, and whether it is one. -/
def OnePost (w : World) (i : Nat) (r : Option (Tok × Nat)) (e : Ending) (w' : World) : Prop :=
  ∃ (a : Int) (b : ByteArray) (c d n : Int), e = .returned (.tuple #[.agg #[.int .i64 a, .string b, .int .i64 c, .int .i64 d], .int .i64 n, .bool r.isSome]) ∧
    (∀ t j, r = some (t, j) → a = t.k ∧ b = t.s ∧ c = t.n ∧ d = t.p ∧ n = (j - i : Nat)) ∧ Below w.heap.size w w'
theorem onePost_some {w w' : World} {i : Nat} {r : Option (Tok × Nat)} {t : Tok} {j : Nat} (h : r = some (t, j)) {a : Int} {b : ByteArray} {c d n : Int} (ha : a = t.k) (hb : b = t.s) (hc : c = t.n) (hd : d = t.p) (hn : n = (j - i : Nat)) (hw : Below w.heap.size w w') :
    OnePost w i r (.returned (.tuple #[.agg #[.int .i64 a, .string b, .int .i64 c, .int .i64 d], .int .i64 n, .bool true])) w' := by
  subst h
  refine ⟨a, b, c, d, n, rfl, fun t' j' h => ?_, hw⟩
  simp only [Option.some.injEq, Prod.mk.injEq] at h
  obtain ⟨rfl, rfl⟩ := h
  exact ⟨ha, hb, hc, hd, hn⟩
theorem onePost_none {w w' : World} {i : Nat} {r : Option (Tok × Nat)} (h : r = none) (a : Int) (b : ByteArray) (c d n : Int) (hw : Below w.heap.size w w') :
    OnePost w i r (.returned (.tuple #[.agg #[.int .i64 a, .string b, .int .i64 c, .int .i64 d], .int .i64 n, .bool false])) w' := by
  subst h
  exact ⟨a, b, c, d, n, rfl, fun t' j' h => by (cases h), hw⟩

set_option maxRecDepth 100000 in
set_option maxHeartbeats 3200000 in
theorem refOne_small (s : ByteArray) (i : Nat) (w : World) (hi : i < s.size) (hs : s.size ≤ maxLen) (h1 : isSmall (byteAt s i) = true) :
    Calls Tryd.prog 38 #[.string s, .int .i64 i] w (OnePost w i (one kwB numB s i)) := by
  have hs' := hs
  unfold maxLen at hs'
  have hc := byteAt_get s i hi
  have h255 := byte_le s[i]
  have hr1 := runEnd_ge isWord s i; have hr2 := runEnd_le isWord s i (by omega)
  have hre := runEnd_step isWord s i hi (small_word _ h1)
  have hri := runEnd_ge isWord s (i + 1)
  have hsp := fun w' => span1_any s i w' hs (by omega)
  have hO : one kwB numB s i = (if runEnd isWord s (i + 1) - i ≤ 20 then some (⟨if kwB (s.extract i (runEnd isWord s (i + 1))) then 1 else 2, s.extract i (runEnd isWord s (i + 1)), 0, i⟩, runEnd isWord s (i + 1)) else none) := by
    unfold one; simp only; rw [if_pos h1]
  rw [hre] at hsp hr2
  generalize runEnd isWord s (i + 1) = j at *
  obtain ⟨n, hn⟩ : ∃ n, n = j - i := ⟨_, rfl⟩
  obtain rfl : j = i + n := by omega
  rw [Nat.add_sub_cancel_left] at hsp hO
  have hext : (s.extract i (i + n)).size ≤ maxLen := by rw [size_extract s i _ (by omega) hr2]; unfold maxLen; omega
  have hkwc := fun w' => refKeyword_any (s.extract i (i + n)) w' hext
  have HK : Hid (kwB (s.extract i (i + n)) = inB (s.extract i (i + n)) kwT) := rfl
  generalize inB (s.extract i (i + n)) kwT = b at *
  have g0 : (97 : Int) ≤ (s[i].toNat : Int) := by unfold isSmall at h1; simp at h1; omega
  have g1 : (s[i].toNat : Int) ≤ 122 := by unfold isSmall at h1; simp at h1; omega
  have HO := Lib.hid hO; have Hsp := Lib.hid hsp; have Hk := Lib.hid hkwc
  have hn1 : n ≤ s.size := by omega
  have hin : (i : Int) + n ≤ s.size := by omega
  clear hO hsp hkwc hc h1 hre hn hri
  go_enter Tryd.func38, Tryd.ntmps38
  go_wp2_with (go_at_call 71; refine (Hsp.out _).mono ?_; rintro e w' ⟨rfl, rfl⟩)
  go_region
  all_goals
    by_cases h20 : n ≤ 20
    · have h20' : (n : Int) ≤ 20 := by omega
      have HO' := HO.out
      rw [if_pos h20, HK.out] at HO'
      have HO' := Lib.hid HO'
      cases b
      all_goals
        go_wp2_with (go_at_call 72; refine (Hk.out _).mono ?_; rintro e w' ⟨rfl, rfl⟩)
        first
          | exact bodyPost_ret (v := .tuple #[.agg #[.int .i64 2, .string (s.extract i (i + n)), .int .i64 0, .int .i64 i], .int .i64 n, .bool true]) (by simp [results, Tryd.results38, go_sem]) rfl (onePost_some HO'.out rfl rfl rfl rfl (by omega) ((((Below.refl _ _).alloc (Nat.le_refl _) _).alloc (by simp) _).drew))
          | exact bodyPost_ret (v := .tuple #[.agg #[.int .i64 1, .string (s.extract i (i + n)), .int .i64 0, .int .i64 i], .int .i64 n, .bool true]) (by simp [results, Tryd.results38, go_sem]) rfl (onePost_some HO'.out rfl rfl rfl rfl (by omega) ((((Below.refl _ _).alloc (Nat.le_refl _) _).alloc (by simp) _).drew))
    · have h20' : decide ((n : Int) ≤ 20) = false := by simp; omega
      have HO' := HO.out
      rw [if_neg h20] at HO'
      have HO' := Lib.hid HO'
      cases b
      · go_wp2_with (go_at_call 72; refine (Hk.out _).mono ?_; rintro e w' ⟨rfl, rfl⟩)
        exact bodyPost_ret (v := .tuple #[.agg #[.int .i64 2, .string (s.extract i (i + n)), .int .i64 0, .int .i64 i], .int .i64 n, .bool false]) (by simp [results, Tryd.results38, go_sem]) rfl (onePost_none HO'.out _ _ _ _ _ ((((Below.refl _ _).alloc (Nat.le_refl _) _).alloc (by simp) _).drew))
      · go_wp2_with (go_at_call 72; refine (Hk.out _).mono ?_; rintro e w' ⟨rfl, rfl⟩)
        exact bodyPost_ret (v := .tuple #[.agg #[.int .i64 1, .string (s.extract i (i + n)), .int .i64 0, .int .i64 i], .int .i64 n, .bool false]) (by simp [results, Tryd.results38, go_sem]) rfl (onePost_none HO'.out _ _ _ _ _ ((((Below.refl _ _).alloc (Nat.le_refl _) _).alloc (by simp) _).drew))

set_option maxRecDepth 100000 in
set_option maxHeartbeats 3200000 in
theorem refOne_great (s : ByteArray) (i : Nat) (w : World) (hi : i < s.size) (hs : s.size ≤ maxLen) (h0 : isSmall (byteAt s i) = false) (h1 : isGreat (byteAt s i) = true) :
    Calls Tryd.prog 38 #[.string s, .int .i64 i] w (OnePost w i (one kwB numB s i)) := by
  have hs' := hs
  unfold maxLen at hs'
  have hc := byteAt_get s i hi
  have h255 := byte_le s[i]
  have hr1 := runEnd_ge isCaps s i; have hr2 := runEnd_le isCaps s i (by omega)
  have hre := runEnd_step isCaps s i hi (great_caps _ h1)
  have hri := runEnd_ge isCaps s (i + 1)
  have hsp := fun w' => span2_any s i w' hs (by omega)
  have hO : one kwB numB s i = (if runEnd isCaps s (i + 1) - i ≤ 20 then some (⟨3, s.extract i (runEnd isCaps s (i + 1)), 0, i⟩, runEnd isCaps s (i + 1)) else none) := by
    unfold one; simp only; rw [if_neg (by rw [h0]; decide), if_pos h1]
  rw [hre] at hsp hr2
  generalize runEnd isCaps s (i + 1) = j at *
  obtain ⟨n, hn⟩ : ∃ n, n = j - i := ⟨_, rfl⟩
  obtain rfl : j = i + n := by omega
  rw [Nat.add_sub_cancel_left] at hsp hO
  have hext : (s.extract i (i + n)).size ≤ maxLen := by rw [size_extract s i _ (by omega) hr2]; unfold maxLen; omega
  have g0 : (65 : Int) ≤ (s[i].toNat : Int) := by unfold isGreat at h1; simp at h1; omega
  have g1 : (s[i].toNat : Int) ≤ 90 := by unfold isGreat at h1; simp at h1; omega
  have g2 : (s[i].toNat : Int) < 97 := by omega
  have HO := Lib.hid hO; have Hsp := Lib.hid hsp
  have hn1 : n ≤ s.size := by omega
  have hin : (i : Int) + n ≤ s.size := by omega
  clear hO hsp hc h1 h0 hre hn hri
  go_enter Tryd.func38, Tryd.ntmps38
  go_wp2_with (go_at_call 71; refine (Hsp.out _).mono ?_; rintro e w' ⟨rfl, rfl⟩)
  go_region
  all_goals
    by_cases h20 : n ≤ 20
    · have h20' : (n : Int) ≤ 20 := by omega
      have HO' := HO.out
      rw [if_pos h20] at HO'
      have HO' := Lib.hid HO'
      go_wp2_with fail
      exact bodyPost_ret (v := .tuple #[.agg #[.int .i64 3, .string (s.extract i (i + n)), .int .i64 0, .int .i64 i], .int .i64 n, .bool true]) (by simp [results, Tryd.results38, go_sem]) rfl (onePost_some HO'.out rfl rfl rfl rfl (by omega) ((((Below.refl _ _).alloc (Nat.le_refl _) _).alloc (by simp) _).drew))
    · have h20' : decide ((n : Int) ≤ 20) = false := by simp; omega
      have HO' := HO.out
      rw [if_neg h20] at HO'
      have HO' := Lib.hid HO'
      go_wp2_with fail
      exact bodyPost_ret (v := .tuple #[.agg #[.int .i64 3, .string (s.extract i (i + n)), .int .i64 0, .int .i64 i], .int .i64 n, .bool false]) (by simp [results, Tryd.results38, go_sem]) rfl (onePost_none HO'.out _ _ _ _ _ ((((Below.refl _ _).alloc (Nat.le_refl _) _).alloc (by simp) _).drew))

set_option maxRecDepth 100000 in
set_option maxHeartbeats 3200000 in
theorem refOne_digit (s : ByteArray) (i : Nat) (w : World) (hi : i < s.size) (hs : s.size ≤ maxLen) (h0 : isSmall (byteAt s i) = false) (h00 : isGreat (byteAt s i) = false) (h1 : isDigit (byteAt s i) = true) :
    Calls Tryd.prog 38 #[.string s, .int .i64 i] w (OnePost w i (one kwB numB s i)) := by
  have hs' := hs
  unfold maxLen at hs'
  have hc := byteAt_get s i hi
  have h255 := byte_le s[i]
  have hr1 := runEnd_ge isDigit s i; have hr2 := runEnd_le isDigit s i (by omega)
  have hre := runEnd_step isDigit s i hi h1
  have hri := runEnd_ge isDigit s (i + 1)
  have hsp := fun w' => span3_any s i w' hs (by omega)
  have hO : one kwB numB s i = (match numB (s.extract i (runEnd isDigit s (i + 1))) with | some n => some (⟨4, ByteArray.empty, n, i⟩, runEnd isDigit s (i + 1)) | none => none) := by
    unfold one; simp only; rw [if_neg (by rw [h0]; decide), if_neg (by rw [h00]; decide), if_pos h1]; cases numB (s.extract i (runEnd isDigit s (i + 1))) <;> rfl
  rw [hre] at hsp hr2
  generalize runEnd isDigit s (i + 1) = j at *
  obtain ⟨n, hn⟩ : ∃ n, n = j - i := ⟨_, rfl⟩
  obtain rfl : j = i + n := by omega
  rw [Nat.add_sub_cancel_left] at hsp
  have hext : (s.extract i (i + n)).size ≤ maxLen := by rw [size_extract s i _ (by omega) hr2]; unfold maxLen; omega
  have g0 : (48 : Int) ≤ (s[i].toNat : Int) := by unfold isDigit at h1; simp at h1; omega
  have g1 : (s[i].toNat : Int) ≤ 57 := by unfold isDigit at h1; simp at h1; omega
  have g2 : (s[i].toNat : Int) < 97 := by omega
  have g3 : (s[i].toNat : Int) < 65 := by omega
  have Hsp := Lib.hid hsp
  have hn1 : n ≤ s.size := by omega
  have hin : (i : Int) + n ≤ s.size := by omega
  clear hsp hc h1 h0 h00 hre hn hri
  cases hv : numB (s.extract i (i + n)) with
  | none =>
    rw [hv] at hO
    have HO' := Lib.hid hO
    have HP := Lib.hid fun w' => refParse_no (s.extract i (i + n)) w' hext (fun m h => by rw [numB_of h] at hv; cases hv)
    clear hO hv hext
    go_enter Tryd.func38, Tryd.ntmps38
    go_wp2_with (first | (go_at_call 71; refine (Hsp.out _).mono ?_; rintro e w' ⟨rfl, rfl⟩) | (go_at_call 73; refine (HP.out _).mono ?_; rintro e w' ⟨rfl, rfl⟩))
    exact bodyPost_ret (v := .tuple #[.agg #[.int .i64 4, .string ⟨#[]⟩, .int .i64 0, .int .i64 i], .int .i64 n, .bool false]) (by simp [results, Tryd.results38, go_sem]) rfl (onePost_none HO'.out _ _ _ _ _ ((((Below.refl _ _).alloc (Nat.le_refl _) _).alloc (by simp) _)))
  | some v =>
    rw [hv] at hO
    have HO' := Lib.hid hO
    have hIs := numB_some hv
    have hp : ∀ w', Calls Tryd.prog 73 #[.string (s.extract i (i + n))] w' fun e w2 => e = .returned (.tuple #[.int .i64 (v : Nat), .int .i64 0]) ∧ w' = w2 := fun w' => by rw [hIs.1]; exact refParse_yes v w' hIs.2
    have HP := Lib.hid hp
    clear hO hv hext hIs hp
    go_enter Tryd.func38, Tryd.ntmps38
    go_wp2_with (first | (go_at_call 71; refine (Hsp.out _).mono ?_; rintro e w' ⟨rfl, rfl⟩) | (go_at_call 73; refine (HP.out _).mono ?_; rintro e w' ⟨rfl, rfl⟩))
    exact bodyPost_ret (v := .tuple #[.agg #[.int .i64 4, .string ⟨#[]⟩, .int .i64 v, .int .i64 i], .int .i64 n, .bool true]) (by simp [results, Tryd.results38, go_sem]) rfl (onePost_some HO'.out rfl rfl rfl rfl (by omega) ((((Below.refl _ _).alloc (Nat.le_refl _) _).alloc (by simp) _)))

set_option maxRecDepth 100000 in
set_option maxHeartbeats 3200000 in
theorem refOne_sign (s : ByteArray) (i : Nat) (w : World) (hi : i < s.size) (hs : s.size ≤ maxLen) (h0 : isSmall (byteAt s i) = false) (h00 : isGreat (byteAt s i) = false) (h000 : isDigit (byteAt s i) = false) :
    Calls Tryd.prog 38 #[.string s, .int .i64 i] w (OnePost w i (one kwB numB s i)) := by
  have hs' := hs
  unfold maxLen at hs'
  have hc := byteAt_get s i hi
  have h255 := byte_le s[i]
  have hO : one kwB numB s i = (if isSign (byteAt s i) then some (⟨5, s.extract i (i + 1), 0, i⟩, i + 1) else none) := by
    unfold one; simp only; rw [if_neg (by rw [h0]; decide), if_neg (by rw [h00]; decide), if_neg (by rw [h000]; decide)]
  have hcl : s[i].toNat < 48 ∨ (58 ≤ s[i].toNat ∧ s[i].toNat < 65) ∨ (91 ≤ s[i].toNat ∧ s[i].toNat < 97) ∨ 123 ≤ s[i].toNat := by
    rw [hc] at h0 h00 h000
    unfold isSmall at h0; unfold isGreat at h00; unfold isDigit at h000
    simp at h0 h00 h000; omega
  have hsg : ∀ w', Calls Tryd.prog 74 #[.int .u8 (s[i].toNat : Nat)] w' fun e w2 => e = .returned (.bool (isSign (byteAt s i))) ∧ w' = w2 := fun w' => by rw [hc]; exact refSign_any _ w' h255
  have hi1 : (i : Int) + 1 ≤ s.size := by omega
  obtain ⟨n, hn⟩ : ∃ n, n = 1 := ⟨_, rfl⟩
  cases hb : isSign (byteAt s i)
  · rw [hb] at hO hsg
    rw [if_neg (by decide)] at hO
    have HO' := Lib.hid hO
    have Hsg := Lib.hid hsg
    clear hO hsg hb hc h0 h00 h000 hn
    rcases hcl with h | ⟨h, h'⟩ | ⟨h, h'⟩ | h
    all_goals
      go_enter Tryd.func38, Tryd.ntmps38
      go_wp2_with fail
      go_region
    all_goals
      go_wp2_with fail
      go_region_with (go_at_call 74; refine (Hsg.out _).mono ?_; rintro e w' ⟨rfl, rfl⟩)
    all_goals
      go_wp2_with fail
      refine bodyPost_ret (v := .tuple #[.agg #[.int .i64 5, .string (s.extract i (i + 1)), .int .i64 0, .int .i64 i], .int .i64 1, .bool false]) (by simp [results, Tryd.results38, go_sem]) rfl (onePost_none HO'.out _ _ _ _ _ ?_)
      first
        | exact (((Below.refl _ _).alloc (Nat.le_refl _) _).alloc (by simp) _)
        | exact (((Below.refl _ _).alloc (Nat.le_refl _) _).alloc (by simp) _).drew
        | exact ((((Below.refl _ _).alloc (Nat.le_refl _) _).alloc (by simp) _).drew).drew
  · rw [hb] at hO hsg
    rw [if_pos rfl] at hO
    have HO' := Lib.hid hO
    have Hsg := Lib.hid hsg
    clear hO hsg hb hc h0 h00 h000 hn
    rcases hcl with h | ⟨h, h'⟩ | ⟨h, h'⟩ | h
    all_goals
      go_enter Tryd.func38, Tryd.ntmps38
      go_wp2_with fail
      go_region
    all_goals
      go_wp2_with fail
      go_region_with (go_at_call 74; refine (Hsg.out _).mono ?_; rintro e w' ⟨rfl, rfl⟩)
    all_goals
      go_wp2_with fail
      refine bodyPost_ret (v := .tuple #[.agg #[.int .i64 5, .string (s.extract i (i + 1)), .int .i64 0, .int .i64 i], .int .i64 1, .bool true]) (by simp [results, Tryd.results38, go_sem]) rfl (onePost_some HO'.out rfl rfl rfl rfl (by omega) ?_)
      first
        | exact (((Below.refl _ _).alloc (Nat.le_refl _) _).alloc (by simp) _)
        | exact (((Below.refl _ _).alloc (Nat.le_refl _) _).alloc (by simp) _).drew
        | exact ((((Below.refl _ _).alloc (Nat.le_refl _) _).alloc (by simp) _).drew).drew
end Go.Proofs.YteijndfacjgfbaaDoor
