/-
  The walk of package token's reader of one piece of a text: from label to label.
-/
import Derived.Test.YtapmjkgndojdfaaDoorTokP
namespace Go.Proofs.YtapmjkgndojdfaaDoor
open Go.RowKit LX
set_option linter.unusedVariables false

def kwR (s : ByteArray) : Bool := inB s resT
def sigT : List (List UInt8) := signT
theorem sigT_length : sigT.length = 19 := by decide
theorem gSig : Tryd.prog.globalNamed "gramarye/token.signs" = some 0 := by kernel_rfl
theorem sig_info : (Tryd.prog.info? 47).map (·.size) = some 19 := by kernel_rfl
theorem str_someT : (Tryd.prog.info? 9).isSome = true := by kernel_rfl
theorem str_infoT : ∃ d, Tryd.prog.info? 9 = some d := Option.isSome_iff_exists.1 str_someT
theorem str_cellsT : Tryd.prog.cellsOf 9 = 1 := by kernel_rfl
theorem signLen_at (s : ByteArray) (k : Nat) (hk : k < sigT.length) (hb : ∀ j (h : j < sigT.length), j < k → sigT[j].isPrefixOf s.data.toList = false) (h : sigT[k].isPrefixOf s.data.toList = true) : signLen s 0 = sigT[k].length := by
  have : signT.find? (fun x => x.isPrefixOf (s.data.toList.drop 0)) = some sigT[k] := by
    rw [List.find?_eq_some_iff_getElem]
    refine ⟨h, k, hk, rfl, fun j hj => ?_⟩
    have := hb j (by omega) hj
    rw [List.drop_zero]
    show (!(sigT[j].isPrefixOf s.data.toList)) = true
    rw [this]; rfl
  unfold signLen; rw [this]
theorem signLen_no (s : ByteArray) (hb : ∀ j (h : j < sigT.length), sigT[j].isPrefixOf s.data.toList = false) : signLen s 0 = 0 := by
  have : signT.find? (fun x => x.isPrefixOf (s.data.toList.drop 0)) = none := by
    rw [List.find?_eq_none]
    intro x hx
    obtain ⟨j, hj, rfl⟩ := List.getElem_of_mem hx
    rw [List.drop_zero]
    have := hb j hj
    simp only [Bool.not_eq_true]; exact this
  unfold signLen; rw [this]
theorem signLen_ext (s : ByteArray) (i : Nat) (hi : i ≤ s.size) : signLen (s.extract i s.size) 0 = signLen s i := by
  unfold signLen
  have hl : s.data.toList.length = s.size := by rw [Array.length_toList]; rfl
  have : (s.extract i s.size).data.toList.drop 0 = s.data.toList.drop i := by
    rw [List.drop_zero, ext_list, List.take_of_length_le (by rw [List.length_drop, hl]; exact Nat.le_refl _)]
  rw [this]
set_option maxRecDepth 100000 in
set_option maxHeartbeats 1600000 in
theorem tSign_any (s : ByteArray) (w : World) (hs : s.size ≤ maxLen) (hsg : StrsIs w 0 sigT) :
    Calls Tryd.prog 22 #[.string s] w fun e w' => e = .returned (.int .i64 (signLen s 0 : Nat)) ∧ w = w' := by
  obtain ⟨t, fr, hg⟩ := hsg
  obtain ⟨ds, hds⟩ := str_infoT
  have hix := run_index_strs 47 9 19 sigT Tryd.underlying47 Tryd.underlying9 hds str_cellsT
  generalize hT : (sigT.map fun z => Value.string (bs z)).toArray = cs at hg hix
  have hsz : cs.size = 19 := by rw [← hT]; simp [sigT_length]
  have hinfo : (Tryd.prog.info? 47).map (·.size) = some cs.size := by rw [hsz]; exact sig_info
  clear hds hT
  have Hix := Lib.hid hix; clear hix
  have HP := Lib.hid fun x w' => Tryd.strings_HasPrefix s x w'
  go_enter Tryd.func22, Tryd.ntmps22
  go_upto_region 2 with (refine wpList_load_row rfl 47 (.global 0) rfl 0 rfl t cs fr _ hg Tryd.underlying47 rfl hinfo ?_)
  go_loop [6] (fun i => ∃ k : Nat, k ≤ 19 ∧ i = .int .i64 k ∧ Hid (∀ j (h : j < sigT.length), j < k → sigT[j].isPrefixOf s.data.toList = false)) (fun i => 19 - (intOf i).toNat)
  case atStart => exact ⟨0, by omega, rfl, fun j _ hj => by omega⟩
  case round =>
    obtain ⟨k, hk, rfl, Hall⟩ := hrel
    by_cases hlt : k < 19
    · have hkl : k < sigT.length := by rw [sigT_length]; exact hlt
      have hgd : sigT.getD k [] = sigT[k] := by rw [List.getD_eq_getElem?_getD, List.getElem?_eq_getElem hkl, Option.getD_some]
      have hx := fun w => Hix.out k hlt sigT_length.symm w (bs sigT[k]) (by rw [hgd])
      have hpv := HP.out (bs sigT[k])
      have e : Lib.hasPrefix s.data.toList (bs sigT[k]).data.toList = sigT[k].isPrefixOf s.data.toList := by rw [bs_toList]; rfl
      simp only [e] at hpv
      have hszz : (bs sigT[k]).size = sigT[k].length := by show (sigT[k].toArray).size = _; simp
      cases hp : sigT[k].isPrefixOf s.data.toList
      · rw [hp] at hpv
        have HN : Hid (∀ j (h : j < sigT.length), j < k + 1 → sigT[j].isPrefixOf s.data.toList = false) := fun j h hj => by
          rcases (show j < k ∨ j = k from by omega) with h1 | rfl
          · exact Hall.out j h h1
          · exact hp
        have Hpv := Lib.hid hpv
        clear hp e hgd hpv hszz
        generalize bs sigT[k] = z at *
        go_wp2_with (go_at_call 32; refine (Hpv.out _).mono ?_; rintro e w' ⟨rfl, rfl⟩)
        go_round
        case rel => exact ⟨k + 1, by omega, by go_num, HN⟩
        case measure => simp [intOf]; omega
      · rw [hp] at hpv
        have HE := Lib.hid (signLen_at s k hkl Hall.out hp)
        have Hpv := Lib.hid hpv
        have HZ := Lib.hid hszz
        clear hp e hgd hpv hszz
        generalize bs sigT[k] = z at *
        go_wp2_with (go_at_call 32; refine (Hpv.out _).mono ?_; rintro e w' ⟨rfl, rfl⟩)
        go_ret
        exact ⟨ret_i (by rw [HE.out, ← HZ.out]), rfl⟩
    · obtain rfl : k = 19 := by omega
      have HE := Lib.hid (signLen_no s fun j h => Hall.out j h (by rw [sigT_length] at h; exact h))
      go_wp2_with fail
      go_ret
      exact ⟨ret_i (by rw [HE.out]; rfl), rfl⟩
def namedTV (s : ByteArray) (i j : Nat) : Value := .tuple (if s.size ≤ 40 then #[tokV (some ⟨if kwR s then 1 else 2, s, 0, i⟩), .int .i64 j, .int .i64 0] else #[tokV none, .int .i64 i, .int .i64 5])
set_option maxRecDepth 100000 in
set_option maxHeartbeats 1600000 in
theorem tNamed_any (s : ByteArray) (i j : Nat) (w : World) (hs : s.size ≤ maxLen) (hi : i ≤ 9223372036854775807) (hj : j ≤ 9223372036854775807) (hkw : StrsIs w 1 resT) :
    Calls Tryd.prog 20 #[.string s, .int .i64 i, .int .i64 j] w fun e w' => e = .returned (namedTV s i j) ∧ Below w.heap.size w w' := by
  have h1 := fun w' h => reserved_any s w' hs h
  unfold maxLen at hs
  have HK : Hid (kwR s = inB s resT) := rfl
  generalize inB s resT = b at *
  have Hkw := Lib.hid hkw; clear hkw
  have hb1 : Below w.heap.size w (w.alloc (.cells #[.int .i64 0, .string ByteArray.empty, .int .i64 0, .int .i64 0] 31)) := (Below.refl _ w).alloc (Nat.le_refl _) _
  have hk1 := Hkw.out.below hb1 (Nat.le_refl _)
  have H1 := Lib.hid h1; clear h1
  go_enter Tryd.func20, Tryd.ntmps20
  go_wp2_with fail
  refine (H1.out _ hk1).mono ?_
  rintro e w' ⟨rfl, rfl⟩
  by_cases hl : s.size ≤ 40
  · have hl' : (s.size : Int) ≤ 40 := by omega
    have HL := Lib.hid hl; clear hl
    cases b
    · have HV : Hid (namedTV s i j = .tuple #[.agg #[.int .i64 2, .string s, .int .i64 0, .int .i64 i], .int .i64 j, .int .i64 0]) := by show namedTV s i j = _; unfold namedTV; rw [if_pos HL.out, HK.out]; rfl
      clear HK HL
      go_wp2_with fail
      exact bodyPost_ret (v := .tuple #[.agg #[.int .i64 2, .string s, .int .i64 0, .int .i64 i], .int .i64 j, .int .i64 0]) (by simp [results, Tryd.results20, go_sem]) rfl ⟨by rw [HV.out], (Below.refl _ _).alloc (Nat.le_refl _) _⟩
    · have HV : Hid (namedTV s i j = .tuple #[.agg #[.int .i64 1, .string s, .int .i64 0, .int .i64 i], .int .i64 j, .int .i64 0]) := by show namedTV s i j = _; unfold namedTV; rw [if_pos HL.out, HK.out]; rfl
      clear HK HL
      go_wp2_with fail
      exact bodyPost_ret (v := .tuple #[.agg #[.int .i64 1, .string s, .int .i64 0, .int .i64 i], .int .i64 j, .int .i64 0]) (by simp [results, Tryd.results20, go_sem]) rfl ⟨by rw [HV.out], (Below.refl _ _).alloc (Nat.le_refl _) _⟩
  · have hl' : (40 : Int) < (s.size : Int) := by omega
    have HV : Hid (namedTV s i j = .tuple #[.agg #[.int .i64 0, .string ⟨#[]⟩, .int .i64 0, .int .i64 0], .int .i64 i, .int .i64 5]) := by show namedTV s i j = _; unfold namedTV; rw [if_neg hl]; rfl
    clear hl HK
    cases b
    all_goals
      go_wp2_with fail
      exact bodyPost_ret (v := .tuple #[.agg #[.int .i64 0, .string ⟨#[]⟩, .int .i64 0, .int .i64 0], .int .i64 i, .int .i64 5]) (by simp [results, Tryd.results20, go_sem]) rfl ⟨by rw [HV.out], (Below.refl _ _).alloc (Nat.le_refl _) _⟩
end Go.Proofs.YtapmjkgndojdfaaDoor
