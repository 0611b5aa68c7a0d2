/-
  What is fresh: package name's walk and the document's.
-/
import Derived.Test.YtjfehnjkijecpaaDoorNameM
import Derived.Test.YtjfehnjkijecpaaDoorDigitM
namespace Go.Proofs.YtjfehnjkijecpaaDoor
open Go.RowKit Go.Maps Go.WideMaps
set_option linter.unusedVariables false

/-- The text, or the text with a number behind it. -/
def cand (s : ByteArray) (n : Nat) : ByteArray := if n = 0 then s else s ++ decS n
def inL (l : List ByteArray) (x : ByteArray) : Bool := seenB l l.length x
theorem inL_mem (l : List ByteArray) (x : ByteArray) (h : inL l x = true) : x.toList ∈ l.map ByteArray.toList := by
  unfold inL seenB at h
  rw [List.take_length] at h
  obtain ⟨z, hz, h2⟩ := List.any_eq_true.1 h
  exact List.mem_map.2 ⟨z, hz, eq_of_beq h2⟩
theorem cand_list (s : ByteArray) (n : Nat) : (cand s n).toList = s.toList ++ (if n = 0 then [] else Lib.decDigits n) := by
  unfold cand
  split
  · simp
  · rw [ByteArray.toList_eq, ByteArray.toList_eq, ByteArray.data_append, Array.toList_append]; rfl
theorem cand_inj (s : ByteArray) (i j : Nat) (h : (cand s i).toList = (cand s j).toList) : i = j := by
  rw [cand_list, cand_list] at h
  have h2 := List.append_cancel_left h
  split at h2 <;> split at h2
  · omega
  · exact absurd h2.symm (dec_ne j)
  · exact absurd h2 (dec_ne i)
  · have := congrArg val h2
    rw [val_dec, val_dec] at this
    exact this
theorem pigeon {α : Type} [BEq α] [LawfulBEq α] (f : Nat → α) (m : Nat) : ∀ (l : List α) (hinj : ∀ i j, f i = f j → i = j) (h : ∀ j, j < m → f j ∈ l), m ≤ l.length := by
  induction m with
  | zero => intro l _ _; omega
  | succ m ih =>
    intro l hinj h
    have h1 := ih (l.erase (f m)) hinj (fun j hj => (List.mem_erase_of_ne (fun e => by have := hinj j m e; omega)).2 (h j (by omega)))
    have h2 := List.length_erase_of_mem (h m (by omega))
    have h3 : 0 < l.length := List.length_pos_of_mem (h m (by omega))
    omega
theorem fresh_le (s : ByteArray) (l : List ByteArray) (m : Nat) (h : ∀ j, j < m → inL l (cand s j) = true) : m ≤ l.length := by
  have := pigeon (fun j => (cand s j).toList) m (l.map ByteArray.toList) (cand_inj s) (fun j hj => inL_mem l _ (h j hj))
  simpa using this
theorem fstep (s : ByteArray) (l : List ByteArray) (m : Nat) (h : ∀ j, j < m → inL l (cand s j) = true) (hm : inL l (cand s m) = true) : ∀ j, j < m + 1 → inL l (cand s j) = true := by
  intro j hj
  rcases Nat.lt_or_ge j m with h1 | h1
  · exact h j h1
  · obtain rfl : j = m := by omega
    exact hm
def IsFresh (s : ByteArray) (l : List ByteArray) (m : Nat) : Prop := (∀ j, j < m → inL l (cand s j) = true) ∧ inL l (cand s m) = false
theorem fresh_one (s : ByteArray) (l : List ByteArray) (m n : Nat) (h1 : IsFresh s l m) (h2 : IsFresh s l n) : m = n := by
  rcases Nat.lt_trichotomy m n with h | h | h
  · have := h2.1 m h; rw [h1.2] at this; cases this
  · exact h
  · have := h1.1 n h; rw [h2.2] at this; cases this
theorem decS_size' (n : Nat) (h : n < 18446744073709551616) : (decS n).size ≤ 20 := by
  show (Lib.decDigits n).toArray.size ≤ 20
  simpa using dec_len n h
theorem cand_size (s : ByteArray) (n : Nat) (h : n < 18446744073709551616) : (cand s n).size ≤ s.size + 20 := by
  unfold cand
  split
  · omega
  · rw [ByteArray.size_append]; have := decS_size' n h; omega
theorem cand_next (s : ByteArray) (m : Nat) : s ++ decS (m + 1) = cand s (m + 1) := by unfold cand; rw [if_neg (by omega)]
theorem grown_of {w w' : World} (h : Below w.heap.size w w') : w.grownBy w' none := ⟨h.os, h.tape, h.output, h.size, fun i hi _ => h.block i hi⟩

set_option maxRecDepth 100000 in
set_option maxHeartbeats 1600000 in
theorem fresh_any (s : ByteArray) (v : Value) (l : List ByteArray) (w : World) (hs : s.size ≤ 1000) (hl : l.length ≤ 1000) (hsz : ∀ x ∈ l, x.size ≤ maxLen) (hr : Row w w.heap.size 1 v l.length (sv l)) (htab : Tab10 w) :
    Calls Tryd.prog 28 #[.string s, v] w fun e w' => (∃ m, IsFresh s l m ∧ e = .returned (.string (cand s m))) ∧ Below w.heap.size w w' := by
  obtain ⟨ao, c, rfl, hc1, hc2⟩ := hr.val
  have Ht := Lib.hid htab; clear htab
  have hl63 : l.length ≤ 9223372036854775807 := by omega
  have hmm := @run_makeMap Tryd.prog
  go_enter Tryd.func28, Tryd.ntmps28
  go_wp2
  go_loopw [15] (fun i wr => ∃ (k : Nat) (D : DataW Unit), k ≤ l.length ∧ i = .int .i64 k ∧ wr.ownsMap Tryd.prog 9 (plainElem Tryd.prog 3) w.heap.size k D ∧ Hid (Knows D l k) ∧ Below w.heap.size w wr)
    (fun i _ => l.length - (intOf i).toNat)
  case atStart => exact ⟨0, _, Nat.zero_le _, rfl, World.ownsMap_made _ _ _ _, Lib.hid (knows_zero l), (Below.refl _ _).alloc (Nat.le_refl _) _⟩
  case round =>
    obtain ⟨k, D, hk, rfl, hown, Hkn, hbel⟩ := hrel
    by_cases hlt : k < l.length
    · have hrk := hr.below hbel
      obtain ⟨b, off, rfl, hbB, _⟩ := hrk.at (by rw [sv_length]; omega)
      have hc := hrk.cell k _ (sv_at l k hlt)
      have hkey : keyOf Tryd.prog 9 (.string l[k]) = some (kx l[k]) := keyOf_string_mk Tryd.underlying9 (hsz _ (List.getElem_mem hlt))
      have Hr := Lib.hid hr; have Hrk := Lib.hid hrk
      clear hr hrk
      have Hp := Lib.hid fun d => knows_put Hkn.out hlt d
      go_wp2_with (first
        | (at_mapUpdate; refine wpList_mapUpdate_own _ rfl _ _ _ 57 rfl 9 3 keyLaw Tryd.underlying57 _ w.heap.size k _ rfl hown (by unfold maxLen; omega) _ _ _ rfl rfl hkey _ [] (plainElem_int Tryd.underlying3 (WalkArith.wf_i64 (by omega))) ?_; intro w1 hown1 hgrow1)
        | go_in)
      go_roundw
      case rel => exact ⟨k + 1, _, by omega, by go_num, hown1, Lib.hid (Hp.out _), hbel.grown hgrow1 hbel.size (fun j hj => by cases hj; exact Nat.le_refl _)⟩
      case measure => simp [intOf]; omega
    · obtain rfl : k = l.length := by omega
      obtain ⟨wo, rfl⟩ : ∃ wo : World, wo = wr := ⟨_, rfl⟩
      go_wp2
      go_loopw [8, 9] (fun f n wx => ∃ m : Nat, m ≤ l.length ∧ f = .string (cand s m) ∧ n = .int .i64 (m + 1 : Nat) ∧ wx.ownsMap Tryd.prog 9 (plainElem Tryd.prog 3) w.heap.size l.length D ∧ Below w.heap.size w wx ∧ Hid (∀ j, j < m → inL l (cand s j) = true))
        (fun _ n _ => l.length + 2 - (intOf n).toNat)
      case atStart => exact ⟨0, Nat.zero_le _, rfl, rfl, hown, hbel, Lib.hid (fun j hj => by omega)⟩
      case round =>
        obtain ⟨m, hm, rfl, rfl, hownx, hbx, Hm⟩ := hrel
        have hcs := cand_size s m (by omega)
        have hkey : keyOf Tryd.prog 9 (.string (cand s m)) = some (kx (cand s m)) := keyOf_string_mk Tryd.underlying9 (by unfold maxLen; omega)
        have hhas : Maps.has D (kx (cand s m)) = inL l (cand s m) := Hkn.out.2 _
        cases hsn : inL l (cand s m)
        · rw [hsn] at hhas
          have HF : Hid (IsFresh s l m) := ⟨Hm.out, hsn⟩
          clear hsn
          go_wp2_with (first
            | (at_lookup; refine wpList_lookup_own_ok_int _ rfl _ _ 57 rfl 9 3 .i64 keyLaw Tryd.underlying57 Tryd.underlying3 (zeroInt _) w.heap.size l.length D rfl hownx _ _ rfl hkey ?_; intro c hat hwc)
            | go_in)
          go_ret
          exact ⟨⟨m, HF.out, rfl⟩, hbx⟩
        · rw [hsn] at hhas
          have hnext := Lib.hid (fstep s l m Hm.out hsn)
          have hle := fresh_le s l (m + 1) hnext.out
          have Hn := Lib.hid (cand_next s m)
          have hd20 := decS_size' (m + 1) (by omega)
          clear hsn
          go_wp2_with (first
            | (at_lookup; refine wpList_lookup_own_ok_int _ rfl _ _ 57 rfl 9 3 .i64 keyLaw Tryd.underlying57 Tryd.underlying3 (zeroInt _) w.heap.size l.length D rfl hownx _ _ rfl hkey ?_; intro c hat hwc)
            | fail)
          refine (itoa_any (m + 1) _ (by omega) (Ht.out.below hbx (Nat.le_refl _))).mono ?_
          rintro e w2 ⟨rfl, hb2⟩
          have hown2 := hownx.kept (grown_of hb2) (by simp)
          have hb3 := hbx.trans (hb2.mono hbx.size)
          have hz1 : s.size + (decS (m + 1)).size ≤ 9223372036854775807 := by omega
          have hz2 : (s.size : Int) + ((decS (m + 1)).size : Int) ≤ 9223372036854775807 := by omega
          have hm1 : ((m : Int) + 1 + 1) ≤ 9223372036854775807 := by omega
          go_wp2_with fail
          go_roundw
          case rel => exact ⟨m + 1, hle, by rw [Hn.out], by go_num, hown2, hb3, hnext⟩
          case measure => simp [intOf]; omega
end Go.Proofs.YtjfehnjkijecpaaDoor
