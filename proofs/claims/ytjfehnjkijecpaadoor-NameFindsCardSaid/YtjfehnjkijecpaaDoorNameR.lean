/-
  The document's answer on what is fresh.
-/
import Derived.Test.YtjfehnjkijecpaaDoorFresh
namespace Go.Proofs.YtjfehnjkijecpaaDoor
open Go.RowKit
set_option linter.unusedVariables false

theorem inL_at (l : List ByteArray) (x : ByteArray) (h : inL l x = true) : ∃ k : Nat, k < l.length ∧ findI x l = (k : Nat) := by
  unfold inL seenB at h
  rw [List.take_length] at h
  obtain ⟨z, hz, h2⟩ := List.any_eq_true.1 h
  have h3 : l.findIdx (fun z => z.toList == x.toList) < l.length := List.findIdx_lt_length.2 ⟨z, hz, h2⟩
  exact ⟨_, h3, by unfold findI; rw [if_pos h3]⟩
theorem inL_not (l : List ByteArray) (x : ByteArray) (h : inL l x = false) : findI x l = -1 := by
  unfold inL seenB at h
  rw [List.take_length] at h
  refine findI_not x l fun j hj _ => ?_
  have := List.any_eq_false.1 h l[j] (List.getElem_mem hj)
  simpa using this

set_option maxRecDepth 100000 in
set_option maxHeartbeats 1600000 in
theorem refFresh_any (s : ByteArray) (v : Value) (l : List ByteArray) (w : World) (hs : s.size ≤ 1000) (hl : l.length ≤ 1000) (hr : Row w w.heap.size 1 v l.length (sv l)) :
    Calls Tryd.prog 29 #[.string s, v] w fun e w' => (∃ m, IsFresh s l m ∧ e = .returned (.string (cand s m))) ∧ Below w.heap.size w w' := by
  have Hr := Lib.hid hr; clear hr
  go_enter Tryd.func29, Tryd.ntmps29
  go_wp2
  go_loopw [5, 6] (fun f n wx => ∃ m : Nat, m ≤ l.length ∧ f = .string (cand s m) ∧ n = .int .i64 (m + 1 : Nat) ∧ Below w.heap.size w wx ∧ Hid (∀ j, j < m → inL l (cand s j) = true))
    (fun _ n _ => l.length + 2 - (intOf n).toNat)
  case atStart => exact ⟨0, Nat.zero_le _, rfl, rfl, Below.refl _ _, Lib.hid (fun j hj => by omega)⟩
  case round =>
    obtain ⟨m, hm, rfl, rfl, hbx, Hm⟩ := hrel
    have hcs := cand_size s m (by omega)
    have hF := refFind_any (cand s m) v l _ wr (by unfold maxLen; omega) (Hr.out.below hbx)
    cases hsn : inL l (cand s m)
    · rw [inL_not _ _ hsn] at hF
      have HF : Hid (IsFresh s l m) := ⟨Hm.out, hsn⟩
      clear hsn
      go_wp2_with fail
      refine hF.mono ?_
      rintro e w2 ⟨rfl, rfl⟩
      go_wp2_with fail
      go_ret
      exact ⟨⟨m, HF.out, rfl⟩, hbx⟩
    · obtain ⟨k, hk, hfk⟩ := inL_at _ _ hsn
      rw [hfk] at hF
      have hnext := Lib.hid (fstep s l m Hm.out hsn)
      have hle := fresh_le s l (m + 1) hnext.out
      have Hn := Lib.hid (cand_next s m)
      have hd20 := decS_size' (m + 1) (by omega)
      have hk0 : (0 : Int) ≤ (k : Int) := by omega
      clear hsn hfk
      go_wp2_with fail
      refine hF.mono ?_
      rintro e w2 ⟨rfl, rfl⟩
      go_wp2_with fail
      refine (baseItoa_any (m + 1) _ (by omega)).mono ?_
      rintro e w2 ⟨rfl, hb2⟩
      have hb3 := hbx.trans (hb2.mono hbx.size)
      have hz1 : s.size + (decS (m + 1)).size ≤ 9223372036854775807 := by omega
      have hz2 : (s.size : Int) + ((decS (m + 1)).size : Int) ≤ 9223372036854775807 := by omega
      have hm1 : ((m : Int) + 1 + 1) ≤ 9223372036854775807 := by omega
      go_wp2_with fail
      go_roundw
      case rel => exact ⟨m + 1, hle, by rw [Hn.out], by go_num, hb3, hnext⟩
      case measure => simp [intOf]; omega
end Go.Proofs.YtjfehnjkijecpaaDoor
