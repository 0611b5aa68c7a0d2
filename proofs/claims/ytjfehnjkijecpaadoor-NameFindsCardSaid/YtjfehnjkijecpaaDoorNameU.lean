/-
  The document's answer on what stands twice.
-/
import Derived.Test.YtjfehnjkijecpaaDoorNameR
import Derived.Deep.DeepCutAuto
namespace Go.Proofs.YtjfehnjkijecpaaDoor
open Go.RowKit
set_option linter.unusedVariables false

theorem inL_take (l : List ByteArray) (k : Nat) (x : ByteArray) : inL (l.take k) x = seenB l k x := by
  unfold inL seenB; rw [List.take_length]
theorem sv_take (l : List ByteArray) (k : Nat) : (sv l).take (k * 1) = sv (l.take k) := by simp [sv, List.map_take]

set_option maxRecDepth 100000 in
set_option maxHeartbeats 4000000 in
theorem refTwice_any (v : Value) (l : List ByteArray) (w : World) (hs : ∀ x ∈ l, x.size ≤ maxLen) (hr : Row w w.heap.size 1 v l.length (sv l)) :
    Calls Tryd.prog 27 #[v] w fun e w' => e = .returned (.int .i64 (twI l)) ∧ Below w.heap.size w w' := by
  obtain ⟨ao, c, rfl, hc1, hc2⟩ := hr.val
  have hl63 : l.length ≤ 9223372036854775807 := by unfold maxLen at hc2; omega
  have Hr := Lib.hid hr; clear hr
  go_enter Tryd.func27, Tryd.ntmps27
  go_wp2
  go_loopw [3] (fun i wr => ∃ k : Nat, k ≤ l.length ∧ i = .int .i64 k ∧ Below w.heap.size w wr ∧ Hid (∀ j (hj : j < l.length), j < k → seenB l j l[j] = false))
    (fun i _ => l.length - (intOf i).toNat)
  case atStart => exact ⟨0, Nat.zero_le _, rfl, Below.refl _ _, Lib.hid (fun j _ hj => by omega)⟩
  case round =>
    obtain ⟨k, hk, rfl, hbel, Hall⟩ := hrel
    by_cases hlt : k < l.length
    · have hrk := Hr.out.below hbel
      obtain ⟨b, off, rfl, hbB, _⟩ := hrk.at (by rw [sv_length]; omega)
      have hc := hrk.cell k _ (sv_at l k hlt)
      have hrt := hrk.take k (by omega)
      rw [sv_take] at hrt
      have Hlt : Hid ((l.take k).length = k) := by show _ = _; rw [List.length_take]; omega
      have hx := hs _ (List.getElem_mem hlt)
      have hF : ∀ wx, Below w.heap.size wr wx → Calls Tryd.prog 25 #[.string l[k], .slice (some ⟨b, off, none⟩) k c] wx fun e w' => e = .returned (.int .i64 (findI l[k] (l.take k))) ∧ wx = w' := by
        intro wx hb
        have := refFind_any l[k] (.slice (some ⟨b, off, none⟩) k c) (l.take k) w.heap.size wx hx
        rw [Hlt.out] at this
        exact this (hrt.below hb)
      have HF := Lib.hid hF
      clear hF hrt hrk
      have hk0 : (0 : Int) ≤ (k : Int) := by omega
      have hkc : (k : Int) ≤ (c : Int) := by omega
      go_upto_region 4 with fail
      go_cut [18] from 4 to 19 (fun s18 wx => s18 = .bool (decide (0 ≤ findI l[k] (l.take k))) ∧ Below w.heap.size wr wx)
      case first =>
        go_region_with (first | (go_at_call 25; refine (HF.out _ ?_).mono ?_; exact (Below.refl _ _).drew; rintro e w' ⟨rfl, rfl⟩))
        all_goals (go_wp2_with fail; go_meet; case rel => exact ⟨rfl, (Below.refl _ _).drew⟩)
      case rest =>
        obtain ⟨rfl, hb2⟩ := hcut
        cases hsn : seenB l k l[k]
        · have hf := inL_not (l.take k) l[k] (by rw [inL_take]; exact hsn)
          have hnext := Lib.hid (sstep l k hlt Hall.out hsn)
          rw [hf]
          have hb3 := hbel.trans hb2
          clear hsn hf
          go_wp2
          go_roundw
          case rel => exact ⟨k + 1, by omega, by go_num, hb3, hnext⟩
          case measure => simp [intOf]; omega
        · obtain ⟨m, hm, hf⟩ := inL_at (l.take k) l[k] (by rw [inL_take]; exact hsn)
          have HT := Lib.hid (twI_at l k hlt hsn Hall.out)
          have hd : decide (0 ≤ findI l[k] (l.take k)) = true := by rw [hf]; exact decide_eq_true (by omega)
          rw [hd]
          have hb3 := hbel.trans hb2
          clear hsn hf hd
          go_wp2
          go_ret
          exact ⟨ret_i HT.out.symm, hb3⟩
    · obtain rfl : k = l.length := by omega
      have HF := Lib.hid (twI_not l Hall.out)
      go_wp2
      go_ret
      exact ⟨ret_i HF.out.symm, hbel⟩
end Go.Proofs.YtjfehnjkijecpaaDoor
