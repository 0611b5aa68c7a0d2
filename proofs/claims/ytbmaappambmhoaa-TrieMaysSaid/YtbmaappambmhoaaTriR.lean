/-
  slices.Grow of nothing; slices.Concat of texts.
-/
import Derived.Test.YtbmaappambmhoaaTriC
import Derived.Lib.AppendZeros
namespace Go.Proofs.Ytbmaappambmhoaa
open Go.RowKit PK
set_option linter.unusedVariables false
set_option linter.unusedSimpArgs false
attribute [local go_sem ↓] append_appM

set_option maxHeartbeats 2000000 in
set_option maxRecDepth 100000 in
theorem grow_any (n : Nat) (hn : n ≤ 100000) (w : World) : Calls Try.prog 67 #[.slice none 0 0, .int .i64 n] w (OwnT w []) := by
  rcases Nat.eq_zero_or_pos n with rfl | hp
  · go_enter Try.func67, Try.ntmps67
    go_wp2_with fail
    go_ret
    exact ⟨_, rfl, World.ownsRow_nil _ _ _ _, Below.refl _ _⟩
  · obtain ⟨i0, hi, hz0, hz1, hz2⟩ := info_parts info_str
    have h0 : (0 : Int) < (n : Int) := by omega
    have h1 : ¬ ((n : Int) < 0) := by omega
    have h63 : (n : Int) ≤ 9223372036854775807 := by omega
    have happ0 := Lib.run_append_nil_zeros (P := Try.prog) w 22 3 22 9 i0 (.string ByteArray.empty) .i64 .i64 Try.underlying22 Try.underlying3 hi hz0 n hp (by rw [hz1]; decide) h63 (by rw [hz2]; omega)
    have hg1 := grownCap_ge w n 0 9
    have hg2 := grownCap_le_maxLen w n 0 9 (by unfold maxLen; omega)
    generalize grownCap w n 0 9 = c at *
    have happ := (show Sem.run Try.prog (appM _ _ _) _ = _ from happ0)
    have hsz : (Builtin.zeroCells (Value.cells (.string ByteArray.empty)) n ++ Builtin.zeroCells (Value.cells (.string ByteArray.empty)) (c - n)).size = c := by
      rw [Array.size_append, size_zeroCells, size_zeroCells]; show n * 1 + (c - n) * 1 = c; omega
    generalize Builtin.zeroCells (Value.cells (.string ByteArray.empty)) n ++ Builtin.zeroCells (Value.cells (.string ByteArray.empty)) (c - n) = cs at *
    have Hend : Hid (OwnT w [] (.returned (.slice (some ⟨w.heap.size, 0, none⟩) 0 c)) (w.drew.alloc (.cells cs 9))) := Lib.hid ⟨_, rfl, ⟨rfl, .inr ⟨w.heap.size, c, cs, rfl, Nat.le_refl _, heap_alloc_new w.drew _, Nat.zero_le _, hg2, by omega, by simp [svt]⟩⟩, (Below.refl w.heap.size w).drew.alloc (Nat.le_refl _) _⟩
    have hc63 : (c : Int) ≤ 9223372036854775807 := by unfold maxLen at hg2; omega
    have hnc : (n : Int) ≤ (c : Int) := by omega
    have hc0 : (0 : Int) ≤ (c : Int) := by omega
    clear happ0 hi hz0 hz1 hz2 hg2 hsz hn
    go_enter Try.func67, Try.ntmps67
    go_upto_region 5 with fail
    go_wp2_with fail
    go_ret
    exact Hend.out

theorem flat_take (S : List (List Tx)) (k : Nat) (hk : k < S.length) : (S.take (k + 1)).flatten = (S.take k).flatten ++ S[k] := by
  rw [List.take_succ_eq_append_getElem hk, List.flatten_append]; simp
theorem flat_le (S : List (List Tx)) (m : Nat) (h : ∀ l ∈ S, l.length ≤ m) : S.flatten.length ≤ S.length * m := by
  induction S with
  | nil => simp
  | cons l S ih =>
    have h1 := ih fun x hx => h x (List.mem_cons_of_mem _ hx)
    have h2 := h l List.mem_cons_self
    rw [List.flatten_cons, List.length_append, List.length_cons, Nat.succ_mul]; omega
set_option maxHeartbeats 2000000 in
set_option maxRecDepth 100000 in
theorem concat_any (v : Value) (S : List (List Tx)) (B : Nat) (w : World) (hB : B ≤ w.heap.size) (r : RR w B v S) (hl : S.length ≤ 1000) (hls : ∀ l ∈ S, l.length ≤ 50) :
    Calls Try.prog 52 #[v] w (OwnT w S.flatten) := by
  obtain ⟨ao, c, rfl, hc1, hc2⟩ := r.val
  have hl63 : S.length ≤ 9223372036854775807 := by omega
  have R := Lib.hid r; have Hls := Lib.hid hls
  have HF : Hid (∀ k, (S.take k).flatten.length ≤ 50000) := Lib.hid fun k => by
    have h1 := flat_le (S.take k) 50 fun l hl => hls l (List.mem_of_mem_take hl)
    have h2 : (S.take k).length * 50 ≤ 1000 * 50 := Nat.mul_le_mul_right 50 (by rw [List.length_take]; omega)
    omega
  clear r hls hc2
  go_enter Try.func52, Try.ntmps52
  go_wp2_with fail
  go_loop [3, 11] (fun sz i => ∃ k : Nat, k ≤ S.length ∧ i = .int .i64 k ∧ sz = .int .i64 ((S.take k).flatten.length : Nat)) (fun _ i => S.length - (intOf i).toNat)
  case atStart => exact ⟨0, Nat.zero_le _, rfl, rfl⟩
  case round =>
    obtain ⟨k, hk, rfl, rfl⟩ := hrel
    by_cases hlt : k < S.length
    · obtain ⟨b1, o1, a1, c1, rfl, hb1, c10, rk, hk1, hk2⟩ := R.out.get k hlt
      have hk0 : (k : Int) < (S.length : Int) := by omega
      have hk3 : (0 : Int) ≤ (k : Int) := by omega
      have Hn := Lib.hid (congrArg List.length (flat_take S k hlt))
      have h1 := HF.out k
      have h2 := Hls.out _ (List.getElem_mem hlt)
      have hlen2 : S[k].length ≤ 9223372036854775807 := by omega
      clear rk
      generalize S[k] = l at *
      have hq : ∃ q, (S.take k).flatten.length = q := ⟨_, rfl⟩
      obtain ⟨q, hq⟩ := hq
      rw [hq] at h1 ⊢
      have hw : wrap64 ((q : Int) + (l.length : Int)) = ((q + l.length : Nat) : Int) := by unfold wrap64; omega
      have hng : ¬ ((q : Int) + (l.length : Int) < 0) := Int.not_lt.2 (Int.add_nonneg (Int.natCast_nonneg _) (Int.natCast_nonneg _))
      have hng2 : decide ((q : Int) + (l.length : Int) < 0) = false := decide_eq_false hng
      have Hq : Hid (q = (S.take k).flatten.length) := Lib.hid hq.symm
      clear hq h1 h2
      go_wp2_with fail
      go_round
      case rel => exact ⟨k + 1, hlt, by go_num, by rw [Hn.out, List.length_append, ← Hq.out]; go_num⟩
      case measure => simp [intOf]; omega
    · obtain rfl : k = S.length := by omega
      have Hg := Lib.hid (grow_any (S.take S.length).flatten.length (by have := HF.out S.length; omega) w)
      rw [List.take_length] at Hg ⊢
      obtain ⟨q0, hq0⟩ : ∃ q, S.flatten.length = q := ⟨_, rfl⟩
      rw [hq0] at Hg ⊢
      clear hq0
      go_wp2_with fail
      refine (Hg.out).mono ?_
      rintro e w2 ⟨v2, rfl, own2, b2⟩
      have Own2 := Lib.hid own2; have B2 := Lib.hid b2
      clear own2 b2 Hg
      go_wp2_with fail
      go_loopw [6, 27] (fun o i wr => ∃ k q : Nat, k ≤ S.length ∧ i = .int .i64 k ∧ Hid ((S.take k).flatten.length = q) ∧ Hid (wr.ownsRow w.heap.size 9 1 o q (svt (S.take k).flatten)) ∧ Hid (Below w.heap.size w wr)) (fun _ i _ => S.length - (intOf i).toNat)
      case atStart => exact ⟨0, 0, Nat.zero_le _, rfl, Lib.hid rfl, Own2, B2⟩
      case round =>
        obtain ⟨k, q, hk, rfl, Hq, Hown, Hbel⟩ := hrel
        obtain ⟨oo, oc, rfl, ho1, ho2⟩ := owns_valP Hown.out
        by_cases hlt : k < S.length
        · obtain ⟨b1, o1, a1, c1, rfl, hb1, c10, rk, hk1, hk2⟩ := (R.out.below (Hbel.out.mono hB)).get k hlt
          obtain ⟨i0, hi, hz0, hz1, hz2⟩ := info_parts info_str
          have h1 : q ≤ 50000 := by rw [← Hq.out]; exact HF.out k
          have h2 := Hls.out _ (List.getElem_mem hlt)
          have hk0 : (k : Int) < (S.length : Int) := by omega
          have hk3 : (0 : Int) ≤ (k : Int) := by omega
          have Hn := Lib.hid (flat_take S k hlt)
          obtain ⟨v', w', e1, e2, e3, e4⟩ := run_append_row (P := Try.prog) wr 22 22 w.heap.size 9 i0 (.string ByteArray.empty) 1 16 Try.underlying22 hi hz0 hz1 hz2 rfl (by decide) _ _ _ Hown.out _ _ _ _ rk (svt_one _) (by unfold maxLen; omega) (by omega) Hbel.out.size
          have happ := (show Sem.run Try.prog (appM _ _ _) _ = _ from e1)
          have HB := Lib.hid (Hbel.out.grown e3 Hbel.out.size (fun g hg => (Hown.out.lt g hg).1))
          have Ho : Hid (w'.ownsRow w.heap.size 9 1 v' (q + S[k].length) (svt (S.take (k + 1)).flatten)) := Lib.hid (by rw [Hn.out, svt_append]; exact e2)
          have Hq2 : Hid ((S.take (k + 1)).flatten.length = q + S[k].length) := Lib.hid (by rw [Hn.out, List.length_append, Hq.out])
          clear e1 e2 e3 e4 rk h1 h2 hk1 hk2 hi hz0 hz1 hz2 Hn
          go_wp2_with fail
          go_roundw
          case rel => exact ⟨k + 1, _, hlt, by go_num, Hq2, Ho, HB⟩
          case measure => simp [intOf]; omega
        · obtain rfl : k = S.length := by omega
          rw [List.take_length] at Hown Hq
          go_wp2_with fail
          go_ret
          exact ⟨_, rfl, by rw [Hq.out]; exact Hown.out, Hbel.out⟩
end Go.Proofs.Ytbmaappambmhoaa
