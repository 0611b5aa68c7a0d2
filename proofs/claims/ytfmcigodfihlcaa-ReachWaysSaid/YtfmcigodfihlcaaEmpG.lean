/-
  Stage 10's sample, works, same.
-/
import Derived.Test.YtfmcigodfihlcaaLeaD
import Derived.Test.YtfmcigodfihlcaaEmpF
namespace Go.Proofs.Ytfmcigodfihlcaa
open Go.RowKit Go.Maps Go.WideMaps
set_option linter.unusedVariables false
set_option linter.unusedSimpArgs false

set_option maxHeartbeats 1000000 in
theorem same10_any (v1 v2 : Value) (a b : List Bool) (B1 B2 : Nat) (w : World) (hB1 : B1 ≤ w.heap.size) (hB2 : B2 ≤ w.heap.size) (r1 : Row w B1 1 v1 a.length (bools a)) (r2 : Row w B2 1 v2 b.length (bools b)) :
    Calls Try.prog 17 #[v1, v2] w (BoolB w (decide (a = b))) := by
  obtain ⟨ao, c, rfl, hc1, hc2⟩ := r1.val
  obtain ⟨bo, d, rfl, hd1, hd2⟩ := r2.val
  unfold maxLen at hc2 hd2
  have hl63 : a.length ≤ 9223372036854775807 := by omega
  have hl64 : b.length ≤ 9223372036854775807 := by omega
  have R1 := Lib.hid r1; have R2 := Lib.hid r2
  clear r1 r2
  by_cases hlen : a.length = b.length
  · have q1 : decide (a.length = b.length) = true := decide_eq_true hlen
    rw [← hlen]
    rw [← hlen] at R2
    have Hlen := Lib.hid hlen; clear hlen
    go_enter Try.func17, Try.ntmps17
    go_wp2_with fail
    go_loopw [5] (fun i wr => ∃ k : Nat, k ≤ a.length ∧ i = .int .i64 k ∧ Below w.heap.size w wr ∧ (∀ j (h1 : j < a.length) (h2 : j < b.length), j < k → a[j] = b[j])) (fun i _ => a.length - (intOf i).toNat)
    case atStart => exact ⟨0, Nat.zero_le _, rfl, Below.refl _ _, fun j _ _ h => by omega⟩
    case round =>
      obtain ⟨k, hk, rfl, hbel, hall⟩ := hrel
      have Hall := Lib.hid hall; clear hall
      by_cases hlt : k < a.length
      · have a1 := R1.out.below (hbel.mono hB1)
        have a2 := R2.out.below (hbel.mono hB2)
        have hltb : k < b.length := by rw [← Hlen.out]; exact hlt
        obtain ⟨b1, o1, rfl, hb1, _⟩ := a1.at (by rw [bools_length]; omega)
        obtain ⟨b2, o2, rfl, hb2, _⟩ := a2.at (by rw [bools_length]; omega)
        have c10 := a1.cell k _ (bools_at a k hlt)
        have c20 := a2.cell k _ (bools_at b k hltb)
        have hk0 : (k : Int) < (a.length : Int) := by omega
        have hk1 : (0 : Int) ≤ (k : Int) := by omega
        have Hst := Lib.hid (fun (h : a[k] = b[k]) j (h1 : j < a.length) (h2 : j < b.length) (h3 : j < k + 1) => if e : j = k then (by subst e; exact h) else Hall.out j h1 h2 (by omega))
        have Hno : Hid (a[k] ≠ b[k] → a ≠ b) := Lib.hid (fun h e => h (by subst e; rfl))
        clear a1 a2 Hall
        generalize a[k] = x at *
        generalize b[k] = y at *
        by_cases hxy : x = y
        · replace Hst := Lib.hid (Hst.out hxy)
          subst hxy
          clear Hno
          cases x
          all_goals
            go_wp2_with fail
            go_region
            all_goals
              go_wp2_with fail
              go_roundw
              case rel => exact ⟨k + 1, hlt, by go_num, by first | exact hbel.drew | exact hbel, Hst.out⟩
              case measure => simp [intOf]; omega
        · replace Hno := Lib.hid (Hno.out hxy)
          clear Hst
          cases x <;> cases y
          · exact absurd rfl hxy
          · clear hxy
            go_wp2_with fail
            go_region
            all_goals
              go_wp2_with fail
              go_ret
              exact ⟨ret_boolP (decide_eq_false Hno.out).symm, by first | exact hbel.drew | exact hbel⟩
          · clear hxy
            go_wp2_with fail
            go_region
            all_goals
              go_wp2_with fail
              go_ret
              exact ⟨ret_boolP (decide_eq_false Hno.out).symm, by first | exact hbel.drew | exact hbel⟩
          · exact absurd rfl hxy
      · obtain rfl : k = a.length := by omega
        have hs := Lib.hid (show a = b from List.ext_getElem Hlen.out fun j h1 h2 => Hall.out j h1 h2 h1)
        go_wp2_with fail
        go_ret
        exact ⟨ret_boolP (decide_eq_true hs.out).symm, hbel⟩
  · have q1 : decide (a.length = b.length) = false := decide_eq_false hlen
    have hne : a ≠ b := fun e => hlen (by rw [e])
    have Hne := Lib.hid hne; clear hne
    go_enter Try.func17, Try.ntmps17
    go_wp2_with fail
    go_ret
    exact ⟨ret_boolP (decide_eq_false Hne.out).symm, Below.refl _ _⟩

/-- The chapter's sample rules. -/
def smp10 : Bn := ⟨1, 1, [-1], [⟨0, [⟨true, 1⟩, ⟨false, 0⟩]⟩, ⟨0, []⟩]⟩
theorem may_smp10 : bmay smp10 = 0 := by decide
theorem fix_smp10 {st : List Bool} (h : Fix smp10 false st) : st = [true] := by
  have h1 : st.length = 1 := h.len
  have h2 := h.closed ⟨0, []⟩ (by simp [smp10]) rfl
  match st, h1 with
  | [x], _ => simp at h2; rw [h2]
theorem fixL_smp10 {st : List Int} (h : FixL smp10 st) : st = [0] := by
  have h1 : st.length = 1 := h.len
  obtain ⟨v, h2, h3, h4⟩ := h.closed ⟨0, []⟩ (by simp [smp10]) (by show (0 : Int) ≤ 0; decide)
  match st, h1 with
  | [x], _ =>
    have e : lenS [x] (Pr.right ⟨0, []⟩) = 0 := rfl
    rw [e] at h4
    simp at h2
    rw [h2, show v = 0 by omega]
theorem br_smp10 (w : World) (A : Obj) : ∃ W, W = (((w.alloc A).alloc (.cells #[.int .i64 (-1)] 3)).alloc (.cells #[.bool true, .int .i64 1, .bool false, .int .i64 0] 54)).alloc (.cells #[.int .i64 0, .slice (some ⟨w.heap.size + 1 + 1, 0, none⟩) 2 2, .int .i64 0, .slice none 0 0] 51) ∧
    BR W W.heap.size (.slice (some ⟨w.heap.size + 1, 0, none⟩) 1 1) (.slice (some ⟨w.heap.size + 1 + 1 + 1, 0, none⟩) 2 2) smp10 ∧ Below w.heap.size w W ∧ Below (w.heap.size + 1) (w.alloc A) W := by
  have s1 : (w.alloc A).heap.size = w.heap.size + 1 := by simp
  obtain ⟨W1, hW1⟩ : ∃ W1, W1 = w.alloc A := ⟨_, rfl⟩
  have b1 : Below w.heap.size w W1 := by rw [hW1]; exact (Below.refl w.heap.size w).alloc (Nat.le_refl _) _
  rw [← hW1] at s1 ⊢
  have r1 := row_cellsB W1 (ints [-1]) 1 1 1 3 rfl (Nat.le_refl _) (by unfold maxLen; omega)
  have s2 : (W1.alloc (.cells (ints [-1]).toArray 3)).heap.size = W1.heap.size + 1 := by simp
  have b2 := (Below.refl W1.heap.size W1).alloc (Nat.le_refl _) (.cells (ints [-1]).toArray 3)
  rw [show W1.alloc (.cells #[.int .i64 (-1)] 3) = W1.alloc (.cells (ints [-1]).toArray 3) from rfl]
  generalize W1.alloc (.cells (ints [-1]).toArray 3) = W2 at *
  have r2 := row_cellsB W2 (symC [⟨true, 1⟩, ⟨false, 0⟩]) 2 2 2 54 rfl (Nat.le_refl _) (by unfold maxLen; omega)
  have s3 : (W2.alloc (.cells (symC [⟨true, 1⟩, ⟨false, 0⟩]).toArray 54)).heap.size = W2.heap.size + 1 := by simp
  have b3 := (Below.refl W2.heap.size W2).alloc (Nat.le_refl _) (.cells (symC [⟨true, 1⟩, ⟨false, 0⟩]).toArray 54)
  rw [show W2.alloc (.cells #[.bool true, .int .i64 1, .bool false, .int .i64 0] 54) = W2.alloc (.cells (symC [⟨true, 1⟩, ⟨false, 0⟩]).toArray 54) from rfl]
  generalize W2.alloc (.cells (symC [⟨true, 1⟩, ⟨false, 0⟩]).toArray 54) = W3 at *
  have cs : List (List Value) := []
  have r3 := row_cellsB W3 ([[.int .i64 0, .slice (some ⟨w.heap.size + 1 + 1, 0, none⟩) 2 2], [.int .i64 0, .slice none 0 0]] : List (List Value)).flatten 2 2 2 51 rfl (Nat.le_refl _) (by unfold maxLen; omega)
  have s4 : (W3.alloc (.cells ([[.int .i64 0, .slice (some ⟨w.heap.size + 1 + 1, 0, none⟩) 2 2], [.int .i64 0, .slice none 0 0]] : List (List Value)).flatten.toArray 51)).heap.size = W3.heap.size + 1 := by simp
  have b4 := (Below.refl W3.heap.size W3).alloc (Nat.le_refl _) (.cells ([[.int .i64 0, .slice (some ⟨w.heap.size + 1 + 1, 0, none⟩) 2 2], [.int .i64 0, .slice none 0 0]] : List (List Value)).flatten.toArray 51)
  refine ⟨_, rfl, ?_⟩
  rw [show W3.alloc (.cells #[.int .i64 0, .slice (some ⟨w.heap.size + 1 + 1, 0, none⟩) 2 2, .int .i64 0, .slice none 0 0] 51) = W3.alloc (.cells ([[.int .i64 0, .slice (some ⟨w.heap.size + 1 + 1, 0, none⟩) 2 2], [.int .i64 0, .slice none 0 0]] : List (List Value)).flatten.toArray 51) from rfl]
  generalize W3.alloc (.cells ([[.int .i64 0, .slice (some ⟨w.heap.size + 1 + 1, 0, none⟩) 2 2], [.int .i64 0, .slice none 0 0]] : List (List Value)).flatten.toArray 51) = W at *
  rw [s1] at s2 r1 b2
  rw [s2] at s3 r2 b3
  rw [s3] at s4 r3 b4
  rw [s4]
  have c34 := b3.trans (b4.mono (by omega))
  have c24 := b2.trans (c34.mono (by omega))
  refine ⟨⟨((r1.below c34).mono (by omega) : Row W _ 1 _ 1 (ints [-1])), _, r3, rfl, fun c hc => ?_, fun i hi => ?_⟩, b1.trans (c24.mono (by omega)), c24⟩
  · simp only [List.mem_cons, List.not_mem_nil, or_false] at hc
    rcases hc with rfl | rfl <;> rfl
  · match i, hi with
    | 0, _ => exact ⟨_, rfl, (r2.below b4).mono (by omega)⟩
    | 1, _ => exact ⟨_, rfl, (Row.of_owns (World.ownsRow_nil W 0 54 2)).mono (by omega)⟩
set_option maxHeartbeats 1000000 in
theorem sample10_any (w : World) : Calls Try.prog 41 #[] w fun e w' => ∃ o l, e = .returned (.agg #[.int .i64 1, .int .i64 1, o, l]) ∧ BR w' w'.heap.size o l smp10 ∧ Below w.heap.size w w' := by
  have hc := fun A => br_smp10 w A
  go_enter Try.func41, Try.ntmps41
  go_wp2_with fail
  obtain ⟨W, hW, hr, hb, hb2⟩ := hc (.cells #[.int .i64 1, .int .i64 1, .slice (some ⟨w.heap.size + 1, 0, none⟩) 1 1, .slice (some ⟨w.heap.size + 1 + 1 + 1, 0, none⟩) 2 2] 25)
  rw [← hW]
  have q := fun j u h => (hb2.cell (p := ⟨w.heap.size, j, none⟩) (Nat.lt_succ_self _)).trans (cell_new w #[.int .i64 1, .int .i64 1, .slice (some ⟨w.heap.size + 1, 0, none⟩) 1 1, .slice (some ⟨w.heap.size + 1 + 1 + 1, 0, none⟩) 2 2] 25 j u h)
  have q5 := q 0 _ rfl
  have q6 := q 1 _ rfl
  have q7 := q 2 _ rfl
  have q8 := q 3 _ rfl
  clear hc hW q
  refine bodyPost_ret (v := .agg #[.int .i64 1, .int .i64 1, .slice (some ⟨w.heap.size + 1, 0, none⟩) 1 1, .slice (some ⟨w.heap.size + 1 + 1 + 1, 0, none⟩) 2 2]) (by simp [results, Try.results41, go_sem, q5, q6, q7, q8]) rfl ?_
  exact ⟨_, _, rfl, hr, hb⟩
end Go.Proofs.Ytfmcigodfihlcaa
