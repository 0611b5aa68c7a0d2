/-
  reach.come.
-/
import Derived.Test.YtfmcigodfihlcaaReaE
import Derived.Test.YtfmcigodfihlcaaReaC
import Derived.Test.YtfmcigodfihlcaaReaD
namespace Go.Proofs.Ytfmcigodfihlcaa
open Go.RowKit PK
set_option linter.unusedVariables false
set_option linter.unusedSimpArgs false
attribute [local go_sem ↓] append_appM

/-- What come owns: marks, and the list of what is marked. -/
structure Cm (w : World) (n gi gl g N : Nat) (lv : Value) (L : List Int) : Prop where
  hi : n ≤ w.heap.size
  lo : n ≤ gi ∧ n ≤ gl
  ptrI : w.heap[gi]? = some (.cells #[.slice (some ⟨g, 0, none⟩) N N] 28 (0, 0))
  ptrL : w.heap[gl]? = some (.cells #[lv] 22 (0, 0))
  row : w.ownsRow n 4 1 (.slice (some ⟨g, 0, none⟩) N N) N (bools (marksL N L))
  lst : w.ownsRow n 3 1 lv L.length (ints L)
  ne : gi ≠ gl ∧ gi ≠ g ∧ gl ≠ g
  nl : ∀ k, lv.ownBlock = some k → k ≠ gi ∧ k ≠ gl ∧ k ≠ g
theorem Cm.lt {w n gi gl g N lv L} (h : Cm w n gi gl g N lv L) : gi < w.heap.size ∧ gl < w.heap.size ∧ n ≤ g ∧ g < w.heap.size :=
  ⟨(Array.getElem?_eq_some_iff.1 h.ptrI).1, (Array.getElem?_eq_some_iff.1 h.ptrL).1, (h.row.lt g rfl).1, (h.row.lt g rfl).2⟩
theorem Cm.below {w w' n gi gl g N lv L} (h : Cm w n gi gl g N lv L) (hb : Below w.heap.size w w') : Cm w' n gi gl g N lv L :=
  ⟨Nat.le_trans h.hi hb.size, h.lo, (hb.block _ h.lt.1).trans h.ptrI, (hb.block _ h.lt.2.1).trans h.ptrL, owns_belowP h.row hb, owns_belowP h.lst hb, h.ne, h.nl⟩
theorem Cm.cells {w n gi gl g N lv L} (h : Cm w n gi gl g N lv L) : w.cell? ⟨gi, 0, none⟩ = some (.slice (some ⟨g, 0, none⟩) N N) ∧ w.cell? ⟨gl, 0, none⟩ = some lv ∧ w.frozen? ⟨gl, 0, none⟩ = false := by
  refine ⟨?_, ?_, by simp [World.frozen?, h.ptrL]⟩
  · rw [cell_of_row w gi _ _ _ (0, 0) h.ptrI]; rfl
  · rw [cell_of_row w gl _ _ _ (0, 0) h.ptrL]; rfl
theorem Cm.mark {w n gi gl g N lv L} (h : Cm w n gi gl g N lv L) (j : Nat) (hj : j < N) : w.cell? ⟨g, j, none⟩ = some (.bool (decide ((j : Int) ∈ L))) ∧ w.frozen? ⟨g, j, none⟩ = false := by
  obtain ⟨g', hv, _, _, hc, hf⟩ := owns_cellN h.row (by omega)
  simp only [Option.some.injEq, Addr.mk.injEq, and_true] at hv
  subst hv
  have e : (bools (marksL N L))[j]? = some (.bool (decide ((j : Int) ∈ L))) := by unfold bools; rw [List.getElem?_map, marksL_at _ _ _ hj]; rfl
  exact ⟨hc j _ e, hf j⟩
theorem Cm.push {w n gi gl g N lv L} (h : Cm w n gi gl g N lv L) (j : Nat) (hj : j < N) (hl : L.length + 1 ≤ 10000000) :
    ∃ a c w3, Sem.run Try.prog (appM #[22, 22] 22 #[lv, .slice (some ⟨w.heap.size, 0, none⟩) 1 1]) ((w.setCell ⟨g, j, none⟩ (.bool true)).alloc (.cells #[.int .i64 (j : Int)] 3)) = .ok (.slice a (L.length + 1) c) w3 ∧
      w3.cell? ⟨gl, 0, none⟩ = some lv ∧ w3.frozen? ⟨gl, 0, none⟩ = false ∧ gl < w3.heap.size ∧
      Cm (w3.setCell ⟨gl, 0, none⟩ (.slice a (L.length + 1) c)) n gi gl g N (.slice a (L.length + 1) c) (L ++ [(j : Int)]) ∧ Below n w (w3.setCell ⟨gl, 0, none⟩ (.slice a (L.length + 1) c)) := by
  obtain ⟨l1, l2, l3, l4⟩ := h.lt
  obtain ⟨i0, hi0, hz0, hz1, hz2⟩ := info_parts info_intT
  obtain ⟨w1, hw1⟩ : ∃ w1, w1 = w.setCell ⟨g, j, none⟩ (.bool true) := ⟨_, rfl⟩
  have hs1 : w1.heap.size = w.heap.size := by rw [hw1]; simp [World.setCell]
  have hk1 : ∀ k, k ≠ g → w1.heap[k]? = w.heap[k]? := fun k hk => by rw [hw1]; exact Below.heap_setCell _ _ _ _ hk
  have hrow1 : w1.ownsRow n 4 1 (.slice (some ⟨g, 0, none⟩) N N) N (bools (marksL N (L ++ [(j : Int)]))) := by
    rw [hw1, ← marksL_put, ← bools_set]
    exact owns_setN h.row j (by rw [bools_length, marksL_len]; exact hj) _
  have hlst1 : w1.ownsRow n 3 1 lv L.length (ints L) := owns_blockN h.lst fun k e => hk1 k (h.nl k e).2.2
  have hB1 : Below n w w1 := by rw [hw1]; exact (Below.refl n w).setCell (p := ⟨g, j, none⟩) l3 _
  rw [← hw1, ← hs1]
  have rt : Row (w1.alloc (.cells #[.int .i64 (j : Int)] 3)) (w1.heap.size + 1) 1 (.slice (some ⟨w1.heap.size, 0, none⟩) 1 1) 1 (ints [(j : Int)]) := row_cellsB w1 (ints [(j : Int)]) 1 1 1 _ rfl (Nat.le_refl _) (by unfold maxLen; omega)
  have hn1 : n ≤ w1.heap.size := by rw [hs1]; exact h.hi
  obtain ⟨v', w3, h1, h2, h3, h4⟩ := run_append_row (P := Try.prog) (w1.alloc (.cells #[.int .i64 (j : Int)] 3)) 22 22 n 3 i0 (.int .i64 0) 1 8 Try.underlying22 hi0 hz0 hz1 hz2 rfl (by decide) lv L.length (ints L) (hlst1.alloc _) (w1.heap.size + 1) _ 1 (ints [(j : Int)]) rt (ints_oneT _) (by unfold maxLen; omega) (by omega) (by simp; omega)
  obtain ⟨a, c, rfl, hc1, hc2⟩ := owns_valP h2
  rw [World.size_alloc] at h4
  have hs3 := h3.size
  rw [World.size_alloc] at hs3
  have hkeep : ∀ k, k < w1.heap.size → some k ≠ lv.ownBlock → w3.heap[k]? = w1.heap[k]? := fun k hk hn => by
    rw [h3.block k (by simp; omega) hn, Below.heap_alloc _ _ _ hk]
  have hgl3 : w3.heap[gl]? = some (.cells #[lv] 22 (0, 0)) := by
    rw [hkeep gl (by omega) (fun e => (h.nl gl e.symm).2.1 rfl), hk1 gl h.ne.2.2]; exact h.ptrL
  have hgi3 : w3.heap[gi]? = some (.cells #[.slice (some ⟨g, 0, none⟩) N N] 28 (0, 0)) := by
    rw [hkeep gi (by omega) (fun e => (h.nl gi e.symm).1 rfl), hk1 gi h.ne.2.1]; exact h.ptrI
  have hB3 : Below n w1 w3 := ((Below.refl n w1).alloc hn1 _).grown h3 (by simp; omega) fun k e => (h.lst.lt k e).1
  have hnew : ∀ k, (Value.slice a (L.length + 1) c).ownBlock = some k → k ≠ gi ∧ k ≠ gl ∧ k ≠ g := fun k hk => by
    rcases h4 with h5 | h5
    · rw [h5] at hk; exact h.nl k hk
    · rw [h5] at hk; cases hk; omega
  refine ⟨a, c, w3, h1, ?_, by simp [World.frozen?, hgl3], by omega, ⟨by simp [World.setCell]; omega, h.lo, ?_, ptr_set hgl3 0 _, ?_, ?_, h.ne, hnew⟩, (hB1.trans hB3).setCell (p := ⟨gl, 0, none⟩) h.lo.2 _⟩
  · rw [cell_of_row w3 gl _ _ _ (0, 0) hgl3]; rfl
  · rw [Below.heap_setCell _ _ _ _ (by show gi ≠ gl; exact h.ne.1)]; exact hgi3
  · refine owns_blockN (w := w3) (owns_blockN (w := w1) hrow1 fun k e => ?_) fun k e => Below.heap_setCell _ _ _ _ ?_
    · cases e; exact hkeep g (by omega) fun e => (h.nl g e.symm).2.2 rfl
    · cases e; show g ≠ gl; exact Ne.symm h.ne.2.2
  · refine owns_blockN (w := w3) (by rw [List.length_append]; simpa [ints] using h2) fun k e => Below.heap_setCell _ _ _ _ ?_
    show k ≠ gl
    exact (hnew k e).2.1
set_option maxHeartbeats 4000000 in
set_option maxRecDepth 100000 in
theorem note_any (w : World) (n gi gl g N : Nat) (lv : Value) (L : List Int) (v : Value) (l : List Int) (hN : N ≤ 1000) (h : Cm w n gi gl g N lv L) (hL : L.Nodup) (hLr : ∀ x ∈ L, 0 ≤ x ∧ x < N) (r : Row w n 1 v l.length (ints l)) (hl : ∀ x ∈ l, 0 ≤ x ∧ x < N) :
    Calls Try.prog 61 #[v, .pointer (some ⟨gi, 0, none⟩), .pointer (some ⟨gl, 0, none⟩)] w fun e w' => e = .returned (.tuple #[]) ∧ ∃ lv', Cm w' n gi gl g N lv' (noteL L l) ∧ Below n w w' := by
  obtain ⟨la, lc, rfl, _, hlc⟩ := r.val
  unfold maxLen at hlc
  have H := Lib.hid h; have HL := Lib.hid hL; have HLr := Lib.hid hLr; have R := Lib.hid r; have Hl := Lib.hid hl
  obtain ⟨m, hm⟩ : ∃ m, m = l.length := ⟨_, rfl⟩
  rw [← hm]
  have hm63 : (m : Int) ≤ 9223372036854775807 := by have := R.out.1; omega
  have Hm := Lib.hid hm
  clear h hL hLr r hl hm hlc
  go_enter Try.func61, Try.ntmps61
  go_wp2_with fail
  go_loopw [8] (fun iv wr => ∃ (k : Nat) (lv' : Value), k ≤ m ∧ iv = .int .i64 (k : Nat) ∧ Hid (Cm wr n gi gl g N lv' (noteL L (l.take k))) ∧ Hid (Below n w wr)) (fun iv _ => m - (intOf iv).toNat)
  case atStart => exact ⟨0, lv, Nat.zero_le _, rfl, H, Lib.hid (Below.refl _ _)⟩
  case round =>
    obtain ⟨k, lv', hk, rfl, HC, HB⟩ := hrel
    by_cases hlt : k < m
    · have hkl : k < l.length := by have := Hm.out; omega
      have r1 := R.out.below HB.out
      obtain ⟨b1, o1, hao, _, _⟩ := r1.at (by rw [ints_length]; omega)
      subst hao
      have c10 := r1.cell k _ (ints_at l k hkl)
      have hy := Hl.out _ (List.getElem_mem hkl)
      have Hsu := Lib.hid (noteL_succ L l k hkl)
      have hnd := noteL_nodup L (l.take k) HL.out
      have hrg : ∀ x ∈ noteL L (l.take k), 0 ≤ x ∧ x < N := fun x hx => by
        rcases (noteL_mem _ _ _).1 hx with h1 | h1
        · exact HLr.out x h1
        · exact Hl.out x (List.mem_of_mem_take h1)
      have hle := nodup_le hnd hrg
      generalize noteL L (l.take k) = Lk at *
      generalize l[k] = y at *
      obtain ⟨q, rfl⟩ : ∃ q : Nat, y = (q : Int) := ⟨y.toNat, by omega⟩
      have hq : q < N := by omega
      obtain ⟨c0, f0⟩ := HC.out.mark q hq
      obtain ⟨c1, c2, f2⟩ := HC.out.cells
      obtain ⟨l1, l2, l3, l4⟩ := HC.out.lt
      have hk1 : (k : Int) < (m : Int) := by omega
      have hk2 : (0 : Int) ≤ (k : Int) := by omega
      have hq1 : (q : Int) < (N : Int) := by omega
      have hq2 : (0 : Int) ≤ (q : Int) := by omega
      have Hlt := Lib.hid hlt
      obtain ⟨a3, d3, w3, happ, x1, x2, x3, hC3, hB3⟩ := HC.out.push q hq (by omega)
      have ho := HC.out.lst
      obtain ⟨va, vc, rfl, _, _⟩ := owns_valP ho
      have HC3 := Lib.hid hC3
      have HB3 := Lib.hid (HB.out.trans hB3)
      obtain ⟨ln, hln⟩ : ∃ ln, ln = Lk.length := ⟨_, rfl⟩
      rw [← hln] at HC HC3 happ c2 x1 HB3
      have c22 : (wr.setCell ⟨g, q, none⟩ (.bool true)).cell? ⟨gl, 0, none⟩ = some (.slice va ln vc) := (cell_eq (p := ⟨gl, 0, none⟩) (Below.heap_setCell wr ⟨g, q, none⟩ (.bool true) gl (HC.out.ne.2.2))).trans c2
      clear r1 hk hlt hkl hy hnd hrg hle hC3 hB3 ho hln hq
      by_cases hin : (q : Int) ∈ Lk
      · rw [decide_eq_true hin] at c0
        have HS : Hid (noteL L (l.take (k + 1)) = Lk) := Lib.hid (by rw [Hsu.out, if_pos hin])
        clear hin happ
        go_wp2_with fail
        go_roundw
        case rel => exact ⟨k + 1, _, Hlt.out, by go_num, by rw [HS.out]; exact HC, HB⟩
        case measure => have := Hlt.out; simp [intOf]; omega
      · rw [decide_eq_false hin] at c0
        have HS : Hid (noteL L (l.take (k + 1)) = Lk ++ [(q : Int)]) := Lib.hid (by rw [Hsu.out, if_neg hin])
        clear hin
        go_wp2_with fail
        go_roundw
        case rel => exact ⟨k + 1, _, Hlt.out, by go_num, by rw [HS.out]; exact HC3, HB3⟩
        case measure => have := Hlt.out; simp [intOf]; omega
    · obtain rfl : k = m := by omega
      have HE : Hid (noteL L (l.take k) = noteL L l) := Lib.hid (by rw [Hm.out, List.take_length])
      go_wp2_with fail
      refine bodyPost_end (v := .tuple #[]) (by first | rfl | simp [results, Try.results61, go_sem]) rfl ⟨rfl, lv', by rw [← HE.out]; exact HC.out, HB.out⟩
end Go.Proofs.Ytfmcigodfihlcaa
