/-
  Readers of tokens: their walks, of package lex and of the document.
-/
import Derived.Test.YteijndfacjgfbaaDoorLexG
import Derived.Deep.DeepCutAuto
namespace Go.Proofs.YteijndfacjgfbaaDoor
open Go.RowKit LX
set_option linter.unusedVariables false

/-- A reader in memory: its tokens, the place of the next one, the text's end. -/
def RdH (w : World) (b : Nat) (T : TypeId) (v : Value) (k en : Int) : Prop := w.heap[b]? = some (.cells #[v, .int .i64 k, .int .i64 en] T (0, 0))
theorem RdH.lt {w b T v k en} (h : RdH w b T v k en) : b < w.heap.size := (Array.getElem?_eq_some_iff.1 h).1
theorem RdH.cells {w b T v k en} (h : RdH w b T v k en) : w.cell? ⟨b, 0, none⟩ = some v ∧ w.cell? ⟨b, 1, none⟩ = some (.int .i64 k) ∧ w.cell? ⟨b, 2, none⟩ = some (.int .i64 en) ∧ w.frozen? ⟨b, 1, none⟩ = false := by
  unfold RdH at h
  refine ⟨?_, ?_, ?_, ?_⟩
  · rw [cell_of_row w b 0 _ T (0, 0) h]; rfl
  · rw [cell_of_row w b 1 _ T (0, 0) h]; rfl
  · rw [cell_of_row w b 2 _ T (0, 0) h]; rfl
  · simp [World.frozen?, h]
theorem RdH.below {w w' b T v k en} (h : RdH w b T v k en) (hb : Below w.heap.size w w') : RdH w' b T v k en := by
  unfold RdH; rw [hb.block b h.lt]; exact h
theorem RdH.other {w w' b c T v k en} (h : RdH w b T v k en) (hg : w.grownBy w' (some c)) (hn : b ≠ c) : RdH w' b T v k en := by
  unfold RdH; rw [hg.block b h.lt (by simpa using hn)]; exact h
theorem RdH.set {w b T v k en} (h : RdH w b T v k en) (k' : Int) : RdH (w.setCell ⟨b, 1, none⟩ (.int .i64 k')) b T v k' en := by
  unfold RdH at h ⊢
  simp only [World.setCell, Array.getElem?_modify, h, Option.map_some, if_true]; rfl
theorem RdH.setOther {w b T v k en} (h : RdH w b T v k en) (p : Addr) (u : Value) (hn : b ≠ p.block) : RdH (w.setCell p u) b T v k en := by
  unfold RdH; rw [Below.heap_setCell _ _ _ _ hn]; exact h
/-- A token in memory. -/
def TkH (w : World) (b : Nat) (T : TypeId) (x0 x1 x2 x3 : Value) : Prop := w.heap[b]? = some (.cells #[x0, x1, x2, x3] T (0, 0))
theorem TkH.new (w : World) (T : TypeId) (x0 x1 x2 x3 : Value) : TkH (w.alloc (.cells #[x0, x1, x2, x3] T)) w.heap.size T x0 x1 x2 x3 := heap_alloc_new w _
theorem TkH.lt {w b T x0 x1 x2 x3} (h : TkH w b T x0 x1 x2 x3) : b < w.heap.size := (Array.getElem?_eq_some_iff.1 h).1
theorem TkH.below {w w' b T x0 x1 x2 x3} (h : TkH w b T x0 x1 x2 x3) (hb : Below w.heap.size w w') : TkH w' b T x0 x1 x2 x3 := by
  unfold TkH; rw [hb.block b h.lt]; exact h
theorem TkH.cells {w b T x0 x1 x2 x3} (h : TkH w b T x0 x1 x2 x3) : w.cell? ⟨b, 0, none⟩ = some x0 ∧ w.cell? ⟨b, 1, none⟩ = some x1 ∧ w.cell? ⟨b, 2, none⟩ = some x2 ∧ w.cell? ⟨b, 3, none⟩ = some x3 ∧ (∀ o, w.frozen? ⟨b, o, none⟩ = false) := by
  unfold TkH at h
  refine ⟨?_, ?_, ?_, ?_, fun o => ?_⟩
  · rw [cell_of_row w b 0 _ T (0, 0) h]; rfl
  · rw [cell_of_row w b 1 _ T (0, 0) h]; rfl
  · rw [cell_of_row w b 2 _ T (0, 0) h]; rfl
  · rw [cell_of_row w b 3 _ T (0, 0) h]; rfl
  · simp [World.frozen?, h]
theorem grown_new {w w1 : World} {b : Nat} (h : w.grownBy w1 (some b)) (p : Addr) (hp : w.heap.size ≤ p.block) (u : Value) : w.grownBy (w1.setCell p u) (some b) :=
  ⟨h.os, h.tape, h.output, by simp [World.setCell]; exact h.size, fun k hk hn => by
    rw [Below.heap_setCell _ _ _ _ (show k ≠ p.block from by omega)]; exact h.block k hk hn⟩
theorem grown_of_below {w w' : World} (hb : Below w.heap.size w w') (b : Nat) : w.grownBy w' (some b) := ⟨hb.os, hb.tape, hb.output, hb.size, fun k hk _ => hb.block k hk⟩
theorem grown_set {w w1 : World} {b : Nat} (h : w.grownBy w1 (some b)) (u : Value) : w.grownBy (w1.setCell ⟨b, 1, none⟩ u) (some b) :=
  ⟨h.os, h.tape, h.output, by simp [World.setCell]; exact h.size, fun k hk hn => by
    rw [Below.heap_setCell _ _ _ _ (show k ≠ b from fun e => hn (by rw [e]))]; exact h.block k hk hn⟩
theorem grown_trans {w w1 w2 : World} {b : Nat} (h : w.grownBy w1 (some b)) (h2 : Below w1.heap.size w1 w2) : w.grownBy w2 (some b) :=
  ⟨h2.os.trans h.os, h2.tape.trans h.tape, h2.output.trans h.output, Nat.le_trans h.size h2.size, fun k hk hn => (h2.block k (Nat.lt_of_lt_of_le hk h.size)).trans (h.block k hk hn)⟩

set_option maxRecDepth 100000 in
set_option maxHeartbeats 1600000 in
theorem lexPeek_in (b : Nat) (v : Value) (l : List Tok) (k : Nat) (en : Int) (w : World) (B : Nat) (h : RdH w b 70 v k en) (hr : Row w B 4 v l.length (toksC l)) (hB : B ≤ w.heap.size) (hl : l.length ≤ maxLen) (hk : k < l.length) :
    Calls Tryd.prog 17 #[.pointer (some ⟨b, 0, none⟩)] w fun e w' => e = .returned (.agg #[.int .i64 l[k].k, .string l[k].s, .int .i64 l[k].n, .int .i64 l[k].p]) ∧ Below w.heap.size w w' := by
  unfold maxLen at hl
  obtain ⟨c0, c1, c2, _⟩ := h.cells
  have hb := h.lt
  have hl63 : l.length ≤ 9223372036854775807 := by omega
  obtain ⟨ao, c, rfl, hc1, hc2⟩ := hr.val
  obtain ⟨b1, o1, rfl, hb1, _⟩ := hr.at (by rw [toksC_length]; omega)
  have d0 := hr.cell (k * 4 + 0) _ (toksC_at l k hk 0 (by omega)); have d1 := hr.cell (k * 4 + 1) _ (toksC_at l k hk 1 (by omega)); have d2 := hr.cell (k * 4 + 2) _ (toksC_at l k hk 2 (by omega)); have d3 := hr.cell (k * 4 + 3) _ (toksC_at l k hk 3 (by omega))
  simp only [Nat.add_zero, ← Nat.add_assoc] at d0 d1 d2 d3
  generalize l[k] = t at *
  have hk0 : (k : Int) < (l.length : Int) := by omega
  have q1 : decide (l.length ≤ k) = false := by simp; omega
  have hb1' : b1 < w.heap.size := by omega
  clear h hr
  go_enter Tryd.func17, Tryd.ntmps17
  go_wp2_with fail
  go_region
  all_goals
    go_wp2_with fail
    go_region
    all_goals
      go_wp2_with fail
    exact bodyPost_ret (v := .agg #[.int .i64 t.k, .string t.s, .int .i64 t.n, .int .i64 t.p]) (by simp [results, Tryd.results17, go_sem]) rfl ⟨rfl, by first | exact ((Below.refl _ _).alloc (Nat.le_refl _) _) | exact ((Below.refl _ _).alloc (Nat.le_refl _) _).drew | exact (((Below.refl _ _).alloc (Nat.le_refl _) _).drew).drew⟩

set_option maxRecDepth 100000 in
set_option maxHeartbeats 1600000 in
theorem lexPeek_out (b : Nat) (v : Value) (l : List Tok) (k : Nat) (en : Int) (w : World) (B : Nat) (h : RdH w b 70 v k en) (hr : Row w B 4 v l.length (toksC l)) (hB : B ≤ w.heap.size) (hl : l.length ≤ maxLen) (hk : l.length ≤ k) :
    Calls Tryd.prog 17 #[.pointer (some ⟨b, 0, none⟩)] w fun e w' => e = .returned (.agg #[.int .i64 0, .string ⟨#[]⟩, .int .i64 0, .int .i64 en]) ∧ Below w.heap.size w w' := by
  unfold maxLen at hl
  obtain ⟨c0, c1, c2, _⟩ := h.cells
  have hb := h.lt
  have hl63 : l.length ≤ 9223372036854775807 := by omega
  obtain ⟨ao, c, rfl, hc1, hc2⟩ := hr.val
  have hk0 : (l.length : Int) ≤ (k : Int) := by omega
  have q1 : decide (l.length ≤ k) = true := by simp; omega
  clear h hr
  go_enter Tryd.func17, Tryd.ntmps17
  go_wp2_with fail
  go_region
  all_goals
    go_wp2_with fail
    skip
    exact bodyPost_ret (v := .agg #[.int .i64 0, .string ⟨#[]⟩, .int .i64 0, .int .i64 en]) (by simp [results, Tryd.results17, go_sem]) rfl ⟨rfl, by first | exact ((Below.refl _ _).alloc (Nat.le_refl _) _) | exact ((Below.refl _ _).alloc (Nat.le_refl _) _).drew | exact (((Below.refl _ _).alloc (Nat.le_refl _) _).drew).drew⟩

set_option maxRecDepth 100000 in
set_option maxHeartbeats 1600000 in
theorem refPeek_in (b : Nat) (v : Value) (l : List Tok) (k : Nat) (en : Int) (w : World) (B : Nat) (h : RdH w b 35 v k en) (hr : Row w B 4 v l.length (toksC l)) (hB : B ≤ w.heap.size) (hl : l.length ≤ maxLen) (hk : k < l.length) :
    Calls Tryd.prog 15 #[.pointer (some ⟨b, 0, none⟩)] w fun e w' => e = .returned (.agg #[.int .i64 l[k].k, .string l[k].s, .int .i64 l[k].n, .int .i64 l[k].p]) ∧ Below w.heap.size w w' := by
  unfold maxLen at hl
  obtain ⟨c0, c1, c2, _⟩ := h.cells
  have hb := h.lt
  have hl63 : l.length ≤ 9223372036854775807 := by omega
  obtain ⟨ao, c, rfl, hc1, hc2⟩ := hr.val
  obtain ⟨b1, o1, rfl, hb1, _⟩ := hr.at (by rw [toksC_length]; omega)
  have d0 := hr.cell (k * 4 + 0) _ (toksC_at l k hk 0 (by omega)); have d1 := hr.cell (k * 4 + 1) _ (toksC_at l k hk 1 (by omega)); have d2 := hr.cell (k * 4 + 2) _ (toksC_at l k hk 2 (by omega)); have d3 := hr.cell (k * 4 + 3) _ (toksC_at l k hk 3 (by omega))
  simp only [Nat.add_zero, ← Nat.add_assoc] at d0 d1 d2 d3
  generalize l[k] = t at *
  have hk0 : (k : Int) < (l.length : Int) := by omega
  have q1 : decide (l.length ≤ k) = false := by simp; omega
  have hb1' : b1 < w.heap.size := by omega
  clear h hr
  go_enter Tryd.func15, Tryd.ntmps15
  go_wp2_with fail
  go_region
  all_goals
    go_wp2_with fail
    go_region
    all_goals
      go_wp2_with fail
    exact bodyPost_ret (v := .agg #[.int .i64 t.k, .string t.s, .int .i64 t.n, .int .i64 t.p]) (by simp [results, Tryd.results15, go_sem]) rfl ⟨rfl, by first | exact ((Below.refl _ _).alloc (Nat.le_refl _) _) | exact ((Below.refl _ _).alloc (Nat.le_refl _) _).drew | exact (((Below.refl _ _).alloc (Nat.le_refl _) _).drew).drew⟩

set_option maxRecDepth 100000 in
set_option maxHeartbeats 1600000 in
theorem refPeek_out (b : Nat) (v : Value) (l : List Tok) (k : Nat) (en : Int) (w : World) (B : Nat) (h : RdH w b 35 v k en) (hr : Row w B 4 v l.length (toksC l)) (hB : B ≤ w.heap.size) (hl : l.length ≤ maxLen) (hk : l.length ≤ k) :
    Calls Tryd.prog 15 #[.pointer (some ⟨b, 0, none⟩)] w fun e w' => e = .returned (.agg #[.int .i64 0, .string ⟨#[]⟩, .int .i64 0, .int .i64 en]) ∧ Below w.heap.size w w' := by
  unfold maxLen at hl
  obtain ⟨c0, c1, c2, _⟩ := h.cells
  have hb := h.lt
  have hl63 : l.length ≤ 9223372036854775807 := by omega
  obtain ⟨ao, c, rfl, hc1, hc2⟩ := hr.val
  have hk0 : (l.length : Int) ≤ (k : Int) := by omega
  have q1 : decide (l.length ≤ k) = true := by simp; omega
  clear h hr
  go_enter Tryd.func15, Tryd.ntmps15
  go_wp2_with fail
  go_region
  all_goals
    go_wp2_with fail
    skip
    exact bodyPost_ret (v := .agg #[.int .i64 0, .string ⟨#[]⟩, .int .i64 0, .int .i64 en]) (by simp [results, Tryd.results15, go_sem]) rfl ⟨rfl, by first | exact ((Below.refl _ _).alloc (Nat.le_refl _) _) | exact ((Below.refl _ _).alloc (Nat.le_refl _) _).drew | exact (((Below.refl _ _).alloc (Nat.le_refl _) _).drew).drew⟩

set_option maxRecDepth 100000 in
set_option maxHeartbeats 1600000 in
theorem lexDone_in (b : Nat) (v : Value) (l : List Tok) (k : Nat) (en : Int) (w : World) (B : Nat) (h : RdH w b 70 v k en) (hr : Row w B 4 v l.length (toksC l)) (hl : l.length ≤ maxLen) (hk : k < l.length) :
    Calls Tryd.prog 22 #[.pointer (some ⟨b, 0, none⟩)] w fun e w' => e = .returned (.bool false) ∧ Below w.heap.size w w' := by
  unfold maxLen at hl
  obtain ⟨c0, c1, c2, _⟩ := h.cells
  have hb := h.lt
  obtain ⟨ao, c, rfl, hc1, hc2⟩ := hr.val
  have q1 : decide (l.length ≤ k) = false := by simp; omega
  clear h hr
  go_enter Tryd.func22, Tryd.ntmps22
  go_wp2_with fail
  refine wp_region_quiet_lit (by kernel_rfl) (by kernel_rfl) ?_
  repeat (first | go_big_quiet_step (fail) | quiet_step (fail))
  refine wpQuiet_nil ?_
  intro _ hw'
  obtain ⟨nq, hw''⟩ := hw'
  subst hw''
  go_wp2_with fail
  go_ret
  exact ⟨by first | rfl | (rw [q1]), by first | exact below_drews w nq | exact Below.refl _ _⟩

set_option maxRecDepth 100000 in
set_option maxHeartbeats 1600000 in
theorem lexDone_out (b : Nat) (v : Value) (l : List Tok) (k : Nat) (en : Int) (w : World) (B : Nat) (h : RdH w b 70 v k en) (hr : Row w B 4 v l.length (toksC l)) (hl : l.length ≤ maxLen) (hk : l.length ≤ k) :
    Calls Tryd.prog 22 #[.pointer (some ⟨b, 0, none⟩)] w fun e w' => e = .returned (.bool true) ∧ Below w.heap.size w w' := by
  unfold maxLen at hl
  obtain ⟨c0, c1, c2, _⟩ := h.cells
  have hb := h.lt
  obtain ⟨ao, c, rfl, hc1, hc2⟩ := hr.val
  have q1 : decide (l.length ≤ k) = true := by simp; omega
  clear h hr
  go_enter Tryd.func22, Tryd.ntmps22
  go_wp2_with fail
  refine wp_region_quiet_lit (by kernel_rfl) (by kernel_rfl) ?_
  repeat (first | go_big_quiet_step (fail) | quiet_step (fail))
  refine wpQuiet_nil ?_
  intro _ hw'
  obtain ⟨nq, hw''⟩ := hw'
  subst hw''
  go_wp2_with fail
  go_ret
  exact ⟨by first | rfl | (rw [q1]), by first | exact below_drews w nq | exact Below.refl _ _⟩

set_option maxRecDepth 100000 in
set_option maxHeartbeats 1600000 in
theorem lexNext_in (b : Nat) (v : Value) (l : List Tok) (k : Nat) (en : Int) (w : World) (B : Nat) (h : RdH w b 70 v k en) (hr : Row w B 4 v l.length (toksC l)) (hB : B ≤ w.heap.size) (hl : l.length ≤ 1000000) (hk : k < l.length) :
    Calls Tryd.prog 18 #[.pointer (some ⟨b, 0, none⟩)] w fun e w' => e = .returned (.agg #[.int .i64 l[k].k, .string l[k].s, .int .i64 l[k].n, .int .i64 l[k].p]) ∧ w.grownBy w' (some b) ∧ RdH w' b 70 v ((k : Int) + 1) en := by
  have hb := h.lt
  have hlm : l.length ≤ maxLen := by unfold maxLen; omega
  have hA : Below w.heap.size w (w.alloc (.cells #[.int .i64 0, .string ⟨#[]⟩, .int .i64 0, .int .i64 0] 37)) := (Below.refl _ w).alloc (Nat.le_refl _) _
  have hP := lexPeek_in b v l k en (w.alloc (.cells #[.int .i64 0, .string ⟨#[]⟩, .int .i64 0, .int .i64 0] 37)) B (h.below hA) (hr.below (hA.mono hB)) (by simp; omega) hlm hk
  have hZ := TkH.new w 37 (.int .i64 0) (.string ⟨#[]⟩) (.int .i64 0) (.int .i64 0)
  have hRA := h.below hA
  have Hr := Lib.hid hr; have HZ := Lib.hid hZ; have HRA := Lib.hid hRA; have Hk := Lib.hid hk; have H := Lib.hid h
  generalize l[k] = t at *
  have HP := Lib.hid hP
  have hk63 : k ≤ 1000000 ∨ l.length ≤ k := by omega
  clear hr hZ hRA hP h
  go_enter Tryd.func18, Tryd.ntmps18
  go_wp2_with fail
  refine HP.out.mono ?_
  rintro e w1 ⟨rfl, hb1⟩
  have hs1 := hb1.size
  have h1 := HRA.out.below hb1
  have z1 := HZ.out.below hb1
  have hA2 : Below w1.heap.size w1 (w1.alloc (.cells #[.int .i64 t.k, .string t.s, .int .i64 t.n, .int .i64 t.p] 37)) := (Below.refl _ w1).alloc (Nat.le_refl _) _
  have h2 := h1.below hA2
  have z2 := z1.below hA2
  have t2 := TkH.new w1 37 (.int .i64 t.k) (.string t.s) (.int .i64 t.n) (.int .i64 t.p)
  have hb02 : Below w.heap.size w (w1.alloc (.cells #[.int .i64 t.k, .string t.s, .int .i64 t.n, .int .i64 t.p] 37)) := (hA.trans (hb1.mono (by simp))).alloc (by simp at hs1; omega) _
  have hr2 := Hr.out.below (hb02.mono hB)
  have HD := Lib.hid (lexDone_in b v l k en _ B h2 hr2 hlm Hk.out)
  have H2 := Lib.hid h2; have Z2 := Lib.hid z2; have T2 := Lib.hid t2
  clear h1 z1 h2 z2 t2 hr2
  go_wp2_with fail
  refine HD.out.mono ?_
  rintro e w3 ⟨rfl, hb3⟩
  have hb03 := hb02.trans (hb3.mono (by simp at hs1 ⊢; omega))
  have h3 := H2.out.below hb3
  obtain ⟨c0, c1, c2, cf⟩ := h3.cells
  obtain ⟨z0, z1, z2, z3, zf⟩ := (Z2.out.below hb3).cells
  obtain ⟨t0, t1, t2, t3, _⟩ := (T2.out.below hb3).cells
  have hz3 := hb03.size; have hs3 := hb3.size
  have n1 : b ≠ w.heap.size := by omega
  have n2 : b ≠ w1.heap.size := by simp at hs1; omega
  have n3 : w.heap.size ≠ w1.heap.size := by simp at hs1; omega
  have H3 := Lib.hid h3
  clear h3
  go_wp2_with fail
  exact bodyPost_ret (v := .agg #[.int .i64 t.k, .string t.s, .int .i64 t.n, .int .i64 t.p]) (by simp [results, Tryd.results18, go_sem, z0, z1, z2, z3]) rfl ⟨rfl, (grown_new (grown_new (grown_new (grown_new (grown_set (grown_of_below hb03 b) _) _ (Nat.le_refl _) _) _ (Nat.le_refl _) _) _ (Nat.le_refl _) _) _ (Nat.le_refl _) _), (RdH.setOther (RdH.setOther (RdH.setOther (RdH.setOther (H3.out.set _) _ _ n1) _ _ n1) _ _ n1) _ _ n1)⟩

set_option maxRecDepth 100000 in
set_option maxHeartbeats 1600000 in
theorem lexNext_out (b : Nat) (v : Value) (l : List Tok) (k : Nat) (en : Int) (w : World) (B : Nat) (h : RdH w b 70 v k en) (hr : Row w B 4 v l.length (toksC l)) (hB : B ≤ w.heap.size) (hl : l.length ≤ 1000000) (hk : l.length ≤ k) :
    Calls Tryd.prog 18 #[.pointer (some ⟨b, 0, none⟩)] w fun e w' => e = .returned (.agg #[.int .i64 0, .string ⟨#[]⟩, .int .i64 0, .int .i64 en]) ∧ w.grownBy w' (some b) ∧ RdH w' b 70 v k en := by
  have hb := h.lt
  have hlm : l.length ≤ maxLen := by unfold maxLen; omega
  have hA : Below w.heap.size w (w.alloc (.cells #[.int .i64 0, .string ⟨#[]⟩, .int .i64 0, .int .i64 0] 37)) := (Below.refl _ w).alloc (Nat.le_refl _) _
  have hP := lexPeek_out b v l k en (w.alloc (.cells #[.int .i64 0, .string ⟨#[]⟩, .int .i64 0, .int .i64 0] 37)) B (h.below hA) (hr.below (hA.mono hB)) (by simp; omega) hlm hk
  have hZ := TkH.new w 37 (.int .i64 0) (.string ⟨#[]⟩) (.int .i64 0) (.int .i64 0)
  have hRA := h.below hA
  have Hr := Lib.hid hr; have HZ := Lib.hid hZ; have HRA := Lib.hid hRA; have Hk := Lib.hid hk; have H := Lib.hid h
  have HP := Lib.hid hP
  have hk63 : k ≤ 1000000 ∨ l.length ≤ k := by omega
  clear hr hZ hRA hP h
  go_enter Tryd.func18, Tryd.ntmps18
  go_wp2_with fail
  refine HP.out.mono ?_
  rintro e w1 ⟨rfl, hb1⟩
  have hs1 := hb1.size
  have h1 := HRA.out.below hb1
  have z1 := HZ.out.below hb1
  have hA2 : Below w1.heap.size w1 (w1.alloc (.cells #[.int .i64 0, .string ⟨#[]⟩, .int .i64 0, .int .i64 en] 37)) := (Below.refl _ w1).alloc (Nat.le_refl _) _
  have h2 := h1.below hA2
  have z2 := z1.below hA2
  have t2 := TkH.new w1 37 (.int .i64 0) (.string ⟨#[]⟩) (.int .i64 0) (.int .i64 en)
  have hb02 : Below w.heap.size w (w1.alloc (.cells #[.int .i64 0, .string ⟨#[]⟩, .int .i64 0, .int .i64 en] 37)) := (hA.trans (hb1.mono (by simp))).alloc (by simp at hs1; omega) _
  have hr2 := Hr.out.below (hb02.mono hB)
  have HD := Lib.hid (lexDone_out b v l k en _ B h2 hr2 hlm Hk.out)
  have H2 := Lib.hid h2; have Z2 := Lib.hid z2; have T2 := Lib.hid t2
  clear h1 z1 h2 z2 t2 hr2
  go_wp2_with fail
  refine HD.out.mono ?_
  rintro e w3 ⟨rfl, hb3⟩
  have hb03 := hb02.trans (hb3.mono (by simp at hs1 ⊢; omega))
  have h3 := H2.out.below hb3
  obtain ⟨c0, c1, c2, cf⟩ := h3.cells
  obtain ⟨z0, z1, z2, z3, zf⟩ := (Z2.out.below hb3).cells
  obtain ⟨t0, t1, t2, t3, _⟩ := (T2.out.below hb3).cells
  have hz3 := hb03.size; have hs3 := hb3.size
  have n1 : b ≠ w.heap.size := by omega
  have n2 : b ≠ w1.heap.size := by simp at hs1; omega
  have n3 : w.heap.size ≠ w1.heap.size := by simp at hs1; omega
  have H3 := Lib.hid h3
  clear h3
  go_wp2_with fail
  exact bodyPost_ret (v := .agg #[.int .i64 0, .string ⟨#[]⟩, .int .i64 0, .int .i64 en]) (by simp [results, Tryd.results18, go_sem, z0, z1, z2, z3]) rfl ⟨rfl, (grown_new (grown_new (grown_new (grown_new (grown_of_below hb03 b) _ (Nat.le_refl _) _) _ (Nat.le_refl _) _) _ (Nat.le_refl _) _) _ (Nat.le_refl _) _), (RdH.setOther (RdH.setOther (RdH.setOther (RdH.setOther H3.out _ _ n1) _ _ n1) _ _ n1) _ _ n1)⟩

set_option maxRecDepth 100000 in
set_option maxHeartbeats 1600000 in
theorem refNext_in (b : Nat) (v : Value) (l : List Tok) (k : Nat) (en : Int) (w : World) (B : Nat) (h : RdH w b 35 v k en) (hr : Row w B 4 v l.length (toksC l)) (hB : B ≤ w.heap.size) (hl : l.length ≤ 1000000) (hk : k < l.length) :
    Calls Tryd.prog 19 #[.pointer (some ⟨b, 0, none⟩)] w fun e w' => e = .returned (.agg #[.int .i64 l[k].k, .string l[k].s, .int .i64 l[k].n, .int .i64 l[k].p]) ∧ w.grownBy w' (some b) ∧ RdH w' b 35 v ((k : Int) + 1) en := by
  have hb := h.lt
  have hlm : l.length ≤ maxLen := by unfold maxLen; omega
  have hA : Below w.heap.size w (w.alloc (.cells #[.int .i64 0, .string ⟨#[]⟩, .int .i64 0, .int .i64 0] 37)) := (Below.refl _ w).alloc (Nat.le_refl _) _
  have hP := refPeek_in b v l k en (w.alloc (.cells #[.int .i64 0, .string ⟨#[]⟩, .int .i64 0, .int .i64 0] 37)) B (h.below hA) (hr.below (hA.mono hB)) (by simp; omega) hlm hk
  have hZ := TkH.new w 37 (.int .i64 0) (.string ⟨#[]⟩) (.int .i64 0) (.int .i64 0)
  have hRA := h.below hA
  have Hr := Lib.hid hr; have HZ := Lib.hid hZ; have HRA := Lib.hid hRA; have Hk := Lib.hid hk; have H := Lib.hid h
  generalize l[k] = t at *
  have HP := Lib.hid hP
  have hk63 : k ≤ 1000000 ∨ l.length ≤ k := by omega
  clear hr hZ hRA hP h
  go_enter Tryd.func19, Tryd.ntmps19
  go_wp2_with fail
  refine HP.out.mono ?_
  rintro e w1 ⟨rfl, hb1⟩
  have hs1 := hb1.size
  have hA2 : Below w1.heap.size w1 (w1.alloc (.cells #[.int .i64 t.k, .string t.s, .int .i64 t.n, .int .i64 t.p] 37)) := (Below.refl _ w1).alloc (Nat.le_refl _) _
  have hb03 : Below w.heap.size w (w1.alloc (.cells #[.int .i64 t.k, .string t.s, .int .i64 t.n, .int .i64 t.p] 37)) := (hA.trans (hb1.mono (by simp))).alloc (by simp at hs1; omega) _
  have h1 := HRA.out.below hb1
  have z1' := HZ.out.below hb1
  have hd : Below (w1.alloc (.cells #[.int .i64 t.k, .string t.s, .int .i64 t.n, .int .i64 t.p] 37)).heap.size (w1.alloc (.cells #[.int .i64 t.k, .string t.s, .int .i64 t.n, .int .i64 t.p] 37)) (w1.alloc (.cells #[.int .i64 t.k, .string t.s, .int .i64 t.n, .int .i64 t.p] 37)).drew := (Below.refl _ _).drew
  have H3 := Lib.hid ((h1.below hA2).below hd)
  have Z3 := Lib.hid ((z1'.below hA2).below hd)
  have T3 := Lib.hid ((TkH.new w1 37 (.int .i64 t.k) (.string t.s) (.int .i64 t.n) (.int .i64 t.p)).below hd)
  have HB3 := Lib.hid (hb03.drew)
  obtain ⟨c0, c1, c2, cf⟩ := h1.cells
  obtain ⟨ao, c, rfl, hc1, hc2⟩ := Hr.out.val
  have n2 : b < w1.heap.size := by simp at hs1; omega
  have hl63 : l.length ≤ 9223372036854775807 := by omega
  have q1 : decide (k < l.length) = true := by have := Hk.out; simp; omega
  clear h1 z1' hA2 hd hb03
  go_wp2_with fail
  go_region
  clear c0 c1 c2 cf
  generalize (w1.alloc (.cells #[.int .i64 t.k, .string t.s, .int .i64 t.n, .int .i64 t.p] 37)).drew = w3 at *
  obtain ⟨c0, c1, c2, cf⟩ := H3.out.cells
  obtain ⟨z0, z1, z2, z3, zf⟩ := Z3.out.cells
  obtain ⟨t0, t1, t2, t3, _⟩ := T3.out.cells
  have n1 : b ≠ w.heap.size := by omega
  have n3 : b ≠ w1.heap.size := by omega
  have n4 : w.heap.size ≠ w1.heap.size := by simp at hs1; omega
  have hk64 : k < 9223372036854775807 ∨ l.length ≤ k := by omega
  go_wp2_with fail
  exact bodyPost_ret (v := .agg #[.int .i64 t.k, .string t.s, .int .i64 t.n, .int .i64 t.p]) (by simp [results, Tryd.results19, go_sem, z0, z1, z2, z3]) rfl ⟨rfl, (grown_new (grown_new (grown_new (grown_new (grown_set (grown_of_below HB3.out b) _) _ (Nat.le_refl _) _) _ (Nat.le_refl _) _) _ (Nat.le_refl _) _) _ (Nat.le_refl _) _), (RdH.setOther (RdH.setOther (RdH.setOther (RdH.setOther (H3.out.set _) _ _ n1) _ _ n1) _ _ n1) _ _ n1)⟩

set_option maxRecDepth 100000 in
set_option maxHeartbeats 1600000 in
theorem refNext_out (b : Nat) (v : Value) (l : List Tok) (k : Nat) (en : Int) (w : World) (B : Nat) (h : RdH w b 35 v k en) (hr : Row w B 4 v l.length (toksC l)) (hB : B ≤ w.heap.size) (hl : l.length ≤ 1000000) (hk : l.length ≤ k) :
    Calls Tryd.prog 19 #[.pointer (some ⟨b, 0, none⟩)] w fun e w' => e = .returned (.agg #[.int .i64 0, .string ⟨#[]⟩, .int .i64 0, .int .i64 en]) ∧ w.grownBy w' (some b) ∧ RdH w' b 35 v k en := by
  have hb := h.lt
  have hlm : l.length ≤ maxLen := by unfold maxLen; omega
  have hA : Below w.heap.size w (w.alloc (.cells #[.int .i64 0, .string ⟨#[]⟩, .int .i64 0, .int .i64 0] 37)) := (Below.refl _ w).alloc (Nat.le_refl _) _
  have hP := refPeek_out b v l k en (w.alloc (.cells #[.int .i64 0, .string ⟨#[]⟩, .int .i64 0, .int .i64 0] 37)) B (h.below hA) (hr.below (hA.mono hB)) (by simp; omega) hlm hk
  have hZ := TkH.new w 37 (.int .i64 0) (.string ⟨#[]⟩) (.int .i64 0) (.int .i64 0)
  have hRA := h.below hA
  have Hr := Lib.hid hr; have HZ := Lib.hid hZ; have HRA := Lib.hid hRA; have Hk := Lib.hid hk; have H := Lib.hid h
  have HP := Lib.hid hP
  have hk63 : k ≤ 1000000 ∨ l.length ≤ k := by omega
  clear hr hZ hRA hP h
  go_enter Tryd.func19, Tryd.ntmps19
  go_wp2_with fail
  refine HP.out.mono ?_
  rintro e w1 ⟨rfl, hb1⟩
  have hs1 := hb1.size
  have hA2 : Below w1.heap.size w1 (w1.alloc (.cells #[.int .i64 0, .string ⟨#[]⟩, .int .i64 0, .int .i64 en] 37)) := (Below.refl _ w1).alloc (Nat.le_refl _) _
  have hb03 : Below w.heap.size w (w1.alloc (.cells #[.int .i64 0, .string ⟨#[]⟩, .int .i64 0, .int .i64 en] 37)) := (hA.trans (hb1.mono (by simp))).alloc (by simp at hs1; omega) _
  have h1 := HRA.out.below hb1
  have z1' := HZ.out.below hb1
  have hd : Below (w1.alloc (.cells #[.int .i64 0, .string ⟨#[]⟩, .int .i64 0, .int .i64 en] 37)).heap.size (w1.alloc (.cells #[.int .i64 0, .string ⟨#[]⟩, .int .i64 0, .int .i64 en] 37)) (w1.alloc (.cells #[.int .i64 0, .string ⟨#[]⟩, .int .i64 0, .int .i64 en] 37)).drew := (Below.refl _ _).drew
  have H3 := Lib.hid ((h1.below hA2).below hd)
  have Z3 := Lib.hid ((z1'.below hA2).below hd)
  have T3 := Lib.hid ((TkH.new w1 37 (.int .i64 0) (.string ⟨#[]⟩) (.int .i64 0) (.int .i64 en)).below hd)
  have HB3 := Lib.hid (hb03.drew)
  obtain ⟨c0, c1, c2, cf⟩ := h1.cells
  obtain ⟨ao, c, rfl, hc1, hc2⟩ := Hr.out.val
  have n2 : b < w1.heap.size := by simp at hs1; omega
  have hl63 : l.length ≤ 9223372036854775807 := by omega
  have q1 : decide (k < l.length) = false := by have := Hk.out; simp; omega
  clear h1 z1' hA2 hd hb03
  go_wp2_with fail
  go_region
  clear c0 c1 c2 cf
  generalize (w1.alloc (.cells #[.int .i64 0, .string ⟨#[]⟩, .int .i64 0, .int .i64 en] 37)).drew = w3 at *
  obtain ⟨c0, c1, c2, cf⟩ := H3.out.cells
  obtain ⟨z0, z1, z2, z3, zf⟩ := Z3.out.cells
  obtain ⟨t0, t1, t2, t3, _⟩ := T3.out.cells
  have n1 : b ≠ w.heap.size := by omega
  have n3 : b ≠ w1.heap.size := by omega
  have n4 : w.heap.size ≠ w1.heap.size := by simp at hs1; omega
  have hk64 : k < 9223372036854775807 ∨ l.length ≤ k := by omega
  go_wp2_with fail
  exact bodyPost_ret (v := .agg #[.int .i64 0, .string ⟨#[]⟩, .int .i64 0, .int .i64 en]) (by simp [results, Tryd.results19, go_sem, z0, z1, z2, z3]) rfl ⟨rfl, (grown_new (grown_new (grown_new (grown_new (grown_of_below HB3.out b) _ (Nat.le_refl _) _) _ (Nat.le_refl _) _) _ (Nat.le_refl _) _) _ (Nat.le_refl _) _), (RdH.setOther (RdH.setOther (RdH.setOther (RdH.setOther H3.out _ _ n1) _ _ n1) _ _ n1) _ _ n1)⟩

set_option maxRecDepth 100000 in
set_option maxHeartbeats 1600000 in
theorem lexTake_out (b : Nat) (v : Value) (l : List Tok) (k : Nat) (en kind : Int) (x : ByteArray) (w : World) (B : Nat) (h : RdH w b 70 v k en) (hr : Row w B 4 v l.length (toksC l)) (hB : B ≤ w.heap.size) (hl : l.length ≤ 1000000) (hk : l.length ≤ k) :
    Calls Tryd.prog 20 #[.pointer (some ⟨b, 0, none⟩), .int .i64 kind, .string x] w fun e w' => e = .returned (.bool false) ∧ w.grownBy w' (some b) ∧ RdH w' b 70 v k en := by
  have hb := h.lt
  have hlm : l.length ≤ maxLen := by unfold maxLen; omega
  have Hr := Lib.hid hr; have H := Lib.hid h; have Hk := Lib.hid hk
  have hk63 : k ≤ 1000000 ∨ l.length ≤ k := by omega

  have HD := Lib.hid (lexDone_out b v l k en w B h hr hlm hk)
  clear h hr
  go_enter Tryd.func20, Tryd.ntmps20
  go_wp2_with fail
  refine HD.out.mono ?_
  rintro e w1 ⟨rfl, hb1⟩
  go_wp2_with fail
  go_ret
  exact ⟨rfl, grown_of_below hb1 b, H.out.below hb1⟩

set_option maxRecDepth 100000 in
set_option maxHeartbeats 1600000 in
theorem lexTake_hit (b : Nat) (v : Value) (l : List Tok) (k : Nat) (en kind : Int) (x : ByteArray) (w : World) (B : Nat) (h : RdH w b 70 v k en) (hr : Row w B 4 v l.length (toksC l)) (hB : B ≤ w.heap.size) (hl : l.length ≤ 1000000) (hk : k < l.length) (hm : kind = l[k].k ∧ x = l[k].s) :
    Calls Tryd.prog 20 #[.pointer (some ⟨b, 0, none⟩), .int .i64 kind, .string x] w fun e w' => e = .returned (.bool true) ∧ w.grownBy w' (some b) ∧ RdH w' b 70 v ((k : Int) + 1) en := by
  have hb := h.lt
  have hlm : l.length ≤ maxLen := by unfold maxLen; omega
  have Hr := Lib.hid hr; have H := Lib.hid h; have Hk := Lib.hid hk
  have hk63 : k ≤ 1000000 ∨ l.length ≤ k := by omega

  have HD := Lib.hid (lexDone_in b v l k en w B h hr hlm hk)
  have HP := Lib.hid fun w' h' r' B' => lexPeek_in b v l k en w' B h' r' B' hlm hk
  generalize l[k] = t at *
  obtain ⟨rfl, rfl⟩ := hm
  clear h hr
  go_enter Tryd.func20, Tryd.ntmps20
  go_wp2_with fail
  refine HD.out.mono ?_
  rintro e w1 ⟨rfl, hb1⟩
  have hs1 := hb1.size
  have h1 := H.out.below hb1
  have HR1 := Lib.hid (Hr.out.below (hb1.mono hB))
  have H1 := Lib.hid h1
  clear h1
  go_wp2_with fail
  refine (HP.out w1 H1.out HR1.out (by omega)).mono ?_
  rintro e w2 ⟨rfl, hb2⟩
  have hs2 := hb2.size
  have hA2 : Below w2.heap.size w2 (w2.alloc (.cells #[.int .i64 t.k, .string t.s, .int .i64 t.n, .int .i64 t.p] 37)) := (Below.refl _ w2).alloc (Nat.le_refl _) _
  have h2 := (H1.out.below hb2).below hA2
  have HX := Lib.hid h2
  have HBX := Lib.hid ((hb1.trans (hb2.mono hs1)).alloc (by omega) (.cells #[.int .i64 t.k, .string t.s, .int .i64 t.n, .int .i64 t.p] 37))
  obtain ⟨c0, c1, c2, cf⟩ := (H1.out.below hb2).cells
  have n1 : b < w2.heap.size := by omega
  clear h2 hA2
  go_wp2_with fail
  go_ret
  exact ⟨rfl, (grown_trans (grown_set (grown_of_below (hb1.trans (hb2.mono hs1)) b) _) ((Below.refl _ _).alloc (Nat.le_refl _) _)), (((H1.out.below hb2).set _).below ((Below.refl _ _).alloc (Nat.le_refl _) _))⟩

set_option maxRecDepth 100000 in
set_option maxHeartbeats 1600000 in
theorem lexTake_miss (b : Nat) (v : Value) (l : List Tok) (k : Nat) (en kind : Int) (x : ByteArray) (w : World) (B : Nat) (h : RdH w b 70 v k en) (hr : Row w B 4 v l.length (toksC l)) (hB : B ≤ w.heap.size) (hl : l.length ≤ 1000000) (hk : k < l.length) (hm : ¬ (kind = l[k].k ∧ x = l[k].s)) :
    Calls Tryd.prog 20 #[.pointer (some ⟨b, 0, none⟩), .int .i64 kind, .string x] w fun e w' => e = .returned (.bool false) ∧ w.grownBy w' (some b) ∧ RdH w' b 70 v k en := by
  have hb := h.lt
  have hlm : l.length ≤ maxLen := by unfold maxLen; omega
  have Hr := Lib.hid hr; have H := Lib.hid h; have Hk := Lib.hid hk
  have hk63 : k ≤ 1000000 ∨ l.length ≤ k := by omega

  have HD := Lib.hid (lexDone_in b v l k en w B h hr hlm hk)
  have HP := Lib.hid fun w' h' r' B' => lexPeek_in b v l k en w' B h' r' B' hlm hk
  generalize l[k] = t at *
  have hm' : ((t.k : Int) != kind) = true ∨ (kind = (t.k : Int) ∧ (t.s.toList == x.toList) = false) := by
    by_cases h1 : kind = (t.k : Int)
    · right
      refine ⟨h1, ?_⟩
      rw [beq_eq_false_iff_ne]
      intro h2
      apply hm
      refine ⟨h1, ?_⟩
      rw [ByteArray.toList_eq, ByteArray.toList_eq] at h2
      exact (strEq h2).symm
    · left
      simp only [bne_iff_ne, ne_eq]
      exact fun h => h1 h.symm
  clear hm
  clear h hr
  go_enter Tryd.func20, Tryd.ntmps20
  go_wp2_with fail
  refine HD.out.mono ?_
  rintro e w1 ⟨rfl, hb1⟩
  have hs1 := hb1.size
  have h1 := H.out.below hb1
  have HR1 := Lib.hid (Hr.out.below (hb1.mono hB))
  have H1 := Lib.hid h1
  clear h1
  go_wp2_with fail
  refine (HP.out w1 H1.out HR1.out (by omega)).mono ?_
  rintro e w2 ⟨rfl, hb2⟩
  have hs2 := hb2.size
  have hA2 : Below w2.heap.size w2 (w2.alloc (.cells #[.int .i64 t.k, .string t.s, .int .i64 t.n, .int .i64 t.p] 37)) := (Below.refl _ w2).alloc (Nat.le_refl _) _
  have h2 := (H1.out.below hb2).below hA2
  have HX := Lib.hid h2
  have HBX := Lib.hid ((hb1.trans (hb2.mono hs1)).alloc (by omega) (.cells #[.int .i64 t.k, .string t.s, .int .i64 t.n, .int .i64 t.p] 37))
  obtain ⟨c0, c1, c2, cf⟩ := (H1.out.below hb2).cells
  have n1 : b < w2.heap.size := by omega
  clear h2 hA2
  rcases hm' with e1 | ⟨rfl, e2⟩
  · go_wp2_with fail
    go_ret
    exact ⟨rfl, (grown_of_below HBX.out b), HX.out⟩
  · go_wp2_with fail
    go_ret
    exact ⟨rfl, (grown_of_below HBX.out b), HX.out⟩

set_option maxRecDepth 100000 in
set_option maxHeartbeats 1600000 in
theorem refTake_out (b : Nat) (v : Value) (l : List Tok) (k : Nat) (en kind : Int) (x : ByteArray) (w : World) (B : Nat) (h : RdH w b 35 v k en) (hr : Row w B 4 v l.length (toksC l)) (hB : B ≤ w.heap.size) (hl : l.length ≤ 1000000) (hk : l.length ≤ k) :
    Calls Tryd.prog 21 #[.pointer (some ⟨b, 0, none⟩), .int .i64 kind, .string x] w fun e w' => e = .returned (.bool false) ∧ w.grownBy w' (some b) ∧ RdH w' b 35 v k en := by
  have hb := h.lt
  have hlm : l.length ≤ maxLen := by unfold maxLen; omega
  have Hr := Lib.hid hr; have H := Lib.hid h; have Hk := Lib.hid hk
  have hk63 : k ≤ 1000000 ∨ l.length ≤ k := by omega

  have HP := Lib.hid (refPeek_out b v l k en w B h hr hB hlm hk)
  clear h hr
  go_enter Tryd.func21, Tryd.ntmps21
  go_wp2_with fail
  refine HP.out.mono ?_
  rintro e w2 ⟨rfl, hb2⟩
  have hs2 := hb2.size
  have hA2 : Below w2.heap.size w2 (w2.alloc (.cells #[.int .i64 0, .string ⟨#[]⟩, .int .i64 0, .int .i64 en] 37)) := (Below.refl _ w2).alloc (Nat.le_refl _) _
  have hd : Below (w2.alloc (.cells #[.int .i64 0, .string ⟨#[]⟩, .int .i64 0, .int .i64 en] 37)).heap.size (w2.alloc (.cells #[.int .i64 0, .string ⟨#[]⟩, .int .i64 0, .int .i64 en] 37)) (w2.alloc (.cells #[.int .i64 0, .string ⟨#[]⟩, .int .i64 0, .int .i64 en] 37)) := Below.refl _ _
  have h2 := (H.out.below hb2).below hA2
  have HX0 := Lib.hid h2
  have HBX0 := Lib.hid (hb2.alloc (by omega) (.cells #[.int .i64 0, .string ⟨#[]⟩, .int .i64 0, .int .i64 en] 37))
  obtain ⟨ao, c, rfl, hc1, hc2⟩ := Hr.out.val
  have q1 : decide (l.length ≤ k) = true := by have := Hk.out; simp; omega
  have HT2 := Lib.hid (TkH.new w2 37 (.int .i64 0) (.string ⟨#[]⟩) (.int .i64 0) (.int .i64 en))
  clear h2 hA2 hd
  go_wp2_with fail
  generalize w2.alloc (.cells #[.int .i64 0, .string ⟨#[]⟩, .int .i64 0, .int .i64 en] 37) = w3 at *
  obtain ⟨c0, c1, c2, cf⟩ := HX0.out.cells
  obtain ⟨t0, t1, t2', t3, tf⟩ := HT2.out.cells
  refine wp_region_quiet_lit (by kernel_rfl) (by kernel_rfl) ?_
  repeat (first | go_big_quiet_step (fail) | quiet_step (fail))
  refine wpQuiet_nil ?_
  intro _ hw'
  obtain ⟨nq, hw''⟩ := hw'
  subst hw''
  have HX := Lib.hid (HX0.out.below (below_drews w3 nq))
  have HBX := Lib.hid (HBX0.out.trans ((below_drews w3 nq).mono (by have := HBX0.out.size; omega)))
  clear c0 c1 c2 cf t0 t1 t2' t3 tf
  generalize w3.drewN nq = w4 at *
  obtain ⟨c0, c1, c2, cf⟩ := HX.out.cells
  go_wp2_with fail
  go_ret
  exact ⟨rfl, (grown_of_below HBX.out b), HX.out⟩

set_option maxRecDepth 100000 in
set_option maxHeartbeats 1600000 in
theorem refTake_hit (b : Nat) (v : Value) (l : List Tok) (k : Nat) (en kind : Int) (x : ByteArray) (w : World) (B : Nat) (h : RdH w b 35 v k en) (hr : Row w B 4 v l.length (toksC l)) (hB : B ≤ w.heap.size) (hl : l.length ≤ 1000000) (hk : k < l.length) (hm : kind = l[k].k ∧ x = l[k].s) :
    Calls Tryd.prog 21 #[.pointer (some ⟨b, 0, none⟩), .int .i64 kind, .string x] w fun e w' => e = .returned (.bool true) ∧ w.grownBy w' (some b) ∧ RdH w' b 35 v ((k : Int) + 1) en := by
  have hb := h.lt
  have hlm : l.length ≤ maxLen := by unfold maxLen; omega
  have Hr := Lib.hid hr; have H := Lib.hid h; have Hk := Lib.hid hk
  have hk63 : k ≤ 1000000 ∨ l.length ≤ k := by omega

  have HP := Lib.hid (refPeek_in b v l k en w B h hr hB hlm hk)
  generalize l[k] = t at *
  obtain ⟨rfl, rfl⟩ := hm
  clear h hr
  go_enter Tryd.func21, Tryd.ntmps21
  go_wp2_with fail
  refine HP.out.mono ?_
  rintro e w2 ⟨rfl, hb2⟩
  have hs2 := hb2.size
  have hA2 : Below w2.heap.size w2 (w2.alloc (.cells #[.int .i64 t.k, .string t.s, .int .i64 t.n, .int .i64 t.p] 37)) := (Below.refl _ w2).alloc (Nat.le_refl _) _
  have hd : Below (w2.alloc (.cells #[.int .i64 t.k, .string t.s, .int .i64 t.n, .int .i64 t.p] 37)).heap.size (w2.alloc (.cells #[.int .i64 t.k, .string t.s, .int .i64 t.n, .int .i64 t.p] 37)) (w2.alloc (.cells #[.int .i64 t.k, .string t.s, .int .i64 t.n, .int .i64 t.p] 37)) := Below.refl _ _
  have h2 := (H.out.below hb2).below hA2
  have HX0 := Lib.hid h2
  have HBX0 := Lib.hid (hb2.alloc (by omega) (.cells #[.int .i64 t.k, .string t.s, .int .i64 t.n, .int .i64 t.p] 37))
  obtain ⟨ao, c, rfl, hc1, hc2⟩ := Hr.out.val
  have q1 : decide (l.length ≤ k) = false := by have := Hk.out; simp; omega
  have HT2 := Lib.hid (TkH.new w2 37 (.int .i64 t.k) (.string t.s) (.int .i64 t.n) (.int .i64 t.p))
  clear h2 hA2 hd
  go_wp2_with fail
  generalize w2.alloc (.cells #[.int .i64 t.k, .string t.s, .int .i64 t.n, .int .i64 t.p] 37) = w3 at *
  obtain ⟨c0, c1, c2, cf⟩ := HX0.out.cells
  obtain ⟨t0, t1, t2', t3, tf⟩ := HT2.out.cells
  refine wp_region_quiet_lit (by kernel_rfl) (by kernel_rfl) ?_
  repeat (first | go_big_quiet_step (fail) | quiet_step (fail))
  refine wpQuiet_nil ?_
  intro _ hw'
  obtain ⟨nq, hw''⟩ := hw'
  subst hw''
  have HX := Lib.hid (HX0.out.below (below_drews w3 nq))
  have HBX := Lib.hid (HBX0.out.trans ((below_drews w3 nq).mono (by have := HBX0.out.size; omega)))
  clear c0 c1 c2 cf t0 t1 t2' t3 tf
  generalize w3.drewN nq = w4 at *
  obtain ⟨c0, c1, c2, cf⟩ := HX.out.cells
  go_wp2_with fail
  go_ret
  exact ⟨rfl, (grown_set (grown_of_below HBX.out b) _), (HX.out.set _)⟩

set_option maxRecDepth 100000 in
set_option maxHeartbeats 1600000 in
theorem refTake_miss (b : Nat) (v : Value) (l : List Tok) (k : Nat) (en kind : Int) (x : ByteArray) (w : World) (B : Nat) (h : RdH w b 35 v k en) (hr : Row w B 4 v l.length (toksC l)) (hB : B ≤ w.heap.size) (hl : l.length ≤ 1000000) (hk : k < l.length) (hm : ¬ (kind = l[k].k ∧ x = l[k].s)) :
    Calls Tryd.prog 21 #[.pointer (some ⟨b, 0, none⟩), .int .i64 kind, .string x] w fun e w' => e = .returned (.bool false) ∧ w.grownBy w' (some b) ∧ RdH w' b 35 v k en := by
  have hb := h.lt
  have hlm : l.length ≤ maxLen := by unfold maxLen; omega
  have Hr := Lib.hid hr; have H := Lib.hid h; have Hk := Lib.hid hk
  have hk63 : k ≤ 1000000 ∨ l.length ≤ k := by omega

  have HP := Lib.hid (refPeek_in b v l k en w B h hr hB hlm hk)
  generalize l[k] = t at *
  have hm' : ((t.k : Int) != kind) = true ∨ (kind = (t.k : Int) ∧ (t.s.toList == x.toList) = false) := by
    by_cases h1 : kind = (t.k : Int)
    · right
      refine ⟨h1, ?_⟩
      rw [beq_eq_false_iff_ne]
      intro h2
      apply hm
      refine ⟨h1, ?_⟩
      rw [ByteArray.toList_eq, ByteArray.toList_eq] at h2
      exact (strEq h2).symm
    · left
      simp only [bne_iff_ne, ne_eq]
      exact fun h => h1 h.symm
  clear hm
  clear h hr
  go_enter Tryd.func21, Tryd.ntmps21
  go_wp2_with fail
  refine HP.out.mono ?_
  rintro e w2 ⟨rfl, hb2⟩
  have hs2 := hb2.size
  have hA2 : Below w2.heap.size w2 (w2.alloc (.cells #[.int .i64 t.k, .string t.s, .int .i64 t.n, .int .i64 t.p] 37)) := (Below.refl _ w2).alloc (Nat.le_refl _) _
  have hd : Below (w2.alloc (.cells #[.int .i64 t.k, .string t.s, .int .i64 t.n, .int .i64 t.p] 37)).heap.size (w2.alloc (.cells #[.int .i64 t.k, .string t.s, .int .i64 t.n, .int .i64 t.p] 37)) (w2.alloc (.cells #[.int .i64 t.k, .string t.s, .int .i64 t.n, .int .i64 t.p] 37)) := Below.refl _ _
  have h2 := (H.out.below hb2).below hA2
  have HX0 := Lib.hid h2
  have HBX0 := Lib.hid (hb2.alloc (by omega) (.cells #[.int .i64 t.k, .string t.s, .int .i64 t.n, .int .i64 t.p] 37))
  obtain ⟨ao, c, rfl, hc1, hc2⟩ := Hr.out.val
  have q1 : decide (l.length ≤ k) = false := by have := Hk.out; simp; omega
  have HT2 := Lib.hid (TkH.new w2 37 (.int .i64 t.k) (.string t.s) (.int .i64 t.n) (.int .i64 t.p))
  clear h2 hA2 hd
  go_wp2_with fail
  generalize w2.alloc (.cells #[.int .i64 t.k, .string t.s, .int .i64 t.n, .int .i64 t.p] 37) = w3 at *
  obtain ⟨c0, c1, c2, cf⟩ := HX0.out.cells
  obtain ⟨t0, t1, t2', t3, tf⟩ := HT2.out.cells
  rcases hm' with e1 | ⟨rfl, e2⟩
  · refine wp_region_quiet_lit (by kernel_rfl) (by kernel_rfl) ?_
    repeat (first | go_big_quiet_step (fail) | quiet_step (fail))
    refine wpQuiet_nil ?_
    intro _ hw'
    obtain ⟨nq, hw''⟩ := hw'
    subst hw''
    have HX := Lib.hid (HX0.out.below (below_drews w3 nq))
    have HBX := Lib.hid (HBX0.out.trans ((below_drews w3 nq).mono (by have := HBX0.out.size; omega)))
    clear c0 c1 c2 cf t0 t1 t2' t3 tf
    generalize w3.drewN nq = w4 at *
    obtain ⟨c0, c1, c2, cf⟩ := HX.out.cells
    go_wp2_with fail
    go_ret
    exact ⟨rfl, (grown_of_below HBX.out b), HX.out⟩
  · refine wp_region_quiet_lit (by kernel_rfl) (by kernel_rfl) ?_
    repeat (first | go_big_quiet_step (fail) | quiet_step (fail))
    refine wpQuiet_nil ?_
    intro _ hw'
    obtain ⟨nq, hw''⟩ := hw'
    subst hw''
    have HX := Lib.hid (HX0.out.below (below_drews w3 nq))
    have HBX := Lib.hid (HBX0.out.trans ((below_drews w3 nq).mono (by have := HBX0.out.size; omega)))
    clear c0 c1 c2 cf t0 t1 t2' t3 tf
    generalize w3.drewN nq = w4 at *
    obtain ⟨c0, c1, c2, cf⟩ := HX.out.cells
    go_wp2_with fail
    go_ret
    exact ⟨rfl, (grown_of_below HBX.out b), HX.out⟩

end Go.Proofs.YteijndfacjgfbaaDoor
