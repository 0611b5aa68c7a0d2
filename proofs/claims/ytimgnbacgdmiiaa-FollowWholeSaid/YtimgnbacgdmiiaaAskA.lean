/-
  again.Asks: the map of rows of numbers; what a round of it holds.
-/
import Derived.Test.YtimgnbacgdmiiaaBnfC
import Derived.Test.YtimgnbacgdmiiaaRegT
import Derived.Maps.OwnSet
import Derived.Maps.Views
namespace Go.Proofs.Ytimgnbacgdmiiaa
open Go.RowKit Go.Maps Go.WideMaps
set_option linter.unusedVariables false
set_option linter.unusedSimpArgs false
attribute [local go_sem ↓] append_appM

/-- A slice is read as itself. -/
def RV (v : Value) : Option (DataW Value × List MemPlace) := some (.held v, [])
theorem keyInt : Keyed Try.prog 3 := int_keyed Try.underlying3
theorem zeroInts (w : World) : (zeroValue 22).run Try.prog w = .ok (.slice none 0 0) w := by kernel_rfl
def In64 (k : Int) : Prop := -9223372036854775808 ≤ k ∧ k ≤ 9223372036854775807
theorem keyAt {k : Int} (h : In64 k) : keyOf Try.prog 3 (.int .i64 k) = some (.int .i64 k) := keyOf_int_mk Try.underlying3 (WalkArith.wf_i64 ⟨h.1, h.2⟩)
/-- Block b is a map that answers f. -/
def MapIs (w : World) (b n : Nat) (f : Int → Option Value) : Prop :=
  ∃ D : DataW Value, w.ownsMap Try.prog 3 RV b n D ∧ IsMap D ∧ ∀ k : Int, Maps.has D (.int .i64 k) = (f k).isSome ∧ ∀ v zd, f k = some v → D.atKey (.int .i64 k) zd = .held v
theorem MapIs.made (w : World) : MapIs (w.alloc (.map #[] 0)) w.heap.size 0 fun _ => none :=
  ⟨.map [], World.ownsMap_made _ _ _ _, ⟨[], rfl⟩, fun k => ⟨rfl, fun v zd h => by cases h⟩⟩
theorem MapIs.look_ok {w : World} {b n : Nat} {f : Int → Option Value} (h : MapIs w b n f) (k : Int) (hk : In64 k) :
    ∃ v, (Instr.lookup 73 (.map (some b)) (.int .i64 k) true).run Try.prog w = .ok (.tuple #[v, .bool (f k).isSome]) w := by
  obtain ⟨D, hD, _, hf⟩ := h
  obtain ⟨v, ps, hrun, _⟩ := hD.look_ok keyInt Try.underlying73 (zeroInts w) (zd := .held (.slice none 0 0)) (zp := []) rfl (keyAt hk)
  rw [(hf k).1] at hrun
  exact ⟨v, hrun⟩
theorem MapIs.look {w : World} {b n : Nat} {f : Int → Option Value} (h : MapIs w b n f) (k : Int) (hk : In64 k) (v : Value) (hv : f k = some v) :
    (Instr.lookup 73 (.map (some b)) (.int .i64 k) false).run Try.prog w = .ok v w := by
  obtain ⟨D, hD, _, hf⟩ := h
  obtain ⟨u, ps, hrun, hu⟩ := hD.lookup keyInt Try.underlying73 (zeroInts w) (zd := .held (.slice none 0 0)) (zp := []) rfl (keyAt hk)
  rw [(hf k).2 v _ hv] at hu
  simp only [RV, Option.some.injEq, Prod.mk.injEq, DataW.held.injEq] at hu
  rw [← hu.1]; exact hrun
theorem MapIs.update {w : World} {b n : Nat} {f : Int → Option Value} (h : MapIs w b n f) (hn : n < maxLen) (k : Int) (hk : In64 k) (v : Value) :
    ∃ w', (Instr.mapUpdate 73 (.map (some b)) (.int .i64 k) v).run Try.prog w = .ok () w' ∧ MapIs w' b (n + 1) (fun j => if j = k then some v else f j) ∧ w.grownBy w' (some b) := by
  obtain ⟨D, hD, hm, hf⟩ := h
  obtain ⟨w', hrun, hD', hg⟩ := hD.update keyInt Try.underlying73 hn (keyAt hk) (val := v) (d := .held v) (ps := []) rfl
  refine ⟨w', hrun, ⟨_, hD', ?_, fun j => ?_⟩, hg⟩
  · obtain ⟨es, rfl⟩ := hm; exact ⟨_, rfl⟩
  · by_cases e : j = k
    · subst e
      rw [has_put_same hm (by trivial)]
      simp only [if_true, Option.isSome_some]
      refine ⟨trivial, fun u zd hu => ?_⟩
      cases hu
      exact atKey_put_same hm (by trivial) ..
    · have hne : (Lit.int .i64 j) ≠ .int .i64 k := fun h => e (by injection h)
      rw [has_put_other hne]
      simp only [if_neg e]
      refine ⟨(hf j).1, fun u zd hu => ?_⟩
      rw [atKey_put_other hne]; exact (hf j).2 u zd hu
theorem MapIs.kept {w w' : World} {b n : Nat} {f : Int → Option Value} {row : Option Nat} (h : MapIs w b n f) (hg : w.grownBy w' row) (hne : some b ≠ row) : MapIs w' b n f := by
  obtain ⟨D, hD, r⟩ := h; exact ⟨D, hD.kept hg hne, r⟩
theorem MapIs.lt {w : World} {b n : Nat} {f : Int → Option Value} (h : MapIs w b n f) : b < w.heap.size := by
  obtain ⟨D, hD, r⟩ := h; exact hD.lt
theorem grown_of_below {w w' : World} (h : Below w.heap.size w w') : w.grownBy w' none := ⟨h.os, h.tape, h.output, h.size, fun k hk _ => h.block k hk⟩
theorem rowKept {w w' : World} {s n : Nat} {v : Value} {xs : List Value} {row : Option Nat} (h : Row w w.heap.size s v n xs) (hg : w.grownBy w' row) (hne : ∀ g, v.ownBlock = some g → some g ≠ row) : Row w' w'.heap.size s v n xs := by
  refine ⟨h.1, h.2.1, ?_⟩
  rcases h.2.2 with h0 | ⟨a, c, rfl, h1, h2, h3, hc⟩
  · exact .inl h0
  · refine .inr ⟨a, c, rfl, h1, h2, h3.imp id (fun h => Nat.lt_of_lt_of_le h hg.size), fun j u hu => ?_⟩
    rcases h3 with h0 | h3
    · have := h.1; rw [h0, Nat.zero_mul] at this
      have := List.length_eq_zero_iff.1 this; subst this; simp at hu
    · rw [hg.cell_far (a.add j) (by unfold Addr.add; split <;> exact h3) (by unfold Addr.add; split <;> exact hne a.block rfl)]
      exact hc j u hu

theorem MapIs.look0 {w : World} {b n : Nat} {f : Int → Option Value} (h : MapIs w b n f) (k : Int) (hk : In64 k) (hv : f k = none) :
    (Instr.lookup 73 (.map (some b)) (.int .i64 k) false).run Try.prog w = .ok (.slice none 0 0) w := by
  obtain ⟨D, hD, _, hf⟩ := h
  obtain ⟨u, ps, hrun, hu⟩ := hD.lookup keyInt Try.underlying73 (zeroInts w) (zd := .held (.slice none 0 0)) (zp := []) rfl (keyAt hk)
  rw [atKey_of_not_has (by rw [(hf k).1, hv]; rfl)] at hu
  simp only [RV, Option.some.injEq, Prod.mk.injEq, DataW.held.injEq] at hu
  rw [← hu.1]; exact hrun
theorem MapIs.below {w w' : World} {b n : Nat} {f : Int → Option Value} (h : MapIs w b n f) (hb : Below w.heap.size w w') : MapIs w' b n f := h.kept (grown_of_below hb) (by simp)
/-- What stands between two rounds of again.Asks: each key's row lies by itself. -/
structure AskI (w0 wx : World) (cnt : Nat) (F : Int → Option (Value × List Int)) : Prop where
  map : ∃ n, n ≤ cnt ∧ MapIs wx w0.heap.size n fun k => (F k).map (·.1)
  bel : Below w0.heap.size w0 wx
  rows : ∀ k v l, F k = some (v, l) → wx.ownsRow (w0.heap.size + 1) 3 1 v l.length (ints l) ∧ 0 < l.length ∧ l.length ≤ cnt
  apart : ∀ k k' v l v' l', k ≠ k' → F k = some (v, l) → F k' = some (v', l') → ∀ b, v.ownBlock = some b → v'.ownBlock ≠ some b
theorem AskI.made (w0 : World) : AskI w0 (w0.alloc (.map #[] 0)) 0 fun _ => none :=
  ⟨⟨0, Nat.le_refl _, MapIs.made w0⟩, (Below.refl _ w0).alloc (Nat.le_refl _) _, (fun k v l h => by cases h), (fun k k' v l v' l' _ h => by cases h)⟩
theorem AskI.lt {w0 wx : World} {cnt : Nat} {F : Int → Option (Value × List Int)} (h : AskI w0 wx cnt F) : w0.heap.size < wx.heap.size := by obtain ⟨n, _, hm⟩ := h.map; exact hm.lt
theorem AskI.keep {w0 wx wy : World} {cnt : Nat} {F : Int → Option (Value × List Int)} (h : AskI w0 wx cnt F) (hb : Below wx.heap.size wx wy) : AskI w0 wy cnt F := by
  obtain ⟨n, hn, hm⟩ := h.map
  exact ⟨⟨n, hn, hm.below hb⟩, h.bel.trans (hb.mono h.bel.size), fun k v l e => ⟨owns_belowP (h.rows k v l e).1 hb, (h.rows k v l e).2⟩, h.apart⟩
theorem AskI.more {w0 wx : World} {c c' : Nat} {F : Int → Option (Value × List Int)} (h : AskI w0 wx c F) (hc : c ≤ c') : AskI w0 wx c' F := by
  obtain ⟨n, hn, hm⟩ := h.map
  exact ⟨⟨n, Nat.le_trans hn hc, hm⟩, h.bel, fun k v l e => ⟨(h.rows k v l e).1, (h.rows k v l e).2.1, Nat.le_trans (h.rows k v l e).2.2 hc⟩, h.apart⟩
/-- What a key has by now: its row, or none. -/
def HasRow (F : Int → Option (Value × List Int)) (k : Int) (v : Value) (l : List Int) : Prop := F k = some (v, l) ∨ (F k = none ∧ v = .slice none 0 0 ∧ l = [])
theorem hasRow (F : Int → Option (Value × List Int)) (k : Int) : ∃ v l, HasRow F k v l := by
  cases h : F k with
  | none => exact ⟨_, _, .inr ⟨h, rfl, rfl⟩⟩
  | some p => exact ⟨p.1, p.2, .inl h⟩
theorem AskI.row {w0 wx : World} {cnt : Nat} {F : Int → Option (Value × List Int)} (h : AskI w0 wx cnt F) {k : Int} {v : Value} {l : List Int} (hr : HasRow F k v l) : wx.ownsRow (w0.heap.size + 1) 3 1 v l.length (ints l) ∧ l.length ≤ cnt := by
  rcases hr with hr | ⟨_, rfl, rfl⟩
  · exact ⟨(h.rows k v l hr).1, (h.rows k v l hr).2.2⟩
  · exact ⟨World.ownsRow_nil _ _ _ _, Nat.zero_le _⟩
theorem AskI.look {w0 wx : World} {cnt : Nat} {F : Int → Option (Value × List Int)} (h : AskI w0 wx cnt F) {k : Int} (hk : In64 k) {v : Value} {l : List Int} (hr : HasRow F k v l) :
    (Instr.lookup 73 (.map (some w0.heap.size)) (.int .i64 k) false).run Try.prog wx = .ok v wx := by
  obtain ⟨n, _, hm⟩ := h.map
  rcases hr with hr | ⟨hr, rfl, rfl⟩
  · exact hm.look k hk v (by simp [hr])
  · exact hm.look0 k hk (by simp [hr])
/-- A number is put behind a key's row. -/
theorem AskI.push {w0 wx : World} {cnt : Nat} {F : Int → Option (Value × List Int)} (h : AskI w0 wx cnt F) (hc : cnt ≤ 10000000) {k : Int} (hk : In64 k) {v : Value} {l : List Int} (hr : HasRow F k v l) (i : Int) :
    ∃ a c w3 w4, Sem.run Try.prog (appM #[22, 22] 22 #[v, .slice (some ⟨wx.heap.size, 0, none⟩) 1 1]) (wx.alloc (.cells #[.int .i64 i] 3)).drew = .ok (.slice a (l.length + 1) c) w3 ∧ (∀ q, q < wx.heap.size → v.ownBlock ≠ some q → w3.heap[q]? = wx.heap[q]?) ∧
      (Instr.mapUpdate 73 (.map (some w0.heap.size)) (.int .i64 k) (.slice a (l.length + 1) c)).run Try.prog w3 = .ok () w4 ∧
      AskI w0 w4 (cnt + 1) fun j => if j = k then some (.slice a (l.length + 1) c, l ++ [i]) else F j := by
  obtain ⟨hown, hlc⟩ := h.row hr
  obtain ⟨i0, hi, hz0, hz1, hz2⟩ := info_parts info_intT
  have hlt := h.lt
  have rt : Row (wx.alloc (.cells #[.int .i64 i] 3)).drew (wx.heap.size + 1) 1 (.slice (some ⟨wx.heap.size, 0, none⟩) 1 1) 1 (ints [i]) := row_cellsB wx (ints [i]) 1 1 1 _ rfl (Nat.le_refl _) (by unfold maxLen; omega)
  obtain ⟨v', w3, h1, h2, h3, h4⟩ := run_append_row (P := Try.prog) (wx.alloc (.cells #[.int .i64 i] 3)).drew 22 22 (w0.heap.size + 1) 3 i0 (.int .i64 0) 1 8 Try.underlying22 hi hz0 hz1 hz2 rfl (by decide) v l.length (ints l) (owns_drewN (hown.alloc _)) (wx.heap.size + 1) _ 1 (ints [i]) rt (ints_oneT _) (by unfold maxLen; omega) (by omega) (by simp; omega)
  obtain ⟨a, c, rfl, hc1, hc2⟩ := owns_valP h2
  have h3' : (wx.alloc (.cells #[.int .i64 i] 3)).grownBy w3 v.ownBlock := ⟨h3.os, h3.tape, h3.output, h3.size, h3.block⟩
  have hs : (wx.alloc (.cells #[.int .i64 i] 3)).drew.heap.size = wx.heap.size + 1 := by simp
  rw [hs] at h4
  have h2' : w3.ownsRow (w0.heap.size + 1) 3 1 (.slice a (l.length + 1) c) (l ++ [i]).length (ints (l ++ [i])) := by simpa [ints] using h2
  have hs3 := h3'.size
  rw [World.size_alloc] at hs3
  obtain ⟨n, hn, hm⟩ := h.map
  have hvb : ∀ b, v.ownBlock = some b → w0.heap.size + 1 ≤ b ∧ b < wx.heap.size := fun b e => hown.lt b e
  have hm3 : MapIs w3 w0.heap.size n fun k => (F k).map (·.1) := (hm.kept (World.grownBy_alloc wx _ none) (by simp)).kept h3' (fun e => by have := (hvb _ e.symm).1; omega)
  obtain ⟨w4, hup, hm4, hg4⟩ := hm3.update (by unfold maxLen; omega) k hk (.slice a (l.length + 1) c)
  have hb3 : Below w0.heap.size w0 w3 := (h.bel.alloc h.bel.size _).grown h3' (by simp; omega) (fun b e => by have := (hvb b e).1; omega)
  have hb4 : Below w0.heap.size w0 w4 := hb3.grown hg4 hb3.size (fun b e => by cases e; exact Nat.le_refl _)
  refine ⟨a, c, w3, w4, h1, (fun q hq hne => by rw [h3'.block q (by simp; omega) (fun e => hne e.symm), Below.heap_alloc _ _ _ hq]), hup, ⟨n + 1, by omega, ?_⟩, hb4, fun k' v' l' e => ?_, fun k1 k2 v1 l1 v2 l2 hne e1 e2 b hb => ?_⟩
  · have e : (fun j => if j = k then some (Value.slice a (l.length + 1) c) else (F j).map (·.1)) = fun j => ((if j = k then some (Value.slice a (l.length + 1) c, l ++ [i]) else F j)).map (·.1) := by
      funext j; by_cases hj : j = k <;> simp [hj]
    rw [← e]; exact hm4
  · by_cases hj : k' = k
    · rw [if_pos hj] at e
      cases e
      exact ⟨h2'.kept hg4 (.inr (fun e => by have := (h2'.lt _ e).1; omega)), by simp, by rw [List.length_append]; simp; omega⟩
    · rw [if_neg hj] at e
      obtain ⟨q1, q2, q3⟩ := h.rows k' v' l' e
      have hne : ∀ b, v'.ownBlock = some b → v.ownBlock ≠ some b := fun b hb hv => by
        rcases hr with hr | ⟨_, rfl, _⟩
        · exact h.apart k' k v' l' v l hj e hr b hb hv
        · cases hv
      have q4 : w3.ownsRow (w0.heap.size + 1) 3 1 v' l'.length (ints l') := owns_blockN q1 fun b hb => by
        have := (q1.lt b hb).2
        rw [h3'.block b (by simp; omega) (fun e => hne b hb e.symm), Below.heap_alloc _ _ _ this]
      exact ⟨q4.kept hg4 (.inr (fun e => by have := (q4.lt _ e).1; omega)), q2, by omega⟩
  · have hold : ∀ k' v' l', k' ≠ k → F k' = some (v', l') → ∀ b, v'.ownBlock = some b → (Value.slice a (l.length + 1) c).ownBlock ≠ some b := fun k' v' l' hj e b hb hv => by
      rcases h4 with h4 | h4
      · rw [h4] at hv
        rcases hr with hr | ⟨_, rfl, _⟩
        · exact h.apart k' k v' l' v l hj e hr b hb hv
        · cases hv
      · rw [h4] at hv
        have := Option.some.inj hv
        have := ((h.rows k' v' l' e).1.lt b hb).2; omega
    by_cases hj1 : k1 = k
    · by_cases hj2 : k2 = k
      · exact absurd (hj1.trans hj2.symm) hne
      · rw [if_pos hj1] at e1; rw [if_neg hj2] at e2
        cases e1
        exact fun hv => hold k2 v2 l2 hj2 e2 b hv hb
    · rw [if_neg hj1] at e1
      by_cases hj2 : k2 = k
      · rw [if_pos hj2] at e2
        cases e2
        exact hold k1 v1 l1 hj1 e1 b hb
      · rw [if_neg hj2] at e2
        exact h.apart k1 k2 v1 l1 v2 l2 hne e1 e2 b hb
def AskS (L : List Pr) (F : Int → Option (Value × List Int)) : Prop := ∀ k v l, F k = some (v, l) → ∀ x ∈ l, ∃ q : Nat, q < L.length ∧ x = (q : Int)
/-- A number stands in a key's row. -/
def AskG (F : Int → Option (Value × List Int)) (x k : Int) : Prop := ∃ v l, F k = some (v, l) ∧ x ∈ l
def AskC (L : List Pr) (F : Int → Option (Value × List Int)) (q : Nat) : Prop := ∀ p, p < q → ∀ x, L[p]? = some x → ∀ s ∈ x.right, s.tok = false → AskG F (p : Int) s.n
def AskP (F : Int → Option (Value × List Int)) (q : Nat) (r : List Sy) : Prop := ∀ s ∈ r, s.tok = false → AskG F (q : Int) s.n
theorem AskG.push {F : Int → Option (Value × List Int)} {k : Int} {v : Value} {l : List Int} (hr : HasRow F k v l) (v' : Value) (i : Int) {x n : Int} (h : AskG F x n) : AskG (fun j => if j = k then some (v', l ++ [i]) else F j) x n := by
  obtain ⟨u, m, h1, h2⟩ := h
  by_cases e : n = k
  · subst e
    rcases hr with hr | ⟨hr, _, _⟩
    · rw [hr] at h1; cases h1
      exact ⟨v', l ++ [i], by simp, List.mem_append_left _ h2⟩
    · rw [hr] at h1; cases h1
  · exact ⟨u, m, by simp [e, h1], h2⟩
theorem AskG.new {F : Int → Option (Value × List Int)} {k : Int} {l : List Int} (v' : Value) (i : Int) : AskG (fun j => if j = k then some (v', l ++ [i]) else F j) i k := ⟨v', l ++ [i], by simp, by simp⟩
theorem AskS.push {L : List Pr} {F : Int → Option (Value × List Int)} (h : AskS L F) {k : Int} {v : Value} {l : List Int} (hr : HasRow F k v l) (v' : Value) (q : Nat) (hq : q < L.length) : AskS L (fun j => if j = k then some (v', l ++ [(q : Int)]) else F j) := by
  intro k' u m h1 x hx
  by_cases e : k' = k
  · subst e
    simp only [if_true, Option.some.injEq, Prod.mk.injEq] at h1
    obtain ⟨_, rfl⟩ := h1
    rcases List.mem_append.1 hx with hx | hx
    · rcases hr with hr | ⟨_, _, rfl⟩
      · exact h k' v l hr x hx
      · cases hx
    · exact ⟨q, hq, List.mem_singleton.1 hx⟩
  · simp only [if_neg e] at h1
    exact h k' u m h1 x hx
def AskPost (w : World) (L : List Pr) (e : Ending) (w' : World) : Prop := ∃ w1 c F, e = .returned (.map (some w1.heap.size)) ∧ Below w.heap.size w w1 ∧ AskI w1 w' c F ∧ AskS L F ∧ AskC L F L.length
end Go.Proofs.Ytimgnbacgdmiiaa
