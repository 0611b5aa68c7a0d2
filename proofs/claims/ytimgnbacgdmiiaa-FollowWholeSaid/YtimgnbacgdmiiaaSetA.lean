/-
  again.Settle, plain and in memory.
-/
import Derived.Test.YtimgnbacgdmiiaaAskA
namespace Go.Proofs.Ytimgnbacgdmiiaa
open Go.RowKit
set_option linter.unusedVariables false
set_option linter.unusedSimpArgs false

structure KB (n g : Nat) (w w' : World) : Prop where
  os : w'.os = w.os
  tape : w'.tape = w.tape
  output : w'.output = w.output
  size : w.heap.size ≤ w'.heap.size
  block : ∀ k, k < n → k ≠ g → w'.heap[k]? = w.heap[k]?
theorem KB.refl (n g : Nat) (w : World) : KB n g w w := ⟨rfl, rfl, rfl, Nat.le_refl _, fun _ _ _ => rfl⟩
theorem KB.trans {n g : Nat} {a b c : World} (h : KB n g a b) (k : KB n g b c) : KB n g a c :=
  ⟨k.os.trans h.os, k.tape.trans h.tape, k.output.trans h.output, Nat.le_trans h.size k.size, fun j hj hg => (k.block j hj hg).trans (h.block j hj hg)⟩
theorem KB.of_below {n g : Nat} {w w' : World} (h : Below n w w') : KB n g w w' := ⟨h.os, h.tape, h.output, h.size, fun j hj _ => h.block j hj⟩
theorem KB.below {n g B : Nat} {w w' : World} (h : KB n g w w') (h1 : B ≤ g) (h2 : B ≤ n) : Below B w w' := ⟨h.os, h.tape, h.output, h.size, fun j hj => h.block j (by omega) (by omega)⟩
theorem KB.grown {n g : Nat} {a w w' : World} {row : Option Nat} (h : KB n g a w) (hg : w.grownBy w' row) (hn : n ≤ w.heap.size) (hr : ∀ k, row = some k → n ≤ k ∨ k = g) : KB n g a w' :=
  ⟨hg.os.trans h.os, hg.tape.trans h.tape, hg.output.trans h.output, Nat.le_trans h.size hg.size, fun j hj hne => (hg.block j (by omega) (fun e => by rcases hr j e.symm with h | h <;> omega)).trans (h.block j hj hne)⟩
theorem KB.setCell {n g : Nat} {a w : World} (h : KB n g a w) {p : Addr} (hp : n ≤ p.block ∨ p.block = g) (u : Value) : KB n g a (w.setCell p u) :=
  ⟨h.os, h.tape, h.output, by simpa [World.setCell] using h.size, fun j hj hs => by
    rw [Below.heap_setCell _ _ _ _ (fun e => by subst e; rcases hp with h | h <;> omega)]; exact h.block j hj hs⟩
theorem KB.drews {n g : Nat} {a w : World} (h : KB n g a w) (m : Nat) : KB n g a (w.drewN m) := ⟨h.os, h.tape, h.output, h.size, h.block⟩
theorem KB.mono {n m g : Nat} {w w' : World} (h : KB n g w w') (hm : m ≤ n) : KB m g w w' := ⟨h.os, h.tape, h.output, h.size, fun k hk hg => h.block k (by omega) hg⟩
def bools (l : List Bool) : List Value := l.map .bool
theorem bools_length (l : List Bool) : (bools l).length = l.length := by simp [bools]
theorem bools_at (l : List Bool) (j : Nat) (hj : j < l.length) : (bools l)[j]? = some (.bool l[j]) := by simp [bools, hj]
theorem bools_set (l : List Bool) (j : Nat) (v : Bool) : (bools l).set j (.bool v) = bools (l.set j v) := by simp [bools, List.map_set]
/-- What Settle owns: who waits, and the list. -/
structure SetI (ws wx : World) (g n : Nat) (wv lv : Value) (W : List Bool) (l : List Int) : Prop where
  w : wx.ownsRow ws.heap.size 4 1 wv n (bools W)
  l : wx.ownsRow ws.heap.size 3 1 lv l.length (ints l)
  ap : ∀ b, wv.ownBlock = some b → lv.ownBlock ≠ some b
  kb : KB ws.heap.size g ws wx
theorem SetI.len {ws wx : World} {g n : Nat} {wv lv : Value} {W : List Bool} {l : List Int} (h : SetI ws wx g n wv lv W l) : W.length = n := by
  have := h.w.1; rw [bools_length] at this; omega
theorem SetI.call {ws wx wy : World} {g n : Nat} {wv lv : Value} {W : List Bool} {l : List Int} (h : SetI ws wx g n wv lv W l) (hg : g < ws.heap.size) (hk : KB wx.heap.size g wx wy) : SetI ws wy g n wv lv W l :=
  ⟨owns_blockN h.w fun k e => hk.block k (h.w.lt k e).2 (by have := (h.w.lt k e).1; omega), owns_blockN h.l fun k e => hk.block k (h.l.lt k e).2 (by have := (h.l.lt k e).1; omega), h.ap, h.kb.trans (hk.mono h.kb.size)⟩
theorem SetI.put {ws wx : World} {g n c gw : Nat} {lv : Value} {W : List Bool} {l : List Int} (h : SetI ws wx g n (.slice (some ⟨gw, 0, none⟩) n c) lv W l) (j : Nat) (hj : j < n) (v : Bool) :
    SetI ws (wx.setCell ⟨gw, j, none⟩ (.bool v)) g n (.slice (some ⟨gw, 0, none⟩) n c) lv (W.set j v) l := by
  have hgw := h.w.lt gw rfl
  refine ⟨by rw [← bools_set]; exact owns_setN h.w j (by rw [bools_length, h.len]; exact hj) _, owns_blockN h.l fun k e => Below.heap_setCell _ _ _ _ fun e2 => ?_, h.ap, KB.setCell h.kb (.inl hgw.1) _⟩
  have e3 : k = gw := e2
  exact h.ap gw rfl (by rw [e, e3])
theorem SetI.push {ws wx : World} {g n : Nat} {wv lv : Value} {W : List Bool} {l : List Int} (h : SetI ws wx g n wv lv W l) (i : Int) (hl : l.length + 1 ≤ 1000000000000) :
    ∃ a c w3, Sem.run Try.prog (appM #[22, 22] 22 #[lv, .slice (some ⟨wx.heap.size, 0, none⟩) 1 1]) (wx.alloc (.cells #[.int .i64 i] 3)) = .ok (.slice a (l.length + 1) c) w3 ∧ SetI ws w3 g n wv (.slice a (l.length + 1) c) W (l ++ [i]) ∧ Below ws.heap.size wx w3 := by
  obtain ⟨i0, hi, hz0, hz1, hz2⟩ := info_parts info_intT
  have rt : Row (wx.alloc (.cells #[.int .i64 i] 3)) (wx.heap.size + 1) 1 (.slice (some ⟨wx.heap.size, 0, none⟩) 1 1) 1 (ints [i]) := row_cellsB wx (ints [i]) 1 1 1 _ rfl (Nat.le_refl _) (by unfold maxLen; omega)
  obtain ⟨v', w3, h1, h2, h3, h4⟩ := run_append_row (P := Try.prog) (wx.alloc (.cells #[.int .i64 i] 3)) 22 22 ws.heap.size 3 i0 (.int .i64 0) 1 8 Try.underlying22 hi hz0 hz1 hz2 rfl (by decide) lv l.length (ints l) (h.l.alloc _) (wx.heap.size + 1) _ 1 (ints [i]) rt (ints_oneT _) (by unfold maxLen; omega) (by omega) (by have := h.kb.size; simp; omega)
  obtain ⟨a, c, rfl, _, _⟩ := owns_valP h2
  rw [World.size_alloc] at h4
  refine ⟨a, c, w3, h1, ⟨owns_blockN h.w fun k e => ?_, by simpa [ints] using h2, fun k e hv => ?_, KB.grown (KB.trans h.kb (KB.of_below ((Below.refl ws.heap.size wx).alloc h.kb.size _))) h3 (by have := h.kb.size; simp; omega) fun k e => .inl (h.l.lt k e).1⟩, ((Below.refl ws.heap.size wx).alloc h.kb.size _).grown h3 (by have := h.kb.size; simp; omega) fun k e => (h.l.lt k e).1⟩
  · have hk := (h.w.lt k e).2
    rw [h3.block k (by simp; omega) (fun e2 => h.ap k e e2.symm), Below.heap_alloc _ _ _ hk]
  · rcases h4 with h4 | h4
    · rw [h4] at hv; exact h.ap k e hv
    · rw [h4] at hv; have := Option.some.inj hv; have := (h.w.lt k e).2; omega

/-- What is asked of a look: at what states it is used, what it changes (a number from 0 on, or less: nothing), that it comes to an end, and that what doesn't ask for a change stays quiet. -/
structure Look {σ : Type} (n : Nat) (ask : Int → List Int) (look : σ → Nat → σ × Int) (μ : σ → Nat) (Inv : σ → Prop) : Prop where
  neg : ∀ st i, i < n → Inv st → (look st i).2 < 0 → (look st i).1 = st
  inv : ∀ st i, i < n → Inv st → Inv (look st i).1
  dec : ∀ st i, i < n → Inv st → 0 ≤ (look st i).2 → μ (look st i).1 < μ st
  quiet : ∀ st i j, i < n → j < n → Inv st → 0 ≤ (look st i).2 → (j : Int) ∉ ask (look st i).2 → ((look st j).2 < 0 ∨ j = i) → (look (look st i).1 j).2 < 0
  wide : ∀ st i, i < n → Inv st → In64 (look st i).2
structure SetP {σ : Type} (n : Nat) (ask : Int → List Int) (look : σ → Nat → σ × Int) (μ : σ → Nat) (Inv : σ → Prop) (B0 : Nat) (st : σ) (a : Nat) (W : List Bool) (l : List Int) : Prop where
  inv : Inv st
  wl : W.length = n
  mem : ∀ x ∈ l, ∃ q : Nat, q < n ∧ x = (q : Int)
  wait : ∀ q, q < n → W[q]? = some true → (q : Int) ∈ l.drop a
  quiet : ∀ q, q < n → W[q]? = some false → (look st q).2 < 0
  bd : l.length + μ st * n ≤ B0
structure SetQ {σ : Type} (n : Nat) (ask : Int → List Int) (look : σ → Nat → σ × Int) (μ : σ → Nat) (Inv : σ → Prop) (B0 : Nat) (st : σ) (c : Int) (a L0 t : Nat) (W : List Bool) (l : List Int) : Prop where
  inv : Inv st
  wl : W.length = n
  mem : ∀ x ∈ l, ∃ q : Nat, q < n ∧ x = (q : Int)
  wait : ∀ q, q < n → W[q]? = some true → (q : Int) ∈ l.drop (a + 1)
  quiet : ∀ q, q < n → W[q]? = some false → (q : Int) ∈ (ask c).drop t ∨ (look st q).2 < 0
  cnt : l.length + W.count false ≤ L0 + n
  bd : L0 + (μ st + 1) * n ≤ B0
  al : a + 1 ≤ l.length
section
variable {σ : Type} {n : Nat} {ask : Int → List Int} {look : σ → Nat → σ × Int} {μ : σ → Nat} {Inv : σ → Prop} {B0 : Nat}
theorem set_at (W : List Bool) (i q : Nat) (v x : Bool) (h : (W.set i v)[q]? = some x) : (q = i ∧ x = v) ∨ (q ≠ i ∧ W[q]? = some x) := by
  rw [List.getElem?_set] at h
  by_cases e : i = q
  · rw [if_pos e] at h
    split at h
    · cases h; exact .inl ⟨e.symm, rfl⟩
    · cases h
  · rw [if_neg e] at h; exact .inr ⟨Ne.symm e, h⟩
theorem drop_ne {l : List Int} {a : Nat} {x y : Int} (ha : a < l.length) (hx : l[a] = x) (h : y ∈ l.drop a) (hne : y ≠ x) : y ∈ l.drop (a + 1) := by
  rw [List.drop_eq_getElem_cons ha, List.mem_cons, hx] at h
  exact h.resolve_left hne
theorem SetP.neg {st : σ} {a : Nat} {W : List Bool} {l : List Int} (h : SetP n ask look μ Inv B0 st a W l) (i : Nat) (hi : i < n) (ha : a < l.length) (hx : l[a] = (i : Int)) (hn : (look st i).2 < 0) : SetP n ask look μ Inv B0 st (a + 1) (W.set i false) l :=
  ⟨h.inv, by rw [List.length_set]; exact h.wl, h.mem, fun q hq e => by
    rcases set_at W i q false true e with ⟨_, e2⟩ | ⟨hne, e2⟩
    · cases e2
    · exact drop_ne ha hx (h.wait q hq e2) (by omega), fun q hq e => by
    rcases set_at W i q false false e with ⟨rfl, _⟩ | ⟨_, e2⟩
    · exact hn
    · exact h.quiet q hq e2, h.bd⟩
theorem SetP.pos {st : σ} {a : Nat} {W : List Bool} {l : List Int} (h : SetP n ask look μ Inv B0 st a W l) (L : Look n ask look μ Inv) (i : Nat) (hi : i < n) (ha : a < l.length) (hx : l[a] = (i : Int)) (hn : 0 ≤ (look st i).2) :
    SetQ n ask look μ Inv B0 (look st i).1 (look st i).2 a l.length 0 (W.set i false) l :=
  ⟨L.inv st i hi h.inv, by rw [List.length_set]; exact h.wl, h.mem, fun q hq e => by
    rcases set_at W i q false true e with ⟨_, e2⟩ | ⟨hne, e2⟩
    · cases e2
    · exact drop_ne ha hx (h.wait q hq e2) (by omega), fun q hq e => by
    rw [List.drop_zero]
    by_cases hm : (q : Int) ∈ ask (look st i).2
    · exact .inl hm
    · right
      refine L.quiet st i q hi hq h.inv hn hm ?_
      rcases set_at W i q false false e with ⟨rfl, _⟩ | ⟨_, e2⟩
      · exact .inr rfl
      · exact .inl (h.quiet q hq e2), by
    have h1 : (W.set i false).count false ≤ (W.set i false).length := List.count_le_length
    rw [List.length_set, h.wl] at h1
    omega, by
    have h1 := L.dec st i hi h.inv hn
    have h2 : (μ (look st i).1 + 1) * n ≤ μ st * n := Nat.mul_le_mul_right n h1
    have h3 := h.bd
    omega, ha⟩
theorem SetQ.no {st : σ} {c : Int} {a L0 t : Nat} {W : List Bool} {l : List Int} (h : SetQ n ask look μ Inv B0 st c a L0 t W l) (x : Nat) (hx : x < n) (ht : t < (ask c).length) (hat : (ask c)[t] = (x : Int)) (hw : W[x]? = some true) : SetQ n ask look μ Inv B0 st c a L0 (t + 1) W l :=
  ⟨h.inv, h.wl, h.mem, h.wait, fun q hq e => by
    rcases h.quiet q hq e with h1 | h1
    · exact .inl (drop_ne ht hat h1 (fun e2 => by
        have e3 : q = x := by omega
        rw [e3, hw] at e; cases e))
    · exact .inr h1, h.cnt, h.bd, h.al⟩
theorem SetQ.yes {st : σ} {c : Int} {a L0 t : Nat} {W : List Bool} {l : List Int} (h : SetQ n ask look μ Inv B0 st c a L0 t W l) (x : Nat) (hx : x < n) (ht : t < (ask c).length) (hat : (ask c)[t] = (x : Int)) (hw : W[x]? = some false) : SetQ n ask look μ Inv B0 st c a L0 (t + 1) (W.set x true) (l ++ [(x : Int)]) :=
  ⟨h.inv, by rw [List.length_set]; exact h.wl, fun y hy => by
    rcases List.mem_append.1 hy with hy | hy
    · exact h.mem y hy
    · exact ⟨x, hx, List.mem_singleton.1 hy⟩, fun q hq e => by
    rw [List.drop_append_of_le_length h.al, List.mem_append]
    rcases set_at W x q true true e with ⟨rfl, _⟩ | ⟨_, e2⟩
    · exact .inr (by simp)
    · exact .inl (h.wait q hq e2), fun q hq e => by
    rcases set_at W x q true false e with ⟨_, e2⟩ | ⟨hne, e2⟩
    · cases e2
    · rcases h.quiet q hq e2 with h1 | h1
      · exact .inl (drop_ne ht hat h1 (by omega))
      · exact .inr h1, by
    have hxl : x < W.length := by rw [h.wl]; exact hx
    have e1 : W[x] = false := by rw [List.getElem?_eq_getElem hxl] at hw; exact Option.some.inj hw
    have h1 := List.count_set (a := true) (b := false) (l := W) (i := x) hxl
    rw [e1] at h1
    have h2 : 0 < W.count false := List.count_pos_iff.2 (by rw [← e1]; exact List.getElem_mem hxl)
    have h3 := h.cnt
    rw [List.length_append, h1]
    simp
    omega, h.bd, by rw [List.length_append]; have := h.al; omega⟩
theorem SetQ.fin {st : σ} {c : Int} {a L0 t : Nat} {W : List Bool} {l : List Int} (h : SetQ n ask look μ Inv B0 st c a L0 t W l) (ht : (ask c).length ≤ t) : SetP n ask look μ Inv B0 st (a + 1) W l :=
  ⟨h.inv, h.wl, h.mem, h.wait, fun q hq e => by
    rcases h.quiet q hq e with h1 | h1
    · rw [List.drop_of_length_le ht] at h1; cases h1
    · exact h1, by
    have h1 := h.cnt; have h2 := h.bd
    have h3 : (μ st + 1) * n = μ st * n + n := Nat.succ_mul _ _
    omega⟩
theorem SetP.start {st : σ} (hi : Inv st) (hb : n + μ st * n ≤ B0) : SetP n ask look μ Inv B0 st 0 (List.replicate n true) ((List.range n).map fun q => ((q : Nat) : Int)).reverse :=
  ⟨hi, by simp, fun x hx => by
    rw [List.mem_reverse, List.mem_map] at hx
    obtain ⟨q, hq, rfl⟩ := hx
    exact ⟨q, List.mem_range.1 hq, rfl⟩, fun q hq _ => by
    rw [List.drop_zero, List.mem_reverse, List.mem_map]
    exact ⟨q, List.mem_range.2 hq, rfl⟩, fun q hq e => (by
    rw [List.getElem?_replicate, if_pos hq] at e; cases e), by simpa using hb⟩
theorem SetP.done {st : σ} {a : Nat} {W : List Bool} {l : List Int} (h : SetP n ask look μ Inv B0 st a W l) (ha : l.length ≤ a) : ∀ q, q < n → (look st q).2 < 0 := fun q hq => by
  have hql : q < W.length := by rw [h.wl]; exact hq
  cases hW : W[q] with
  | false => exact h.quiet q hq (by rw [List.getElem?_eq_getElem hql, hW])
  | true =>
    have := h.wait q hq (by rw [List.getElem?_eq_getElem hql, hW])
    rw [List.drop_of_length_le ha] at this
    cases this
end
end Go.Proofs.Ytimgnbacgdmiiaa
