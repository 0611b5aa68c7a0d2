/-
  pack.Cat: the map of what room is left to the beginnings; what a round of it holds.
-/
import Derived.Test.YtimgnbacgdmiiaaKPackI
import Derived.Maps.OwnSet
import Derived.Maps.Views
import Derived.Deep.DeepCutAuto
namespace Go.Proofs.Ytimgnbacgdmiiaa
open Go.RowKit PK Go.Maps Go.WideMaps
set_option linter.unusedVariables false
attribute [local go_sem ↓] append_appM

/-- A slice is read as itself. -/
def RVT (v : Value) : Option (DataW Value × List MemPlace) := some (.held v, [])
theorem keyIntT : Keyed Try.prog 3 := int_keyed Try.underlying3
theorem zeroStrs (w : World) : (zeroValue 32).run Try.prog w = .ok (.slice none 0 0) w := by kernel_rfl
def In64T (k : Int) : Prop := -9223372036854775808 ≤ k ∧ k ≤ 9223372036854775807
theorem keyAtT {k : Int} (h : In64T k) : keyOf Try.prog 3 (.int .i64 k) = some (.int .i64 k) := keyOf_int_mk Try.underlying3 (WalkArith.wf_i64 ⟨h.1, h.2⟩)
/-- Block b is a map that answers f. -/
def MapT (w : World) (b n : Nat) (f : Int → Option Value) : Prop :=
  ∃ D : DataW Value, w.ownsMap Try.prog 3 RVT b n D ∧ IsMap D ∧ ∀ k : Int, Maps.has D (.int .i64 k) = (f k).isSome ∧ ∀ v zd, f k = some v → D.atKey (.int .i64 k) zd = .held v
theorem MapT.made (w : World) : MapT (w.alloc (.map #[] 0)) w.heap.size 0 fun _ => none :=
  ⟨.map [], World.ownsMap_made _ _ _ _, ⟨[], rfl⟩, fun k => ⟨rfl, fun v zd h => by cases h⟩⟩
theorem MapT.look_ok {w : World} {b n : Nat} {f : Int → Option Value} (h : MapT w b n f) (k : Int) (hk : In64T k) :
    ∃ v, (Instr.lookup 122 (.map (some b)) (.int .i64 k) true).run Try.prog w = .ok (.tuple #[v, .bool (f k).isSome]) w := by
  obtain ⟨D, hD, _, hf⟩ := h
  obtain ⟨v, ps, hrun, _⟩ := hD.look_ok keyIntT Try.underlying122 (zeroStrs w) (zd := .held (.slice none 0 0)) (zp := []) rfl (keyAtT hk)
  rw [(hf k).1] at hrun
  exact ⟨v, hrun⟩
theorem MapT.look {w : World} {b n : Nat} {f : Int → Option Value} (h : MapT w b n f) (k : Int) (hk : In64T k) (v : Value) (hv : f k = some v) :
    (Instr.lookup 122 (.map (some b)) (.int .i64 k) false).run Try.prog w = .ok v w := by
  obtain ⟨D, hD, _, hf⟩ := h
  obtain ⟨u, ps, hrun, hu⟩ := hD.lookup keyIntT Try.underlying122 (zeroStrs w) (zd := .held (.slice none 0 0)) (zp := []) rfl (keyAtT hk)
  rw [(hf k).2 v _ hv] at hu
  simp only [RVT, Option.some.injEq, Prod.mk.injEq, DataW.held.injEq] at hu
  rw [← hu.1]; exact hrun
theorem MapT.update {w : World} {b n : Nat} {f : Int → Option Value} (h : MapT w b n f) (hn : n < maxLen) (k : Int) (hk : In64T k) (v : Value) :
    ∃ w', (Instr.mapUpdate 122 (.map (some b)) (.int .i64 k) v).run Try.prog w = .ok () w' ∧ MapT w' b (n + 1) (fun j => if j = k then some v else f j) ∧ w.grownBy w' (some b) := by
  obtain ⟨D, hD, hm, hf⟩ := h
  obtain ⟨w', hrun, hD', hg⟩ := hD.update keyIntT Try.underlying122 hn (keyAtT hk) (val := v) (d := .held v) (ps := []) rfl
  refine ⟨w', hrun, ⟨_, hD', ?_, fun j => ?_⟩, hg⟩
  · obtain ⟨es, rfl⟩ := hm; exact ⟨_, rfl⟩
  · by_cases e : j = k
    · subst e
      rw [has_put_same hm (by trivial)]
      simp only [if_true, Option.isSome_some]
      refine ⟨trivial, fun u zd hu => ?_⟩
      cases hu
      exact atKey_put_same hm (by trivial) ..
    · have hne : (Lit.int .i64 j) ≠ .int .i64 k := fun h => e (by injection h)
      rw [has_put_other hne]
      simp only [if_neg e]
      refine ⟨(hf j).1, fun u zd hu => ?_⟩
      rw [atKey_put_other hne]; exact (hf j).2 u zd hu
theorem MapT.kept {w w' : World} {b n : Nat} {f : Int → Option Value} {row : Option Nat} (h : MapT w b n f) (hg : w.grownBy w' row) (hne : some b ≠ row) : MapT w' b n f := by
  obtain ⟨D, hD, r⟩ := h; exact ⟨D, hD.kept hg hne, r⟩
theorem MapT.lt {w : World} {b n : Nat} {f : Int → Option Value} (h : MapT w b n f) : b < w.heap.size := by
  obtain ⟨D, hD, r⟩ := h; exact hD.lt
theorem grown_of_belowT {w w' : World} (h : Below w.heap.size w w') : w.grownBy w' none := ⟨h.os, h.tape, h.output, h.size, fun k hk _ => h.block k hk⟩
theorem rowKeptT {w w' : World} {s n : Nat} {v : Value} {xs : List Value} {row : Option Nat} (h : Row w w.heap.size s v n xs) (hg : w.grownBy w' row) (hne : ∀ g, v.ownBlock = some g → some g ≠ row) : Row w' w'.heap.size s v n xs := by
  refine ⟨h.1, h.2.1, ?_⟩
  rcases h.2.2 with h0 | ⟨a, c, rfl, h1, h2, h3, hc⟩
  · exact .inl h0
  · refine .inr ⟨a, c, rfl, h1, h2, h3.imp id (fun h => Nat.lt_of_lt_of_le h hg.size), fun j u hu => ?_⟩
    rcases h3 with h0 | h3
    · have := h.1; rw [h0, Nat.zero_mul] at this
      have := List.length_eq_zero_iff.1 this; subst this; simp at hu
    · rw [hg.cell_far (a.add j) (by unfold Addr.add; split <;> exact h3) (by unfold Addr.add; split <;> exact hne a.block rfl)]
      exact hc j u hu

/-- What stands between two rounds of pack.Cat. -/
structure CatInv (w wx : World) (vl : Value) (l b : List Tx) (n : Nat) (f : Int → Option Value) : Prop where
  own : wx.ownsRow w.heap.size 9 1 vl l.length (svt l)
  map : MapT wx w.heap.size n f
  bel : Below w.heap.size w wx
  off : vl.ownBlock ≠ some w.heap.size
  rows : ∀ r v, f r = some v → ∃ q : Nat, r = (q : Int) ∧ Row wx wx.heap.size 1 v (toSet (begT b q)).length (svt (toSet (begT b q))) ∧ ∀ g, v.ownBlock = some g → g < wx.heap.size ∧ g ≠ w.heap.size ∧ vl.ownBlock ≠ some g
theorem CatInv.start (w : World) (b : List Tx) : CatInv w (w.alloc (.map #[] 0)) (.slice none 0 0) [] b 0 fun _ => none :=
  ⟨World.ownsRow_nil _ _ _ _, MapT.made w, (Below.refl _ w).alloc (Nat.le_refl _) _, by simp [Value.ownBlock], fun r v h => by cases h⟩
theorem CatInv.put {w wx w2 w3 : World} {vl v2 : Value} {l b : List Tx} {n : Nat} {f : Int → Option Value} (h : CatInv w wx vl l b n f) (q : Nat) (hb2 : Below wx.heap.size wx w2)
    (hown2 : w2.ownsRow wx.heap.size 9 1 v2 (toSet (begT b q)).length (svt (toSet (begT b q)))) (hm : MapT w3 w.heap.size (n + 1) (fun j => if j = (q : Int) then some v2 else f j)) (hg : w2.grownBy w3 (some w.heap.size)) :
    CatInv w w3 vl l b (n + 1) (fun j => if j = (q : Int) then some v2 else f j) := by
  have hlt := h.map.lt
  have own2 : w2.ownsRow w.heap.size 9 1 vl l.length (svt l) := owns_belowPK h.own hb2
  refine ⟨own2.kept hg (.inr h.off), hm, (h.bel.trans (hb2.mono h.bel.size)).grown hg (by have := h.bel.size; have := hb2.size; omega) (fun k hk => by cases hk; exact Nat.le_refl _), h.off, fun r v hr => ?_⟩
  by_cases e : r = (q : Int)
  · rw [if_pos e] at hr
    cases hr
    refine ⟨q, e, rowKeptT (Row.of_owns hown2) hg fun g hg2 e2 => ?_, fun g hg2 => ?_⟩
    · have := (hown2.lt g hg2).1; cases e2; omega
    · have h1 := (hown2.lt g hg2).1
      have h2 := (hown2.lt g hg2).2
      have h3 := hg.size
      refine ⟨by omega, by omega, fun e2 => ?_⟩
      have := (h.own.lt g e2).2; omega
  · rw [if_neg e] at hr
    obtain ⟨p, hp, hrow, hoff⟩ := h.rows r v hr
    refine ⟨p, hp, rowKeptT (rowKeptT hrow (grown_of_belowT hb2) fun g _ => by simp) hg fun g hg2 e2 => ?_, fun g hg2 => ⟨?_, (hoff g hg2).2⟩⟩
    · cases e2; exact (hoff _ hg2).2.1 rfl
    · have := (hoff g hg2).1; have := hb2.size; have := hg.size; omega
theorem CatInv.push {w wx w3 : World} {vl v3 : Value} {l b : List Tx} {n : Nat} {f : Int → Option Value} (h : CatInv w wx vl l b n f) (z : Tx) (o : Obj) (hg : (wx.alloc o).grownBy w3 vl.ownBlock)
    (hown : w3.ownsRow w.heap.size 9 1 v3 (l ++ [z]).length (svt (l ++ [z]))) (hv : v3.ownBlock = vl.ownBlock ∨ v3.ownBlock = some (wx.heap.size + 1)) : CatInv w w3 v3 (l ++ [z]) b n f := by
  have hlt := h.map.lt
  have hs := hg.size
  rw [World.size_alloc] at hs
  refine ⟨hown, (h.map.kept (World.grownBy_alloc wx o none) (by simp)).kept hg (Ne.symm h.off), ((h.bel.alloc h.bel.size o)).grown hg (by rw [World.size_alloc]; have := h.bel.size; omega) (fun k hk => (h.own.lt k hk).1), ?_, fun r v hr => ?_⟩
  · rcases hv with e | e
    · rw [e]; exact h.off
    · rw [e]; intro e2; injection e2 with e2; omega
  · obtain ⟨q, hq, hrow, hoff⟩ := h.rows r v hr
    refine ⟨q, hq, rowKeptT (rowKeptT hrow (World.grownBy_alloc wx o none) fun g _ => by simp) hg fun g hg2 e2 => (hoff g hg2).2.2 e2.symm, fun g hg2 => ⟨by have := (hoff g hg2).1; omega, (hoff g hg2).2.1, ?_⟩⟩
    rcases hv with e | e
    · rw [e]; exact (hoff g hg2).2.2
    · rw [e]; intro e2; injection e2 with e2
      have := (hoff g hg2).1; omega
/-- What pack.Cat gathers. -/
def gath (a b : List Tx) (n : Nat) : List Tx := a.flatMap fun x => (toSet (begT b (n - x.length))).map fun y => catT x y (n : Int)
theorem gath_take (a b : List Tx) (n m : Nat) (hm : m < a.length) : gath (a.take m) b n ++ (toSet (begT b (n - a[m].length))).map (fun y => catT a[m] y (n : Int)) = gath (a.take (m + 1)) b n := by
  unfold gath; rw [List.take_succ_eq_append_getElem hm, List.flatMap_append]; simp
theorem gath_len (a b : List Tx) (n : Nat) : (gath a b n).length ≤ a.length * b.length := by
  unfold gath
  induction a with
  | nil => simp
  | cons x a ih =>
    rw [List.flatMap_cons, List.length_append, List.length_map, List.length_cons, Nat.succ_mul]
    have := toSet_len (begT b (n - x.length))
    have hb : (begT b (n - x.length)).length = b.length := by unfold begT; simp
    omega
theorem catT_take (x y : Tx) (n : Nat) : catT x (y.take (n - x.length)) (n : Int) = catT x y (n : Int) := by
  unfold catT
  rw [Int.toNat_natCast, List.take_append, List.take_append, List.take_take, Nat.min_self]
theorem gath_set (a b : List Tx) (n : Nat) (k : Int) (hk : k.toNat = n) : toSet (gath a b n) = catL a b k := set_ext (toSet_set _) (toSet_set _) fun z => by
  have hc : ∀ x y, catT x y k = catT x y (n : Int) := fun x y => by unfold catT; rw [hk, Int.toNat_natCast]
  rw [toSet_mem]
  unfold catL gath catsF
  rw [toSet_mem]
  simp only [List.mem_flatMap, List.mem_map, toSet_mem, begT, hc]
  constructor
  · rintro ⟨x, hx, y', ⟨y, hy, rfl⟩, rfl⟩
    exact ⟨x, hx, y, hy, (catT_take x y n).symm⟩
  · rintro ⟨x, hx, y, hy, rfl⟩
    exact ⟨x, hx, _, ⟨y, hy, rfl⟩, catT_take x y n⟩
theorem pushT1 (X : World) (base n : Nat) (v : Value) (l : List Tx) (x : Tx) (hb : base ≤ X.heap.size) (hn : l.length = n) (hown : X.ownsRow base 9 1 v n (svt l)) (hm : n + 1 ≤ 1000000) :
    ∃ ao c w', Sem.run Try.prog (appM #[32, 32] 32 #[v, .slice (some ⟨X.heap.size, 0, none⟩) 1 1]) (X.alloc (.cells #[.string ⟨x.toArray⟩] 9)) = .ok (.slice ao (n + 1) c) w' ∧ w'.ownsRow base 9 1 (.slice ao (n + 1) c) (n + 1) (svt (l ++ [x])) ∧ n + 1 ≤ c ∧ c ≤ maxLen ∧ (X.alloc (.cells #[.string ⟨x.toArray⟩] 9)).grownBy w' v.ownBlock ∧ ((Value.slice ao (n + 1) c).ownBlock = v.ownBlock ∨ (Value.slice ao (n + 1) c).ownBlock = some (X.heap.size + 1)) := by
  obtain ⟨i0, hi, hz0, hz1, hz2⟩ := info_parts info_str
  have rt : Row (X.alloc (.cells #[.string ⟨x.toArray⟩] 9)) (X.heap.size + 1) 1 (.slice (some ⟨X.heap.size, 0, none⟩) 1 1) 1 (svt [x]) := row_cellsB X (svt [x]) 1 1 1 _ rfl (Nat.le_refl _) (by unfold maxLen; omega)
  obtain ⟨v', w', h1, h2, h3, h4⟩ := run_append_row (P := Try.prog) (X.alloc (.cells #[.string ⟨x.toArray⟩] 9)) 32 32 base 9 i0 (.string ByteArray.empty) 1 16 Try.underlying32 hi hz0 hz1 hz2 rfl (by decide) v n (svt l) (hown.alloc _) (X.heap.size + 1) _ 1 (svt [x]) rt (svt_one _) (by unfold maxLen; omega) (by omega) (by simp; omega)
  obtain ⟨ao, c, rfl, hc1, hc2⟩ := owns_valPK h2
  rw [← svt_append] at h2
  rw [World.size_alloc] at h4
  exact ⟨ao, c, w', h1, h2, hc1, hc2, h3, h4⟩
end Go.Proofs.Ytimgnbacgdmiiaa
