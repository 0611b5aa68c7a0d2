/-
  Maps from any key that can be told, to whatever values.
-/
import Derived.Test.YtimgnbacgdmiiaaKPackK
import Derived.DeepKeys4
namespace Go.Proofs.Ytimgnbacgdmiiaa
open Go.RowKit PK Go.Maps Go.WideMaps
set_option linter.unusedVariables false
set_option linter.unusedSimpArgs false
open Classical in
/-- What a map answers behind a store. -/
noncomputable def putF (f : Value → Option Value) (key v : Value) : Value → Option Value := fun j => if j = key then some v else f j
theorem putF_same (f : Value → Option Value) (key v : Value) : putF f key v key = some v := by unfold putF; rw [if_pos rfl]
theorem putF_other (f : Value → Option Value) {key v j : Value} (h : j ≠ key) : putF f key v j = f j := by unfold putF; rw [if_neg h]
/-- What a map answers. -/
def MapG (K : TypeId) (w : World) (b n : Nat) (f : Value → Option Value) : Prop :=
  ∃ D : DataW Value, w.ownsMap Try.prog K RVT b n D ∧ IsMap D ∧ ∀ key kl, keyOf Try.prog K key = some kl → Maps.has D kl = (f key).isSome ∧ ∀ v zd, f key = some v → D.atKey kl zd = .held v
theorem MapG.made (K : TypeId) (w : World) : MapG K (w.alloc (.map #[] 0)) w.heap.size 0 fun _ => none :=
  ⟨.map [], World.ownsMap_made _ _ _ _, ⟨[], rfl⟩, fun key kl _ => ⟨rfl, fun v zd h => by cases h⟩⟩
theorem MapG.look_ok {K T E : TypeId} {z : Value} (hK : Keyed Try.prog K) (hT : Try.prog.underlying T = some (.map K E)) {w : World} (hz : (zeroValue E).run Try.prog w = .ok z w) {b n : Nat} {f : Value → Option Value} (h : MapG K w b n f) {key : Value} {kl : Lit} (hk : keyOf Try.prog K key = some kl) :
    ∃ v, (Instr.lookup T (.map (some b)) key true).run Try.prog w = .ok (.tuple #[v, .bool (f key).isSome]) w ∧ ∀ x, f key = some x → v = x := by
  obtain ⟨D, hD, _, hf⟩ := h
  obtain ⟨v, ps, hrun, hu⟩ := hD.look_ok hK hT hz (zd := .held z) (zp := []) rfl hk
  rw [(hf key kl hk).1] at hrun
  refine ⟨v, hrun, fun x hx => ?_⟩
  rw [(hf key kl hk).2 x _ hx] at hu
  simp only [RVT, Option.some.injEq, Prod.mk.injEq, DataW.held.injEq] at hu
  exact hu.1
theorem MapG.update {K T E : TypeId} (hK : Keyed Try.prog K) (hT : Try.prog.underlying T = some (.map K E)) {w : World} {b n : Nat} {f : Value → Option Value} (h : MapG K w b n f) (hn : n < maxLen) {key : Value} {kl : Lit} (hk : keyOf Try.prog K key = some kl) (v : Value) :
    ∃ w', (Instr.mapUpdate T (.map (some b)) key v).run Try.prog w = .ok () w' ∧ MapG K w' b (n + 1) (putF f key v) ∧ w.grownBy w' (some b) := by
  obtain ⟨D, hD, hm, hf⟩ := h
  obtain ⟨w', hrun, hD', hg⟩ := hD.update hK hT hn hk (val := v) (d := .held v) (ps := []) rfl
  refine ⟨w', hrun, ⟨_, hD', ?_, fun j kj hj => ?_⟩, hg⟩
  · obtain ⟨es, rfl⟩ := hm; exact ⟨_, rfl⟩
  · by_cases e : j = key
    · subst e
      rw [hk] at hj
      cases hj
      rw [has_put_same hm (hK.key hk)]
      rw [putF_same]
      refine ⟨rfl, fun u zd hu => ?_⟩
      cases hu
      exact atKey_put_same hm (hK.key hk) ..
    · have hne : kj ≠ kl := fun h => e (hK.inj hj (h ▸ hk))
      rw [has_put_other hne]
      rw [putF_other _ e]
      refine ⟨(hf j kj hj).1, fun u zd hu => ?_⟩
      rw [atKey_put_other hne]; exact (hf j kj hj).2 u zd hu
theorem MapG.kept {K : TypeId} {w w' : World} {b n : Nat} {f : Value → Option Value} (h : MapG K w b n f) (hb : w'.heap[b]? = w.heap[b]?) : MapG K w' b n f := by
  obtain ⟨D, ⟨es, clock, e1, rest⟩, r⟩ := h
  exact ⟨D, ⟨es, clock, hb.trans e1, rest⟩, r⟩
theorem MapG.lt {K : TypeId} {w : World} {b n : Nat} {f : Value → Option Value} (h : MapG K w b n f) : b < w.heap.size := by
  obtain ⟨D, hD, r⟩ := h; exact hD.lt
theorem keyStrG : Keyed Try.prog 9 := string_keyed Try.underlying9
theorem zeroIntG (w : World) : (zeroValue 3).run Try.prog w = .ok (.int .i64 0) w := by kernel_rfl
theorem laidOutG : laidOutB Try.prog = true := by kernel_rfl
set_option maxRecDepth 100000 in
theorem rowStepG : (131 : TypeId) < Try.prog.types.size := of_decide_eq_true (by kernel_rfl)
theorem wideStepG : (match Try.prog.underlying 131 with | some (.array _ _) | some (.struct _) => true | _ => false) = true := by kernel_rfl
set_option maxRecDepth 100000 in
theorem keyedStep : Keyed Try.prog 131 := Keyed.of_law (deep_law_laid laidOutG (m := 4) (by omega) rowStepG (by kernel_rfl) wideStepG)
theorem cellsStep : Try.prog.cellsOf 131 = 3 := by kernel_rfl
theorem cellsSym : Try.prog.cellsOf 39 = 2 := by kernel_rfl
set_option maxRecDepth 100000 in
theorem sizeStep : ∃ m, Try.prog.types.size + 1 = m + 3 := ⟨Try.prog.types.size - 2, by
  have : 2 ≤ Try.prog.types.size := of_decide_eq_true (by kernel_rfl)
  omega⟩
theorem cellsInt : Try.prog.cellsOf 3 = 1 := by kernel_rfl
theorem cellsBool : Try.prog.cellsOf 4 = 1 := by kernel_rfl
theorem ktStep : Try.prog.keyType 131 = true := by kernel_rfl
theorem keyOfStep (i n : Int) (t : Bool) (hi : (Lit.int .i64 i).wf = true) (hn : (Lit.int .i64 n).wf = true) : ∃ kl, keyOf Try.prog 131 (.agg #[.int .i64 i, .bool t, .int .i64 n]) = some kl := by
  obtain ⟨m, hm⟩ := sizeStep
  refine ⟨.string (keyBytes [.int .i64 i, .bool t, .int .i64 n]), ?_⟩
  unfold keyOf
  rw [hm, ktStep]
  simp [Try.underlying131, Try.underlying39, Try.underlying3, Try.underlying4, Value.formed, Value.cells, cellsStep, cellsSym, cellsInt, cellsBool, Program.keyLits, hi, hn]
  rw [if_pos (by intro i hi; match i, hi with | 0, _ => simp | 1, _ => simp)]
  rfl
end Go.Proofs.Ytimgnbacgdmiiaa
