/-
  Tables of strings: whole arrays of strings in package-level variables, read by value.
-/
import Derived.Test.YtapmjkgndojdfaaDoorName
import Derived.LaidSub
import Derived.Lib.LaidTab
import Derived.Laws.PanicsMore
import Derived.ChangeKeysEq
namespace Go.Proofs.YtapmjkgndojdfaaDoor
open Go.RowKit
set_option linter.unusedVariables false

def bs (l : List UInt8) : ByteArray := ⟨l.toArray⟩
theorem bs_data (s : ByteArray) : bs s.data.toList = s := by cases s; simp [bs]
theorem bs_toList (l : List UInt8) : (bs l).data.toList = l := by simp [bs]

/-- An array of strings that reads as the table holds the table's strings, cell for cell. -/
theorem cells_of_strs {H : Type} {enc : TypeId × Value → H} {P : Program} {w : World} {base : Nat} {sp : Nat → Bool} {held : Bool} {fuel : Nat} {t e : TypeId} {n : Nat} {cs : List Value} {zs : List (List UInt8)} {p : List MemPlace}
    (ht : P.underlying t = some (.array n e)) (he : P.underlying e = some .string) (hce : P.cellsOf e = 1) (hct : P.cellsOf t = n)
    (h : DataW.trod enc P w base sp held fuel t cs = some (.agg (zs.map fun z => .lit (.string z)), p)) : cs = zs.map fun z => Value.string (bs z) := by
  cases fuel with
  | zero => simp [DataW.trod] at h
  | succ fuel =>
    simp only [DataW.trod, ht, hce, hct, Nat.mul_one] at h
    split at h
    · rename_i hl
      obtain ⟨xs, hm, hx⟩ := Option.map_eq_some_iff.1 h
      have hxs : xs.map (·.1) = zs.map fun z => (DataW.lit (.string z) : DataW H) := by
        have := congrArg Prod.fst hx
        simpa using this
      have hxl : xs.length = n := by simpa using Lib.mapM_length hm
      have hzl : zs.length = n := by
        have := congrArg List.length hxs
        simp at this
        omega
      apply List.ext_getElem?
      intro i
      by_cases hi : i < n
      · obtain ⟨b, hb, hf⟩ := Lib.mapM_at hm i i (by simp [hi])
        obtain ⟨s, hc, rfl, _⟩ := DataW.trod_string he hf
        have h1 : cs[i]? = some (.string s) := by
          have := congrArg (·[0]?) hc
          simpa [List.getElem?_take, List.getElem?_drop] using this
        have h2 : (xs.map (·.1))[i]? = some (DataW.lit (.string s.data.toList) : DataW H) := by simp [hb]
        rw [hxs] at h2
        simp only [List.getElem?_map, Option.map_eq_some_iff, DataW.lit.injEq, Lit.string.injEq] at h2
        obtain ⟨z', hz', hz2⟩ := h2
        subst hz2
        simp [h1, hz', bs_data]
      · rw [List.getElem?_eq_none (by omega), List.getElem?_eq_none (by simp; omega)]
    · cases h

/-- The variable holds just these strings. -/
def StrsIs (w : World) (g : Nat) (zs : List (List UInt8)) : Prop := ∃ t fr, w.heap[g]? = some (.cells (zs.map fun z => Value.string (bs z)).toArray t fr)
theorem strsIs_of_head {W : World} {name : String} {zs : List (List UInt8)} {rest : List (String × DataW Unit)} {g : Nat} {t e : TypeId} {n : Nat}
    (hg : Tryd.prog.globalNamed name = some g) (hty : (Tryd.prog.globals[g]?).map (·.type) = some t) (ht : Tryd.prog.underlying t = some (.array n e)) (he : Tryd.prog.underlying e = some .string) (hce : Tryd.prog.cellsOf e = 1) (hct : Tryd.prog.cellsOf t = n)
    (h : laidMet Tryd.prog ((name, .agg (zs.map fun z => .lit (.string z))) :: rest) W) : StrsIs W g zs := by
  obtain ⟨ps, ⟨g', t', cs, fuel, p, q, hg', ht', hvar, hd, _, _⟩, _⟩ := h
  obtain rfl := Option.some.inj (hg.symm.trans hg')
  obtain rfl := Option.some.inj (hty.symm.trans ht')
  have hcs := cells_of_strs ht he hce hct hd
  unfold World.var? at hvar
  rw [hg] at hvar
  simp only [Option.bind_some] at hvar
  split at hvar
  · rename_i c1 t1 fr1 hc
    refine ⟨t1, fr1, ?_⟩
    rw [hc]
    have h3 : c1 = cs := by simpa using hvar
    have h4 : cs = (zs.map fun z => Value.string (bs z)).toArray := by rw [← hcs]
    rw [h3, h4]
  · cases hvar
theorem StrsIs.lt {w : World} {g : Nat} {zs : List (List UInt8)} (h : StrsIs w g zs) : g < w.heap.size := by
  obtain ⟨t, fr, h⟩ := h
  exact (Array.getElem?_eq_some_iff.1 h).1
theorem StrsIs.below {w w' : World} {g : Nat} {zs : List (List UInt8)} {B : Nat} (h : StrsIs w g zs) (hb : Below B w w') (hB : w.heap.size ≤ B) : StrsIs w' g zs := by
  have hlt := h.lt
  obtain ⟨t, fr, h⟩ := h
  exact ⟨t, fr, (hb.block g (by omega)).trans h⟩

/-- A string of a whole table, by its index. -/
theorem run_index_strs (t e : TypeId) (n : Nat) (zs : List (List UInt8)) (ht : Tryd.prog.underlying t = some (.array n e)) {d : TypeInfo} (he : Tryd.prog.underlying e = some .string) (hi : Tryd.prog.info? e = some d) (hce : Tryd.prog.cellsOf e = 1) (k : Nat) (hk : k < n) (hn : n = zs.length) (w : World) (v : ByteArray) (hv : v = bs (zs.getD k [])) :
    (Instr.index t (.agg (zs.map fun z => Value.string (bs z)).toArray) (.int .i64 k)).run Tryd.prog w = .ok (.string v) w := by
  subst hn hv
  have h0 : (0 : Int) ≤ k ∧ (k : Int) < (zs.length : Int) := by omega
  have h1 : ∀ w, (sizeOf e).run Tryd.prog w = .ok 1 w := fun w => by rw [run_sizeOf w hi, hce]
  have h2 : ∀ w, (isAgg e).run Tryd.prog w = .ok false w := fun w => by simp [isAgg, run_underlying he, go_sem]
  simp [Instr.index, run_underlying ht, asIntOf, h0, go_sem, hk, part, h1, h2]
end Go.Proofs.YtapmjkgndojdfaaDoor
