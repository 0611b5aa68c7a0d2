/-
  The library's numerals: strconv.Itoa over the table that the row lists.
-/
import Derived.Test.YtapmjkgndojdfaaDoorItoa
import Derived.Test.YtapmjkgndojdfaaDoorShelf
import Derived.LaidSub
import Derived.Lib.LaidTab
namespace Go.Proofs.YtapmjkgndojdfaaDoor
open Go.RowKit
set_option linter.unusedVariables false

def Tab10 (w : World) : Prop := Lib.TabIs Tryd.prog w "internal/strconv.uint64pow10" .u64 Lib.pow10Tab
theorem gTab10 : Tryd.prog.globalNamed "internal/strconv.uint64pow10" = some 2 := by kernel_rfl
theorem gTab10Type : (Tryd.prog.globals[2]?).map (·.type) = some 62 := by kernel_rfl
theorem tab10_of {l : List (String × DataW Unit)} {W : World} (h : laidMetH Tryd.prog l W) (hl : l.filter (fun x => x.1 == "internal/strconv.uint64pow10") = [("internal/strconv.uint64pow10", Lib.tabData .u64 Lib.pow10Tab)]) : Tab10 W := by
  have h1 := h.filter (fun x => x.1 == "internal/strconv.uint64pow10")
  rw [hl] at h1
  exact Lib.tabIs_of_head (rest := []) gTab10 gTab10Type Tryd.underlying62 Tryd.underlying55 (by kernel_rfl) (by kernel_rfl) h1
theorem Tab10.lt {w : World} (h : Tab10 w) : 2 < w.heap.size := by
  unfold Tab10 Lib.TabIs World.var? at h
  rw [gTab10] at h
  simp only [Option.bind_some] at h
  split at h
  · rename_i hc; exact (Array.getElem?_eq_some_iff.1 hc).1
  · cases h
theorem Tab10.below {w w' : World} {B : Nat} (h : Tab10 w) (hb : Below B w w') (hB : w.heap.size ≤ B) : Tab10 w' :=
  var?_below hb gTab10 (Nat.lt_of_lt_of_le h.lt hB) h

theorem below_grow (w : World) (k : Nat) (os : Array Obj) : Below w.heap.size w (Go.Sort.grow (w.drewN k) os) :=
  ⟨rfl, rfl, rfl, by show w.heap.size ≤ (w.heap ++ os).size; simp, fun j hj => by show (w.heap ++ os)[j]? = _; rw [Array.getElem?_append, if_pos hj]⟩

/-- A number's digits, by the library. -/
theorem itoa_any (n : Nat) (w : World) (hn : n ≤ 9223372036854775807) (htab : Tab10 w) :
    Calls Tryd.prog 29 #[.int .i64 n] w fun e w' => e = .returned (.string (decS n)) ∧ Below w.heap.size w w' := by
  refine (Tryd.strconv_Itoa n (by omega) (by omega) w htab).mono ?_
  rintro e w' ⟨rfl, k, os, rfl⟩
  exact ⟨retStr (by unfold decS Lib.itoa; rw [if_neg (by omega), Int.toNat_natCast]), below_grow w k os⟩
end Go.Proofs.YtapmjkgndojdfaaDoor
