/-
  What is written to a strings.Builder of one's own.
-/
import Derived.Test.YtimgnbacgdmiiaaGen
import Derived.Test.YtimgnbacgdmiiaaShelf
namespace Go.Proofs.Ytimgnbacgdmiiaa
open Go.RowKit
set_option linter.unusedVariables false
set_option linter.unusedSimpArgs false
attribute [local go_sem ↓] append_appM

theorem info_bld : (Try.prog.info? 104).map (fun i => i.size) = some 2 := by kernel_rfl
theorem bld_info : ∃ j, Try.prog.info? 104 = some j ∧ j.size ≠ 0 := by
  have h := info_bld
  cases e : Try.prog.info? 104 with
  | none => rw [e] at h; cases h
  | some j => rw [e] at h; exact ⟨j, rfl, by simp at h; omega⟩
theorem bld_lies : liesAt Try.prog Try.prog.depth 104 (2 / Try.prog.cellsOf 104) 0 104 1 = true := by kernel_rfl
theorem bld_esc (x : Value) (w : World) : Sem.run Try.prog (callFunc 110 #[x]) w = .ok (.value x) w := by
  have := run_callFunc_extern (P := Try.prog) (f := 110) (e := Extern.AbiNoEscape.same) Try.func110 (by kernel_rfl) (by kernel_rfl) (by kernel_rfl) (by kernel_rfl) #[x] w
  refine this.trans ?_
  rw [Lib.run_noEscape]; rfl
theorem bld_used (b : Nat) (w : World) (h0 : w.cell? ⟨b, 0, none⟩ = some (.pointer (some ⟨b, 0, none⟩))) :
    Calls Try.prog 99 #[.pointer (some ⟨b, 0, none⟩)] w fun e w' => e = .returned (.tuple #[]) ∧ w' = w := by
  obtain ⟨j, hj, hj0⟩ := bld_info
  have hne := Lib.run_neq_ptr_same (P := Try.prog) w ⟨b, 0, none⟩ Try.underlying102 hj
  go_enter Try.func99, Try.ntmps99
  go_wp2_with fail
  refine bodyPost_end (v := .tuple #[]) (by simp [results, Try.results99, go_sem]) rfl ?_
  exact ⟨rfl, rfl⟩
set_option maxRecDepth 100000 in
set_option maxHeartbeats 1000000 in
theorem bld_fresh (b : Nat) (w : World) (h0 : w.cell? ⟨b, 0, none⟩ = some (.pointer none)) (hsh : w.shape? b = some (104, 2)) (hfr : w.frozen? ⟨b, 0, none⟩ = false) (hlt : b < w.heap.size) :
    Calls Try.prog 99 #[.pointer (some ⟨b, 0, none⟩)] w fun e w' => e = .returned (.tuple #[]) ∧ w' = w.setCell ⟨b, 0, none⟩ (.pointer (some ⟨b, 0, none⟩)) := by
  obtain ⟨j, hj, hj0⟩ := bld_info
  have h1 := Lib.run_to_unsafe (P := Try.prog) w (src := 102) (dst := 145) ⟨b, 0, none⟩ Try.underlying102 Try.underlying145 hj hj0 hsh (show (0 : Nat) < 2 by decide)
  have h2 := Lib.run_from_unsafe (P := Try.prog) w (src := 145) (dst := 102) ⟨b, 0, none⟩ Try.underlying145 Try.underlying102 hj hsh bld_lies
  have h3 := bld_esc (.pointer (some ⟨b, 0, none⟩)) w
  clear hsh hj hj0
  go_enter Try.func99, Try.ntmps99
  go_wp2_with fail
  refine bodyPost_end (v := .tuple #[]) (by simp [results, Try.results99, go_sem]) rfl ?_
  exact ⟨rfl, rfl⟩
/-- A builder of one's own: what it holds, and that its buffer is a row of its own. -/
def Bld (B b : Nat) (l : List UInt8) (w : World) : Prop := Lib.IsBuilder 104 5 B b (Lib.byteCells l) w
theorem bld_check (B b : Nat) (bs : List Value) (w : World) (h : Lib.IsBuilder 104 5 B b bs w) :
    Calls Try.prog 99 #[.pointer (some ⟨b, 0, none⟩)] w fun e w' => e = .returned (.tuple #[]) ∧ Lib.BuilderAt 104 5 B b (.pointer (some ⟨b, 0, none⟩)) bs w' ∧ Below B w w' := by
  rcases h with h | h
  · refine (bld_fresh b w h.cell0 h.shape h.frozen0 h.lt).mono ?_
    rintro e w' ⟨rfl, rfl⟩
    exact ⟨rfl, h.used _, (Below.refl B w).setCell (p := ⟨b, 0, none⟩) h.1 _⟩
  · refine (bld_used b w h.cell0).mono ?_
    rintro e w' ⟨rfl, rfl⟩
    exact ⟨rfl, h, Below.refl _ _⟩
theorem info_byte : (Try.prog.info? 5).map (fun i => (i.zero, i.size, i.bytes)) = some (some (.int .u8 0), 1, 1) := by kernel_rfl
theorem bld_other : (104 : TypeId) ≠ 5 := by decide
set_option maxRecDepth 100000 in
set_option maxHeartbeats 1000000 in
theorem bld_byte (B b : Nat) (l : List UInt8) (c : UInt8) (w : World) (h : Bld B b l w) (hl : l.length + 1 ≤ 1000000000000) (hB : B ≤ w.heap.size) :
    Calls Try.prog 109 #[.pointer (some ⟨b, 0, none⟩), .int .u8 c.toNat] w fun e w' => e = .returned .nilIface ∧ Bld B b (l ++ [c]) w' ∧ Below B w w' := by
  have Hc := Lib.hid (bld_check B b _ w h)
  have HB := Lib.hid hB
  clear h hB
  go_enter Try.func109, Try.ntmps109
  go_wp2_with fail
  refine (Hc.out).mono ?_
  rintro e w1 ⟨rfl, h1, hb1⟩
  obtain ⟨hBb, v, hbk, hown, hne⟩ := h1
  obtain ⟨i0, hi, hz0, hz1, hz2⟩ := info_parts info_byte
  have hlen : (Lib.byteCells l).length = l.length := by simp [Lib.byteCells]
  rw [hlen] at hown
  have hlt : b < w1.heap.size := (Array.getElem?_eq_some_iff.1 hbk).1
  obtain ⟨ao, cap, rfl, _, _⟩ := owns_valP hown
  have rt : Row (w1.alloc (.cells #[.int .u8 c.toNat] 5)) (w1.heap.size + 1) 1 (.slice (some ⟨w1.heap.size, 0, none⟩) 1 1) 1 [.int .u8 c.toNat] := row_cellsB w1 [.int .u8 c.toNat] 1 1 1 5 rfl (Nat.le_refl _) (by unfold maxLen; omega)
  obtain ⟨v', w2, happ, hown2, hg, hob⟩ := run_append_row (P := Try.prog) (w1.alloc (.cells #[.int .u8 c.toNat] 5)) 66 66 B 5 i0 (.int .u8 0) 1 1 Try.underlying66 hi hz0 hz1 hz2 rfl (by decide) (.slice ao l.length cap) l.length (Lib.byteCells l) (hown.alloc _) (w1.heap.size + 1) _ 1 [.int .u8 c.toNat] rt (fun u hu => by simp at hu; subst hu; rfl) (by unfold maxLen; omega) (by omega) (by simp; have := hb1.size; have := HB.out; omega)
  have hb2 : w2.heap[b]? = some (.cells #[.pointer (some ⟨b, 0, none⟩), .slice ao l.length cap] 104 (0, 0)) := by
    rw [hg.block b (by simp; omega) (fun e => hne e.symm), Below.heap_alloc _ _ _ hlt]; exact hbk
  obtain ⟨a', c', rfl, _, _⟩ := owns_valP hown2
  have c1 : w1.cell? ⟨b, 1, none⟩ = some (.slice ao l.length cap) := by rw [Lib.cell_of_heap hbk]; rfl
  have d1 : w2.cell? ⟨b, 1, none⟩ = some (.slice ao l.length cap) := by rw [Lib.cell_of_heap hb2]; rfl
  have f1 : w2.frozen? ⟨b, 1, none⟩ = false := Lib.frozen_of_heap hb2 1
  have hlt2 : b < w2.heap.size := (Array.getElem?_eq_some_iff.1 hb2).1
  have hsn : Lib.byteCells (l ++ [c]) = Lib.byteCells l ++ [.int .u8 c.toNat] := by simp [Lib.byteCells]
  have HE : Hid (Bld B b (l ++ [c]) (w2.setCell ⟨b, 1, none⟩ (.slice a' (l.length + 1) c')) ∧ Below B w (w2.setCell ⟨b, 1, none⟩ (.slice a' (l.length + 1) c'))) := Lib.hid (by
    refine ⟨.inr ?_, ?_⟩
    · rw [hsn]
      exact Lib.BuilderAt.put (T := 104) (e := 5) hBb hb2 (bs' := Lib.byteCells l ++ [.int .u8 c.toNat]) (by rw [List.length_append, hlen]; exact hown2) bld_other
    · exact ((hb1.alloc (by have := hb1.size; have := HB.out; omega) _).grown hg (by have := hb1.size; have := HB.out; simp; omega) (fun k hk => (hown.lt k hk).1)).setCell (p := ⟨b, 1, none⟩) hBb _)
  have happ2 : Sem.run Try.prog (appM #[66, 66] 66 #[.slice ao l.length cap, .slice (some ⟨w1.heap.size, 0, none⟩) 1 1]) (w1.alloc (.cells #[.int .u8 c.toNat] 5)) = .ok (.slice a' (l.length + 1) c') w2 := happ
  clear happ rt hown hown2 hg hob hb1 hbk hb2 hsn hi hz0 hz1 hz2
  go_wp2_with fail
  go_ret
  exact ⟨rfl, HE.out⟩
set_option maxRecDepth 100000 in
set_option maxHeartbeats 1000000 in
theorem bld_text (B b : Nat) (l x : List UInt8) (w : World) (h : Bld B b l w) (hl : l.length + x.length ≤ 1000000000000) (hB : B ≤ w.heap.size) :
    Calls Try.prog 76 #[.pointer (some ⟨b, 0, none⟩), .string ⟨x.toArray⟩] w fun e w' => e = .returned (.tuple #[.int .i64 (x.length : Nat), .nilIface]) ∧ Bld B b (l ++ x) w' ∧ Below B w w' := by
  have Hc := Lib.hid (bld_check B b _ w h)
  have HB := Lib.hid hB
  clear h hB
  go_enter Try.func76, Try.ntmps76
  go_wp2_with fail
  refine (Hc.out).mono ?_
  rintro e w1 ⟨rfl, h1, hb1⟩
  obtain ⟨hBb, v, hbk, hown, hne⟩ := h1
  obtain ⟨i0, hi, hz0, hz1, hz2⟩ := info_parts info_byte
  have hlen : (Lib.byteCells l).length = l.length := by simp [Lib.byteCells]
  rw [hlen] at hown
  obtain ⟨ao, cap, rfl, _, _⟩ := owns_valP hown
  have hlt : b < w1.heap.size := (Array.getElem?_eq_some_iff.1 hbk).1
  have c1 : w1.cell? ⟨b, 1, none⟩ = some (.slice ao l.length cap) := by rw [Lib.cell_of_heap hbk]; rfl
  go_wp2_with (at_builtin; refine Lib.wpList_append_own_string _ rfl _ _ 66 9 rfl B 5 i0 Try.underlying66 Try.underlying9 hi hz0 hz1 hz2 _ _ _ rfl hown ⟨x.toArray⟩ rfl ?c3 ?c4 ?c5 ?_)
  case c3 => unfold maxLen; simp [ByteArray.size]; omega
  case c4 => simp [ByteArray.size]; omega
  case c5 => have := hb1.size; have := HB.out; omega
  intro v' w2 hown2 hg _
  have hb2 : w2.heap[b]? = some (.cells #[.pointer (some ⟨b, 0, none⟩), .slice ao l.length cap] 104 (0, 0)) := by
    rw [hg.block b hlt (fun e => hne e.symm)]; exact hbk
  have hsx : (⟨x.toArray⟩ : ByteArray).size = x.length := by simp [ByteArray.size]
  obtain ⟨a', c', rfl, _, _⟩ := owns_valP hown2
  have d1 : w2.cell? ⟨b, 1, none⟩ = some (.slice ao l.length cap) := by rw [Lib.cell_of_heap hb2]; rfl
  have f1 : w2.frozen? ⟨b, 1, none⟩ = false := Lib.frozen_of_heap hb2 1
  have hlt2 : b < w2.heap.size := (Array.getElem?_eq_some_iff.1 hb2).1
  have hsn : Lib.byteCells (l ++ x) = Lib.byteCells l ++ Lib.strCells ⟨x.toArray⟩ := by simp [Lib.byteCells, Lib.strCells]
  have HE : Hid (Bld B b (l ++ x) (w2.setCell ⟨b, 1, none⟩ (.slice a' (l.length + x.length) c')) ∧ Below B w (w2.setCell ⟨b, 1, none⟩ (.slice a' (l.length + x.length) c'))) := Lib.hid (by
    refine ⟨.inr ?_, ?_⟩
    · rw [hsn]
      exact Lib.BuilderAt.put (T := 104) (e := 5) hBb hb2 (bs' := Lib.byteCells l ++ Lib.strCells ⟨x.toArray⟩) (by rw [List.length_append, hlen, Lib.strCells_length, hsx]; exact hown2) bld_other
    · exact (hb1.grown hg (by have := hb1.size; have := HB.out; omega) (fun k hk => (hown.lt k hk).1)).setCell (p := ⟨b, 1, none⟩) hBb _)
  clear hown hown2 hg hb1 hbk hb2 hsn hi hz0 hz1 hz2 c1
  go_wp2_with fail
  go_ret2
  exact ⟨rfl, HE.out⟩
theorem bld_new (w : World) : Bld w.heap.size w.heap.size [] (w.alloc (.cells #[.pointer none, .slice none 0 0] 104)) := Lib.fresh_isBuilder _ _ w
theorem bld_string (B b : Nat) (l : List UInt8) (w : World) (h : Bld B b l w) (hB : B ≤ w.heap.size) :
    Calls Try.prog 78 #[.pointer (some ⟨b, 0, none⟩)] w fun e w' => e = .returned (.string ⟨l.toArray⟩) ∧ Below B w w' := Try.Builder_String_any B b l w h hB
end Go.Proofs.Ytimgnbacgdmiiaa
