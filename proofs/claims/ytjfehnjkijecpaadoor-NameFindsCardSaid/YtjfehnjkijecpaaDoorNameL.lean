/-
  The chapter's example on names, and the statement on caps, names and keywords.
-/
import Derived.Test.YtjfehnjkijecpaaDoorFresh
import Derived.Test.YtjfehnjkijecpaaDoorWord
namespace Go.Proofs.YtjfehnjkijecpaaDoor
open Go.RowKit Go.Maps Go.WideMaps
set_option linter.unusedVariables false

theorem gKw2 : Tryd.prog.globalNamed "gramarye/name.keywords" = some 0 := by kernel_rfl
theorem gKw2Type : (Tryd.prog.globals[0]?).map (·.type) = some 56 := by kernel_rfl
theorem kw2_of {l : List (String × DataW Unit)} {W : World} (h : laidMetH Tryd.prog l W) (hl : l.filter (fun x => x.1 == "gramarye/name.keywords") = [("gramarye/name.keywords", .agg (kwT.map fun z => .lit (.string z)))]) : StrsIs W 0 kwT := by
  have h1 := h.filter (fun x => x.1 == "gramarye/name.keywords")
  rw [hl] at h1
  exact strsIs_of_head (rest := []) gKw2 gKw2Type Tryd.underlying56 Tryd.underlying9 (by kernel_rfl) (by kernel_rfl) h1
def lx : List ByteArray := [⟨#[120]⟩, ⟨#[120, 49]⟩]
theorem dec1 : decS 1 = ⟨#[49]⟩ := by unfold decS; rw [dec_small 1 (by omega)]; rfl
theorem dec2 : decS 2 = ⟨#[50]⟩ := by unfold decS; rw [dec_small 2 (by omega)]; rfl
theorem cx1 : cand ⟨#[120]⟩ 1 = ⟨#[120, 49]⟩ := by unfold cand; rw [if_neg (by omega), dec1]; kernel_rfl
theorem cx2 : cand ⟨#[120]⟩ 2 = ⟨#[120, 50]⟩ := by unfold cand; rw [if_neg (by omega), dec2]; kernel_rfl
theorem fx : IsFresh ⟨#[120]⟩ lx 2 := by
  refine ⟨fun j hj => ?_, ?_⟩
  · rcases (show j = 0 ∨ j = 1 from by omega) with rfl | rfl
    · kernel_rfl
    · rw [cx1]; kernel_rfl
  · rw [cx2]; kernel_rfl
theorem nx1 : nameB ⟨#[120, 95, 49]⟩ = true := by kernel_rfl
theorem nx2 : nameB ⟨#[108, 111, 111, 107]⟩ = false := by kernel_rfl
theorem nx3 : letB ⟨#[73, 68]⟩ 65 = true := by kernel_rfl
theorem nx4 : findI ⟨#[98]⟩ [⟨#[97]⟩, ⟨#[98]⟩] = 1 := by kernel_rfl
theorem row_two (w : World) (a b : ByteArray) (t : TypeId) : Row (w.alloc (.cells #[.string a, .string b] t)) (w.alloc (.cells #[.string a, .string b] t)).heap.size 1 (.slice (some ⟨w.heap.size, 0, none⟩) 2 2) 2 (sv [a, b]) := by
  refine ⟨rfl, by unfold maxLen; omega, .inr ⟨_, 2, rfl, by omega, by unfold maxLen; omega, .inr (by show w.heap.size < (w.heap.push _).size; rw [Array.size_push]; omega), fun j u hu => ?_⟩⟩
  rw [cell_add _ _ _ _ _ (heap_alloc_new w _)]
  simpa [sv] using hu
set_option maxRecDepth 100000 in
theorem law02works_any (w : World) (hkw : StrsIs w 0 kwT) (htab : Tab10 w) :
    Calls Tryd.prog 23 #[] w fun e w' => e = .returned (.bool true) ∧ Below w.heap.size w w' := by
  have hl : ∀ n : Nat, n ≤ 9 → n ≤ maxLen := fun n h => by unfold maxLen; omega
  have Hf := Lib.hid fun w0 (hr : Row w0 w0.heap.size 1 (.slice (some ⟨w.heap.size, 0, none⟩) 2 2) 2 (sv lx)) ht => fresh_any ⟨#[120]⟩ (.slice (some ⟨w.heap.size, 0, none⟩) 2 2) lx w0 (by show 1 ≤ 1000; omega) (by show 2 ≤ 1000; omega) (fun x hx => by rcases List.mem_cons.1 hx with rfl | hx; exact hl _ (by show 1 ≤ 9; omega); rcases List.mem_cons.1 hx with rfl | hx; exact hl _ (by show 2 ≤ 9; omega); cases hx) hr ht
  have H1 := Lib.hid fun w h => nx1 ▸ name_any ⟨#[120, 95, 49]⟩ w (hl _ (by show 3 ≤ 9; omega)) h
  have H2 := Lib.hid fun w h => nx2 ▸ name_any ⟨#[108, 111, 111, 107]⟩ w (hl _ (by show 4 ≤ 9; omega)) h
  have H3 := Lib.hid fun w => nx3 ▸ cap_any ⟨#[73, 68]⟩ w (hl _ (by show 2 ≤ 9; omega))
  have Hkw := Lib.hid hkw
  have Htab := Lib.hid htab
  clear hkw htab
  go_enter Tryd.func23, Tryd.ntmps23
  go_wp2_with fail
  have hb0 : Below w.heap.size w (w.alloc (.cells #[.string ⟨#[120]⟩, .string ⟨#[120, 49]⟩] 9)) := (Below.refl _ w).alloc (Nat.le_refl _) _
  refine (Hf.out _ (row_two w _ _ _) (Htab.out.below hb0 (Nat.le_refl _))).mono ?_
  rintro e w1 ⟨⟨m, hm, rfl⟩, hb1⟩
  obtain rfl := fresh_one _ _ _ _ hm fx
  have hb1' := hb0.trans (hb1.mono hb0.size)
  have hkw1 := Hkw.out.below hb1' (Nat.le_refl _)
  rw [cx2]
  clear hb0 hb1
  go_wp2_with fail
  refine (H1.out _ hkw1).mono ?_
  rintro e w2 ⟨rfl, rfl⟩
  go_wp2_with fail
  refine (H2.out _ hkw1).mono ?_
  rintro e w2 ⟨rfl, rfl⟩
  go_wp2_with fail
  refine (H3.out _).mono ?_
  rintro e w2 ⟨rfl, rfl⟩
  go_wp2_with fail
  refine (find_any ⟨#[98]⟩ _ [⟨#[97]⟩, ⟨#[98]⟩] _ _ (hl _ (by show 1 ≤ 9; omega)) (row_two w1 _ _ _)).mono ?_
  rintro e w2 ⟨rfl, rfl⟩
  rw [nx4]
  go_wp2_with fail
  go_ret
  exact ⟨rfl, hb1'.alloc hb1'.size _⟩
set_option maxRecDepth 100000 in
theorem nameTells_walk (s : ByteArray) (w : World) (hs : s.size ≤ maxLen) (hkw : StrsIs w 0 kwT) (htab : Tab10 w) :
    Calls Tryd.prog 4 #[.string s] w fun e w' => e = .returned (.bool true) ∧ Below w.heap.size w w' := by
  have h1 := cap_any s w hs
  have h2 := refCap_any s w hs
  have h3 := name_any s w hs hkw
  have h4 := refName_any s w hs
  have h5 := keyword_any s w hs hkw
  have h6 := refKeyword_any s w hs
  have h7 := law02works_any w hkw htab
  generalize letB s 65 = a at *
  generalize nameB s = b at *
  generalize inB s kwT = c at *
  clear hkw htab
  go_enter Tryd.func4, Tryd.ntmps4
  go_wp2_with fail
  refine h1.mono ?_
  rintro e w' ⟨rfl, rfl⟩
  go_wp2_with fail
  refine h2.mono ?_
  rintro e w' ⟨rfl, rfl⟩
  go_wp2_with fail
  refine h3.mono ?_
  rintro e w' ⟨rfl, rfl⟩
  go_wp2_with fail
  refine h4.mono ?_
  rintro e w' ⟨rfl, rfl⟩
  go_wp2_with fail
  refine h5.mono ?_
  rintro e w' ⟨rfl, rfl⟩
  go_wp2_with fail
  refine h6.mono ?_
  rintro e w' ⟨rfl, rfl⟩
  go_wp2_with fail
  refine h7.mono ?_
  rintro e w' ⟨rfl, hb⟩
  go_wp2_with fail
  go_ret
  exact ⟨rfl, hb⟩
theorem nameTells_law {H : Type} (enc : TypeId × Value → H) (W : World) (a0 : ByteArray) (w0 : a0.size ≤ maxLen) (hL : laidMetH Tryd.prog Rows.nameTellsRow.laid W) :
    Calls Tryd.prog 4 #[.string a0] W fun e w' => e = .returned (.bool true) ∧ Below W.heap.size W w' :=
  nameTells_walk a0 W w0 (kw2_of hL (by rfl)) (tab10_of hL (by rfl))
end Go.Proofs.YtjfehnjkijecpaaDoor
