/-
  The statement that any token's text is as the document says, and the chapter's example: their walks.
-/
import Derived.Test.YtapmjkgndojdfaaDoorTokU
import Derived.BigRegion
import Derived.Lib.SmallJoins
import Derived.Deep.RegionHeld3
import Derived.Deep.DeepCutAuto
namespace Go.Proofs.YtapmjkgndojdfaaDoor
open Go.RowKit LX
set_option linter.unusedVariables false

/-- A token's text, whatever the token. -/
def textT (k : Int) (s : ByteArray) (n : Int) : ByteArray := if k = 4 then decS (clamp n) else s
theorem tokAgg_below (w : World) (xs : Array Value) (T : TypeId) : Below w.heap.size w (w.alloc (.cells xs T)) := (Below.refl _ _).alloc (Nat.le_refl _) _
set_option maxRecDepth 100000 in
set_option maxHeartbeats 800000 in
theorem tokText_any (k : Int) (s : ByteArray) (n p : Int) (w : World) (hn : -9223372036854775808 ≤ n ∧ n ≤ 9223372036854775807) (htab : Tab10 w) :
    Calls Tryd.prog 11 #[.agg #[.int .i64 k, .string s, .int .i64 n, .int .i64 p]] w fun e w' => e = .returned (.string (textT k s n)) ∧ Below w.heap.size w w' := by
  have hbA := tokAgg_below w #[.int .i64 k, .string s, .int .i64 n, .int .i64 p] 31
  have HP := Lib.hid (digitPrint_any n (w.alloc (.cells #[.int .i64 k, .string s, .int .i64 n, .int .i64 p] 31)) hn (htab.below hbA (Nat.le_refl _)))
  have hsz := hbA.size
  clear htab
  by_cases hk : k = 4
  · have HT : Hid (textT k s n = decS (clamp n)) := by show textT k s n = _; unfold textT; rw [if_pos hk]
    have hk' : (k == 4) = true := by simp [hk]
    clear hk
    go_enter Tryd.func11, Tryd.ntmps11
    go_wp2_with fail
    refine HP.out.mono ?_
    rintro e w' ⟨rfl, hb⟩
    go_wp2_with fail
    go_ret
    exact ⟨by rw [HT.out]; rfl, hbA.trans (hb.mono hsz)⟩
  · have HT : Hid (textT k s n = s) := by show textT k s n = _; unfold textT; rw [if_neg hk]
    have hk' : (k == 4) = false := by simp [hk]
    clear hk
    go_enter Tryd.func11, Tryd.ntmps11
    go_wp2_with fail
    go_ret
    exact ⟨by rw [HT.out]; rfl, hbA⟩
set_option maxRecDepth 100000 in
set_option maxHeartbeats 800000 in
theorem refTokText_any (k : Int) (s : ByteArray) (n p : Int) (w : World) (hn : -9223372036854775808 ≤ n ∧ n ≤ 9223372036854775807) :
    Calls Tryd.prog 12 #[.agg #[.int .i64 k, .string s, .int .i64 n, .int .i64 p]] w fun e w' => e = .returned (.string (textT k s n)) ∧ Below w.heap.size w w' := by
  have hbA := tokAgg_below w #[.int .i64 k, .string s, .int .i64 n, .int .i64 p] 31
  have HP := Lib.hid (refPrint_any n (w.alloc (.cells #[.int .i64 k, .string s, .int .i64 n, .int .i64 p] 31)) hn)
  have hsz := hbA.size
  by_cases hk : k = 4
  · have HT : Hid (textT k s n = decS (clamp n)) := by show textT k s n = _; unfold textT; rw [if_pos hk]
    have hk' : (k == 4) = true := by simp [hk]
    clear hk
    go_enter Tryd.func12, Tryd.ntmps12
    go_wp2_with fail
    refine HP.out.mono ?_
    rintro e w' ⟨rfl, hb⟩
    go_wp2_with fail
    go_ret
    exact ⟨by rw [HT.out]; rfl, hbA.trans (hb.mono hsz)⟩
  · have HT : Hid (textT k s n = s) := by show textT k s n = _; unfold textT; rw [if_neg hk]
    have hk' : (k == 4) = false := by simp [hk]
    clear hk
    go_enter Tryd.func12, Tryd.ntmps12
    go_wp2_with fail
    go_ret
    exact ⟨by rw [HT.out]; rfl, hbA⟩
theorem gRes28 : Tryd.prog.globalNamed "gramarye/word.reserved" = some 1 := by kernel_rfl
theorem gRes28Type : (Tryd.prog.globals[1]?).map (·.type) = some 52 := by kernel_rfl
theorem gSig28Type : (Tryd.prog.globals[0]?).map (·.type) = some 47 := by kernel_rfl
theorem res28_of {l : List (String × DataW Unit)} {W : World} (h : laidMetH Tryd.prog l W) (hl : l.filter (fun x => x.1 == "gramarye/word.reserved") = [("gramarye/word.reserved", .agg (resT.map fun z => .lit (.string z)))]) : StrsIs W 1 resT := by
  have h1 := h.filter (fun x => x.1 == "gramarye/word.reserved")
  rw [hl] at h1
  exact strsIs_of_head (rest := []) gRes28 gRes28Type Tryd.underlying52 Tryd.underlying9 (by kernel_rfl) (by kernel_rfl) h1
theorem sig28_of {l : List (String × DataW Unit)} {W : World} (h : laidMetH Tryd.prog l W) (hl : l.filter (fun x => x.1 == "gramarye/token.signs") = [("gramarye/token.signs", .agg (sigT.map fun z => .lit (.string z)))]) : StrsIs W 0 sigT := by
  have h1 := h.filter (fun x => x.1 == "gramarye/token.signs")
  rw [hl] at h1
  exact strsIs_of_head (rest := []) gSig gSig28Type Tryd.underlying47 Tryd.underlying9 (by kernel_rfl) (by kernel_rfl) h1
def ex28 : List Tok := [⟨2, ⟨#[120]⟩, 0, 0⟩, ⟨5, ⟨#[58, 61]⟩, 0, 2⟩, ⟨4, ByteArray.empty, 1, 5⟩]
theorem ex28num : numB ⟨#[49]⟩ = some 1 := numB_of ⟨by kernel_rfl, by omega⟩
theorem ex28one0 : oneT kwR numB ⟨#[120, 32, 58, 61, 32, 49]⟩ 0 = some (⟨2, ⟨#[120]⟩, 0, 0⟩, 1) := by
  unfold oneT; simp only
  rw [if_pos (by kernel_rfl), show runEnd isLets ⟨#[120, 32, 58, 61, 32, 49]⟩ (0 + 1) = 1 from by kernel_rfl, if_pos (by decide), show (ByteArray.mk #[120, 32, 58, 61, 32, 49]).extract 0 1 = ⟨#[120]⟩ from by kernel_rfl, show kwR ⟨#[120]⟩ = false from by kernel_rfl]; rfl
theorem ex28one1 : oneT kwR numB ⟨#[120, 32, 58, 61, 32, 49]⟩ 2 = some (⟨5, ⟨#[58, 61]⟩, 0, 2⟩, 4) := by
  unfold oneT; simp only
  rw [if_neg (by decide), if_neg (by decide), show signLen ⟨#[120, 32, 58, 61, 32, 49]⟩ 2 = 2 from by kernel_rfl, if_neg (by decide), show (ByteArray.mk #[120, 32, 58, 61, 32, 49]).extract 2 (2 + 2) = ⟨#[58, 61]⟩ from by kernel_rfl]
theorem ex28one2 : oneT kwR numB ⟨#[120, 32, 58, 61, 32, 49]⟩ 5 = some (⟨4, ByteArray.empty, 1, 5⟩, 6) := by
  unfold oneT; simp only
  rw [if_neg (by decide), if_pos (by decide), show runEnd isDigit ⟨#[120, 32, 58, 61, 32, 49]⟩ (5 + 1) = 6 from by kernel_rfl, show (ByteArray.mk #[120, 32, 58, 61, 32, 49]).extract 5 6 = ⟨#[49]⟩ from by kernel_rfl, ex28num]
theorem ex28all : allT ⟨#[120, 32, 58, 61, 32, 49]⟩ = (ex28, 6, 0) := by
  have hs : (ByteArray.mk #[120, 32, 58, 61, 32, 49]).size = 6 := rfl
  unfold allT
  rw [if_neg (by rw [hs]; omega)]
  rw [tokS_some kwR numB _ 0 none [] _ _ (by rw [hs]; omega) (by decide) (by decide) ex28one0,
    tokS_space kwR numB _ 1 none _ (by rw [hs]; omega) (by decide),
    tokS_some kwR numB _ 2 none _ _ _ (by rw [hs]; omega) (by decide) (by decide) ex28one1,
    tokS_space kwR numB _ 4 none _ (by rw [hs]; omega) (by decide),
    tokS_some kwR numB _ 5 none _ _ _ (by rw [hs]; omega) (by decide) (by decide) ex28one2,
    tokS_end kwR numB _ 6 none _ (by rw [hs]; omega)]
  rfl
set_option maxRecDepth 100000 in
set_option maxHeartbeats 1600000 in
theorem law28works_any (w : World) (hkw : StrsIs w 1 resT) (hsg : StrsIs w 0 sigT) (htab : Tab10 w) :
    Calls Tryd.prog 10 #[] w fun e w' => e = .returned (.bool true) ∧ Below w.heap.size w w' := by
  have h1 := tokAll_any ⟨#[120, 32, 58, 61, 32, 49]⟩ w (by show 6 ≤ maxLen; unfold maxLen; omega) hkw hsg htab
  rw [ex28all] at h1
  have H1 := Lib.hid h1
  have Htab := Lib.hid htab
  have HX : Hid (textT 4 ByteArray.empty 1 = ⟨#[49]⟩) := by show textT 4 ByteArray.empty 1 = _; unfold textT; rw [if_pos rfl]; kernel_rfl
  clear h1 hkw htab hsg
  go_enter Tryd.func10, Tryd.ntmps10
  go_wp2_with fail
  refine H1.out.mono ?_
  rintro e w1 ⟨v, rfl, hown, hb⟩
  obtain ⟨g, c, rfl, hc1, hc2, hg1, hg2, hc⟩ := owns_cells hown (by decide)
  have c5 := hc 5 _ rfl; have c8 := hc 8 _ rfl; have c9 := hc 9 _ rfl; have c10 := hc 10 _ rfl; have c11 := hc 11 _ rfl
  have HT := Lib.hid (tokText_any 4 ByteArray.empty 1 5 w1 (by omega) (Htab.out.below hb (Nat.le_refl _)))
  clear hc hown H1
  go_wp2_with fail
  refine HT.out.mono ?_
  rintro e w2 ⟨rfl, hb2⟩
  rw [HX.out]
  go_wp2_with fail
  go_ret
  exact ⟨rfl, hb.trans (hb2.mono hb.size)⟩
set_option maxRecDepth 100000 in
set_option maxHeartbeats 4000000 in
theorem tokenTexts_walk (k : Int) (s : ByteArray) (n p : Int) (w : World) (hn : -9223372036854775808 ≤ n ∧ n ≤ 9223372036854775807) (hkw : StrsIs w 1 resT) (hsg : StrsIs w 0 sigT) (htab : Tab10 w) :
    Calls Tryd.prog 4 #[.agg #[.int .i64 k, .string s, .int .i64 n, .int .i64 p]] w fun e w' => e = .returned (.bool true) ∧ Below w.heap.size w w' := by
  have hbA := tokAgg_below w #[.int .i64 k, .string s, .int .i64 n, .int .i64 p] 31
  have hA := TkB.new w (.int .i64 k) (.string s) (.int .i64 n) (.int .i64 p)
  have Hkw := Lib.hid hkw; have Hsg := Lib.hid hsg; have Htab := Lib.hid htab
  clear hkw hsg htab
  go_enter Tryd.func4, Tryd.ntmps4
  go_wp2_with fail
  generalize w.alloc (.cells #[.int .i64 k, .string s, .int .i64 n, .int .i64 p] 31) = w1 at *
  have hs1 := hbA.size
  have hl1 := hA.lt
  have hb1 : Below w.heap.size w w1.drew := hbA.drew
  obtain ⟨c0, c1, c2, c3⟩ := hA.cells
  have HA := Lib.hid hA
  have HbA := Lib.hid hb1
  clear hbA hA hb1
  go_region_held3 (fun w' => w'.cell? ⟨w.heap.size, 0, none⟩ = some (.int .i64 k) ∧ w'.cell? ⟨w.heap.size, 1, none⟩ = some (.string s) ∧ w'.cell? ⟨w.heap.size, 2, none⟩ = some (.int .i64 n) ∧ w'.cell? ⟨w.heap.size, 3, none⟩ = some (.int .i64 p)) (go_keep) (first
    | (go_at_call 11; ((with_reducible refine (tokText_any k s n p w1.drew hn (Htab.out.below HbA.out (Nat.le_refl _))).mono ?_); rintro e w2 ⟨rfl, hb2⟩; have HB2 := Lib.hid (HbA.out.trans (hb2.mono hs1)); have hq : w1.heap.size ≤ w2.heap.size := hb2.size; have e0 := (hb2.cell (p := ⟨w.heap.size, 0, none⟩) hl1).trans c0; have e1 := (hb2.cell (p := ⟨w.heap.size, 1, none⟩) hl1).trans c1; have e2 := (hb2.cell (p := ⟨w.heap.size, 2, none⟩) hl1).trans c2; have e3 := (hb2.cell (p := ⟨w.heap.size, 3, none⟩) hl1).trans c3; clear hb2))
    | (go_at_call 12; ((with_reducible refine (refTokText_any k s n p w1.drew hn).mono ?_); rintro e w2 ⟨rfl, hb2⟩; have HB2 := Lib.hid (HbA.out.trans (hb2.mono hs1)); have hq : w1.heap.size ≤ w2.heap.size := hb2.size; have e0 := (hb2.cell (p := ⟨w.heap.size, 0, none⟩) hl1).trans c0; have e1 := (hb2.cell (p := ⟨w.heap.size, 1, none⟩) hl1).trans c1; have e2 := (hb2.cell (p := ⟨w.heap.size, 2, none⟩) hl1).trans c2; have e3 := (hb2.cell (p := ⟨w.heap.size, 3, none⟩) hl1).trans c3; clear hb2))
    | (go_at_call 11; ((with_reducible refine (tokText_any k s n p w2 hn (Htab.out.below HB2.out (Nat.le_refl _))).mono ?_); rintro e w3 ⟨rfl, hb3⟩; have HB3 := Lib.hid (HB2.out.trans (hb3.mono (Nat.le_trans hs1 hq))); have e0 := (hb3.cell (p := ⟨w.heap.size, 0, none⟩) (Nat.lt_of_lt_of_le hl1 hq)).trans e0; have e1 := (hb3.cell (p := ⟨w.heap.size, 1, none⟩) (Nat.lt_of_lt_of_le hl1 hq)).trans e1; have e2 := (hb3.cell (p := ⟨w.heap.size, 2, none⟩) (Nat.lt_of_lt_of_le hl1 hq)).trans e2; have e3 := (hb3.cell (p := ⟨w.heap.size, 3, none⟩) (Nat.lt_of_lt_of_le hl1 hq)).trans e3; have hq3 : w2.heap.size ≤ w3.heap.size := hb3.size; clear hb3))
    | (go_at_call 12; ((with_reducible refine (refTokText_any k s n p w2 hn).mono ?_); rintro e w3 ⟨rfl, hb3⟩; have HB3 := Lib.hid (HB2.out.trans (hb3.mono (Nat.le_trans hs1 hq))); have e0 := (hb3.cell (p := ⟨w.heap.size, 0, none⟩) (Nat.lt_of_lt_of_le hl1 hq)).trans e0; have e1 := (hb3.cell (p := ⟨w.heap.size, 1, none⟩) (Nat.lt_of_lt_of_le hl1 hq)).trans e1; have e2 := (hb3.cell (p := ⟨w.heap.size, 2, none⟩) (Nat.lt_of_lt_of_le hl1 hq)).trans e2; have e3 := (hb3.cell (p := ⟨w.heap.size, 3, none⟩) (Nat.lt_of_lt_of_le hl1 hq)).trans e3; have hq3 : w2.heap.size ≤ w3.heap.size := hb3.size; clear hb3))
    | (go_at_call 10; ((with_reducible refine (law28works_any w3 (Hkw.out.below HB3.out (Nat.le_refl _)) (Hsg.out.below HB3.out (Nat.le_refl _)) (Htab.out.below HB3.out (Nat.le_refl _))).mono ?_); rintro e w4 ⟨rfl, hb4⟩; have HB4 := Lib.hid (HB3.out.trans (hb4.mono (Nat.le_trans hs1 (Nat.le_trans hq hq3)))); have e0 := (hb4.cell (p := ⟨w.heap.size, 0, none⟩) (Nat.lt_of_lt_of_le hl1 (Nat.le_trans hq hq3))).trans e0; have e1 := (hb4.cell (p := ⟨w.heap.size, 1, none⟩) (Nat.lt_of_lt_of_le hl1 (Nat.le_trans hq hq3))).trans e1; have e2 := (hb4.cell (p := ⟨w.heap.size, 2, none⟩) (Nat.lt_of_lt_of_le hl1 (Nat.le_trans hq hq3))).trans e2; have e3 := (hb4.cell (p := ⟨w.heap.size, 3, none⟩) (Nat.lt_of_lt_of_le hl1 (Nat.le_trans hq hq3))).trans e3; clear hb4)))
  all_goals
    go_wp2_with fail
    go_ret
    exact ⟨rfl, HB4.out⟩
theorem i64_of_wf28 {a : Int} (h : (Lit.int .i64 a).wf = true) : -9223372036854775808 ≤ a ∧ a ≤ 9223372036854775807 := by
  simpa [Lit.wf, IntKind.min, IntKind.max, IntKind.signed, IntKind.bits] using h
theorem tokenTexts_law {H : Type} {base : Nat} (enc : TypeId × Value → H) (W : World)
    (v0 : Value) (d0 : DataW H) (p0 : List MemPlace) (k0 : Value.okWide Tryd.prog W .any base 31 v0) (h0 : DataW.Trod enc Tryd.prog W 0 (fun _ => true) true 31 v0 d0 p0)
    (hL : laidMetH Tryd.prog Rows.tokenTextsRow.laid W) :
    Calls Tryd.prog 4 #[v0] W fun e w' => e = .returned (.bool true) ∧ Below W.heap.size W w' := by
  obtain ⟨v0, v1, v2, v3, y0, y1, y2, y3, n, rfl, _, _, h1, h2, h3, h4⟩ := Go.Joins.open_agg4 Tryd.underlying31 (by kernel_rfl) (by kernel_rfl) k0 h0
  obtain ⟨a, ha, _, _⟩ := DataW.trod_int Tryd.underlying3 h1
  obtain ⟨b, hb, _, _⟩ := DataW.trod_string Tryd.underlying9 h2
  obtain ⟨c, hc, _, wc⟩ := DataW.trod_int Tryd.underlying3 h3
  obtain ⟨d, hd, _, _⟩ := DataW.trod_int Tryd.underlying3 h4
  simp only [List.cons.injEq, and_true] at ha hb hc hd
  subst ha hb hc hd
  exact tokenTexts_walk a b c d W (i64_of_wf28 wc) (res28_of hL (by rfl)) (sig28_of hL (by rfl)) (tab10_of hL (by rfl))
end Go.Proofs.YtapmjkgndojdfaaDoor
