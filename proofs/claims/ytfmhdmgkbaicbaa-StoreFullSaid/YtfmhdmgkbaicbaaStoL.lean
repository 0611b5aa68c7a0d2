/-
  Stores: the document's Copy; the chapter's example; the statements.
-/
import Derived.Test.YtfmhdmgkbaicbaaStoA
import Derived.Lib.SmallJoins
namespace Go.Proofs.Ytfmhdmgkbaicbaa
open Go.RowKit
set_option linter.unusedVariables false
set_option linter.unusedSimpArgs false

attribute [local go_sem ↓] append_appM
set_option maxRecDepth 100000 in
set_option maxHeartbeats 4000000 in
theorem copy_any {w : World} {B : Nat} {v : Value} {X : List Cel} (h : Objs w B v X) (hlen : X.length ≤ 100000) (hLs : ∀ x ∈ X, x.L.length ≤ 1000) :
    Calls Try.prog 19 #[v] w (AllPost33 w X) := by
  obtain ⟨i0, hi, hz0, hz1, hz2⟩ := info_parts info_obj
  obtain ⟨j0, hj, hy0, hy1, hy2⟩ := info_parts info_val
  have H := Lib.hid h
  obtain ⟨ao, c, rfl, hc1, hc2⟩ := owns_val h.out
  have HLs := Lib.hid hLs
  have hn63 : X.length ≤ 9223372036854775807 := by omega
  have hX := Lib.hid hlen
  clear h hLs hlen
  go_enter Try.func19, Try.ntmps19
  go_wp2_with fail
  go_loopw [3, 4] (fun o i wr => ∃ (k : Nat) (Y : List Cel), i = .int .i64 k ∧ k ≤ X.length ∧ Hid (Objs wr w.heap.size o Y) ∧ Hid (objOf Y = objOf (X.take k)) ∧ Below w.heap.size w wr) (fun _ i _ => X.length - (intOf i).toNat)
  case atStart => exact ⟨0, [], rfl, Nat.zero_le _, ⟨World.ownsRow_made _ _ _ (Nat.le_refl _) (Nat.zero_le _) rfl, (fun x hx => by cases hx), List.Pairwise.nil⟩, rfl, (Below.refl _ _).alloc (Nat.le_refl _) _⟩
  case round =>
    obtain ⟨k, Y, rfl, hk, HY, Hs, hbel⟩ := hrel
    have hYl : Y.length = k := by have := congrArg List.length Hs.out; simp [objOf] at this; omega
    by_cases hlt : k < X.length
    · have hsz := hbel.size
      have g1 := H.out.below hbel
      obtain ⟨b1, rfl, _, hbl1, e1, e2, _⟩ := g1.at k hlt
      obtain ⟨a3, c3, hv, hv1, hv2⟩ := g1.vat k hlt
      have hrow : Row wr w.heap.size 2 X[k].v X[k].L.length (valC X[k].L) := (Row.of_owns (H.out.each _ (List.getElem_mem hlt)).1).below hbel
      have hL1 := HLs.out _ (List.getElem_mem hlt)
      have HN : Hid (∀ v', objOf (Y ++ [⟨X[k].ty, v', X[k].L⟩]) = objOf (X.take (k + 1))) := fun v' => by
        rw [objOf_append, Hs.out, List.take_succ_eq_append_getElem hlt, objOf_append]; rfl
      rw [hv] at e2 hrow
      clear hv g1
      generalize X[k].L = L at *
      generalize X[k].ty = ty at *
      obtain ⟨ao, co, rfl, hco1, hco2⟩ := owns_val HY.out.out
      have hv0 : (wr.alloc (.cells #[] 30)).drew.ownsRow wr.heap.size 30 2 (.slice (some ⟨wr.heap.size, 0, none⟩) 0 0) 0 [] := owns_block (World.ownsRow_made (base := wr.heap.size) (e := 30) (size := 2) wr #[] 0 (Nat.le_refl _) (Nat.zero_le _) rfl) (fun _ _ => rfl)
      have hbA : Below wr.heap.size wr (wr.alloc (.cells #[] 30)).drew := ((Below.refl _ wr).alloc (Nat.le_refl _) _).drew
      obtain ⟨v', w2, happ1, hown2, hgrow2, _⟩ := run_append_row (P := Try.prog) (wr.alloc (.cells #[] 30)).drew 31 31 wr.heap.size 30 j0 (.agg #[.int .i64 0, .int .i64 0]) 2 16 Try.underlying31 hj hy0 hy1 hy2 rfl (by decide) _ 0 [] hv0 w.heap.size _ L.length (valC L) (hrow.below (hbA.mono hsz)) (valC_one L) (by unfold maxLen; omega) (by omega) (by simp)
      have hb2 : Below wr.heap.size wr w2 := hbA.grown hgrow2 (by simp) (fun k hk => by cases hk; exact Nat.le_refl _)
      simp only [Nat.zero_add, List.nil_append] at hown2
      obtain ⟨a5, c5, rfl, hcc1, hcc2⟩ := owns_val hown2
      obtain ⟨vn, w3, happ0, hown3, hgrow3, hat3⟩ := run_append_row (P := Try.prog) (w2.alloc (.cells #[.int .i64 ty, .slice a5 L.length c5] 49)) 26 26 w.heap.size 49 i0 (.agg #[.int .i64 0, .slice none 0 0]) 2 32 Try.underlying26 hi hz0 hz1 hz2 rfl (by decide) (.slice ao Y.length co) Y.length (outC Y) ((owns_block HY.out.out fun k e => hb2.block k (HY.out.out.lt k e).2).alloc _) (w2.heap.size + 1) (.slice (some ⟨w2.heap.size, 0, none⟩) 1 1) 1 [.int .i64 ty, .slice a5 L.length c5] (row_cellsB w2 [.int .i64 ty, .slice a5 L.length c5] 2 1 1 _ rfl (Nat.le_refl _) (by unfold maxLen; omega)) (by intro u hu; simp only [List.mem_cons, List.not_mem_nil, or_false] at hu; rcases hu with rfl | rfl <;> rfl) (by have := hX.out; unfold maxLen; omega) (by have := hX.out; omega) (by have := hb2.size; simp at this ⊢; omega)
      obtain ⟨a4, c4, rfl, hcd1, hcd2⟩ := owns_val hown3
      obtain ⟨hpu, hkeep⟩ := HY.out.push hsz hb2 ty (.slice a5 L.length c5) L _ hown2 _ hown3 hgrow3 hat3
      have HP := Lib.hid hpu
      have HB := Lib.hid (hbel.trans (hkeep.below (fun j e => (HY.out.out.lt j e).1) hsz))
      have HN2 := Lib.hid (HN.out (.slice a5 L.length c5))
      have happ1 := (show Sem.run Try.prog (appM _ _ _) _ = _ from happ1)
      have happ0 := (show Sem.run Try.prog (appM _ _ _) _ = _ from happ0)
      have hf1 : (wr.alloc (.cells #[] 30)).cell? ⟨b1, k * 2 + 1, none⟩ = some (.slice a3 L.length c3) := (((Below.refl _ wr).alloc (Nat.le_refl _) _).cell hbl1).trans e2
      have hf2 := (hb2.cell (p := ⟨b1, k * 2, none⟩) hbl1).trans e1
      have hk0 : (k : Int) < (X.length : Int) := by omega
      have hl2 : b1 < w2.heap.size := Nat.lt_of_lt_of_le hbl1 hb2.size
      have Hyl := Lib.hid hYl
      rw [hYl] at happ0
      simp only [hYl] at hcd1
      clear hrow hv0 hbA hown2 hgrow2 hb2 hown3 hgrow3 hat3 hpu hkeep HN HY
      rw [Hyl.out]
      clear hYl
      go_wp2_with fail
      go_region
      all_goals
        go_wp2_with fail
        go_roundw
        case rel => exact ⟨k + 1, _, by go_num, hlt, by have h := HP.out; rw [Hyl.out] at h; exact h, HN2, HB.out⟩
        case measure => simp [intOf]; omega
    · obtain rfl : k = X.length := by omega
      have HS2 : Hid (objOf Y = objOf X) := by have h := Hs.out; rw [List.take_length] at h; exact h
      clear Hs
      go_wp2_with fail
      go_ret
      exact ⟨_, Y, rfl, HY.out, HS2.out, hbel⟩
theorem wfoot {T : TypeId} {w : World} {B g : Nat} {vo : Value} {X : List Cel} (h : St T w B g vo X) : ∀ k, foot g vo X k → B ≤ k := fun k hk => (h.lt hk).1
theorem zeroK_x : zeroK ⟨#[42, 120]⟩ = 4 := by kernel_rfl
set_option maxRecDepth 100000 in
set_option maxHeartbeats 1600000 in
theorem law33works_any (w : World) : Calls Try.prog 18 #[] w fun e w' => e = .returned (.bool true) ∧ Below w.heap.size w w' := by
  go_enter Try.func18, Try.ntmps18
  go_wp2_with fail
  refine (stNew_any w w.heap.size (Nat.le_refl _)).mono ?_
  rintro e w1 ⟨rfl, hst, hb1, hl1⟩
  have hbA : Below w1.heap.size w1 (w1.alloc (.cells #[.int .i64 1, .int .i64 5] 30)) := (Below.refl _ _).alloc (Nat.le_refl _) _
  have hMk := stMake_yes (hst.below hbA) (Nat.le_trans hb1.size hbA.size) 0 (.slice (some ⟨w1.heap.size, 0, none⟩) 1 1) [(1, 5)] ((row_cellsB w1 (valC [(1, 5)]) 2 1 1 _ rfl (Nat.le_refl _) (by unfold maxLen; omega)).mono (by simp)) (by show 0 < 100000; omega) (by show 1 ≤ 1000; omega)
  have HM := Lib.hid hMk
  have HF := Lib.hid (wfoot (hst.below hbA))
  have HB := Lib.hid (hb1.trans (hbA.mono hb1.size))
  clear hMk hst hb1 hbA
  go_wp2_with fail
  refine HM.out.mono ?_
  rintro e w2 ⟨rfl, vn, v', hst2, hk2, _⟩
  have HB2 := Lib.hid (HB.out.trans (hk2.below HF.out HB.out.size))
  have hG := stGet_yes hst2 0 0 (by show 0 < 1; omega) (by show 0 < 1; omega)
  have HG := Lib.hid hG
  clear hst2 hk2 hG HM HF
  go_wp2_with fail
  refine HG.out.mono ?_
  rintro e w3 ⟨rfl, hb3⟩
  have HB3 := Lib.hid (HB2.out.trans (hb3.mono HB2.out.size))
  have hZ := fun w => stZero_any ⟨#[42, 120]⟩ w
  simp only [zeroK_x] at hZ
  have HZ := Lib.hid hZ
  have e0 : ([] ++ [(⟨0, v', [(1, 5)]⟩ : Cel)])[0].L[0] = (1, 5) := rfl
  have hfd : ∀ w : World, (Instr.field 30 (.agg #[.int .i64 4, .int .i64 0]) 0).run Try.prog w = .ok (.int .i64 4) w := fun _ => by kernel_rfl
  clear hZ hb3 HG
  go_wp2_with (go_at_call 20; refine (HZ.out _).mono ?_; rintro e w4 ⟨rfl, hb4⟩; have HB4 := Lib.hid (HB3.out.trans (Below.mono (Below.trans ((Below.refl _ _).alloc (Nat.le_refl _) _) (hb4.mono (by simp))) HB3.out.size)); clear hb4)
  go_ret
  exact ⟨rfl, HB4.out⟩
set_option maxRecDepth 100000 in
set_option maxHeartbeats 4000000 in
theorem storeFull_walk (a : Int) (w : World) (ha : 0 ≤ a ∧ a ≤ 255) :
    Calls Try.prog 5 #[.int .u8 a] w fun e w' => e = .returned (.bool true) ∧ Below w.heap.size w w' := by
  have H1 := Lib.hid (law33works_any w)
  go_enter Try.func5, Try.ntmps5
  go_wp2_with fail
  refine H1.out.mono ?_
  rintro e w1 ⟨rfl, hb1⟩
  go_wp2_with fail
  refine (stMake_nil w1 0 _).mono ?_
  rintro e w' ⟨rfl, rfl⟩
  go_wp2_with fail
  refine (stGet_nil w1).mono ?_
  rintro e w2 ⟨rfl, hb2⟩
  have HB2 := Lib.hid (hb1.trans (hb2.mono hb1.size))
  clear hb1 hb2
  go_wp2_with (first
    | (go_at_call 12; refine (stSet_nil _ 0 0).mono ?_; rintro e w4 ⟨rfl, hb4⟩; have HB4 := Lib.hid (HB2.out.trans (Below.mono (Below.trans ((Below.refl w2.heap.size w2).alloc (Nat.le_refl _) (.cells #[.int .i64 0, .int .i64 0] 30)) (hb4.mono (by simp))) HB2.out.size)); clear hb4)
    | (go_at_call 15; refine (stLen_nil _).mono ?_; rintro e w' ⟨rfl, rfl⟩)
    | (go_at_call 17; refine (stAll_nil _).mono ?_; rintro e w' ⟨rfl, rfl⟩)
    | (go_at_call 14; refine (stFork_nil _).mono ?_; rintro e w' ⟨rfl, rfl⟩)
    | (go_at_call 6; refine (stNew_any w4 w.heap.size HB4.out.size).mono ?_; rintro e w5 ⟨rfl, hst, hb5, hl5⟩))
  have hBw : w.heap.size ≤ w5.heap.size := Nat.le_trans HB4.out.size hb5.size
  have HB5 := Lib.hid (HB4.out.trans (hb5.mono HB4.out.size))
  have Hst := Lib.hid hst
  clear hb5 hst
  go_loopw [9] (fun i wr => ∃ (k : Nat) (vo : Value) (X : List Cel), i = .int .i64 k ∧ (k : Int) ≤ 100000 ∧ Hid (X.length = k) ∧ Hid (St 54 wr w.heap.size w4.heap.size vo X) ∧ Hid (Below w.heap.size w wr)) (fun i _ => 100000 - (intOf i).toNat)
  case atStart => exact ⟨0, _, [], rfl, by omega, rfl, Hst, HB5⟩
  case round =>
    obtain ⟨k, vo, X, rfl, hk, Hlen, HS, HB⟩ := hrel
    by_cases hlt : (k : Int) < 100000
    · have hM := stMake_yes HS.out HB.out.size 0 (.slice none 0 0) [] ⟨rfl, Nat.zero_le _, .inl ⟨rfl, rfl⟩⟩ (by rw [Hlen.out]; omega) (by show 0 ≤ 1000; omega)
      unfold MakePost at hM
      rw [Hlen.out] at hM
      have HM := Lib.hid hM
      have hF := Lib.hid (wfoot HS.out)
      clear hM
      go_wp2_with fail
      refine HM.out.mono ?_
      rintro e w6 ⟨rfl, vn, v', hst6, hk6, _⟩
      have HS6 := Lib.hid hst6
      have HB6 := Lib.hid (HB.out.trans (hk6.below hF.out HB.out.size))
      clear hst6 hk6 HM
      go_wp2_with fail
      go_roundw
      case rel => exact ⟨k + 1, vn, _, by go_num, by omega, by show List.length _ = _; rw [List.length_append, Hlen.out]; rfl, HS6, HB6⟩
      case measure => simp [intOf]; omega
    · obtain rfl : k = 100000 := by omega
      have hL := stLen_any HS.out
      rw [Hlen.out] at hL
      have HL := Lib.hid hL
      have HM := Lib.hid (stMake_full HS.out a (.slice none 0 0) (by rw [Hlen.out]; exact Nat.le_refl _))
      clear hL hk hlt
      go_wp2_with (first
        | (go_at_call 8; refine HM.out.mono ?_; rintro e w' ⟨rfl, rfl⟩)
        | (go_at_call 15; refine HL.out.mono ?_; rintro e w' ⟨rfl, rfl⟩))
      go_ret
      exact ⟨rfl, HB.out⟩
theorem u8_of_wf {a : Int} (h : (Lit.int .u8 a).wf = true) : 0 ≤ a ∧ a ≤ 255 := by
  simpa [Lit.wf, IntKind.min, IntKind.max, IntKind.signed, IntKind.bits] using h
theorem i64_of_wfS {a : Int} (h : (Lit.int .i64 a).wf = true) : -9223372036854775808 ≤ a ∧ a ≤ 9223372036854775807 := by
  simpa [Lit.wf, IntKind.min, IntKind.max, IntKind.signed, IntKind.bits] using h
theorem storeFull_law {H : Type} (enc : TypeId × Value → H) (W : World) (a0 : Int) (w0 : (Lit.int .u8 a0).wf = true) :
    Calls Try.prog 5 #[.int .u8 a0] W fun e w' => e = .returned (.bool true) ∧ Below W.heap.size W w' :=
  storeFull_walk a0 W (u8_of_wf w0)
end Go.Proofs.Ytfmhdmgkbaicbaa
