/-
  Stores: the document's Copy; the chapter's example; the statements.
-/
import Derived.Test.YtfmhdmgkbaicbaaStoA
import Derived.Lib.SmallJoins
namespace Go.Proofs.Ytfmhdmgkbaicbaa
open Go.RowKit
set_option linter.unusedVariables false
set_option linter.unusedSimpArgs false

attribute [local go_sem ↓] append_appM
set_option maxRecDepth 100000 in
set_option maxHeartbeats 4000000 in
theorem copy_any {w : World} {B : Nat} {v : Value} {X : List Cel} (h : Objs w B v X) (hlen : X.length ≤ 100000) (hLs : ∀ x ∈ X, x.L.length ≤ 1000) :
    Calls Try.prog 19 #[v] w (AllPost33 w X) := by
  obtain ⟨i0, hi, hz0, hz1, hz2⟩ := info_parts info_obj
  obtain ⟨j0, hj, hy0, hy1, hy2⟩ := info_parts info_val
  have H := Lib.hid h
  obtain ⟨ao, c, rfl, hc1, hc2⟩ := owns_val h.out
  have HLs := Lib.hid hLs
  have hn63 : X.length ≤ 9223372036854775807 := by omega
  have hX := Lib.hid hlen
  clear h hLs hlen
  go_enter Try.func19, Try.ntmps19
  go_wp2_with fail
  go_loopw [3, 4] (fun o i wr => ∃ (k : Nat) (Y : List Cel), i = .int .i64 k ∧ k ≤ X.length ∧ Hid (Objs wr w.heap.size o Y) ∧ Hid (objOf Y = objOf (X.take k)) ∧ Below w.heap.size w wr) (fun _ i _ => X.length - (intOf i).toNat)
  case atStart => exact ⟨0, [], rfl, Nat.zero_le _, ⟨World.ownsRow_made _ _ _ (Nat.le_refl _) (Nat.zero_le _) rfl, (fun x hx => by cases hx), List.Pairwise.nil⟩, rfl, (Below.refl _ _).alloc (Nat.le_refl _) _⟩
  case round =>
    obtain ⟨k, Y, rfl, hk, HY, Hs, hbel⟩ := hrel
    have hYl : Y.length = k := by have := congrArg List.length Hs.out; simp [objOf] at this; omega
    by_cases hlt : k < X.length
    · have hsz := hbel.size
      have g1 := H.out.below hbel
      obtain ⟨b1, rfl, _, hbl1, e1, e2, _⟩ := g1.at k hlt
      obtain ⟨a3, c3, hv, hv1, hv2⟩ := g1.vat k hlt
      have hrow : Row wr w.heap.size 2 X[k].v X[k].L.length (valC X[k].L) := (Row.of_owns (H.out.each _ (List.getElem_mem hlt)).1).below hbel
      have hL1 := HLs.out _ (List.getElem_mem hlt)
      have HN : Hid (∀ v', objOf (Y ++ [⟨X[k].ty, v', X[k].L⟩]) = objOf (X.take (k + 1))) := fun v' => by
        rw [objOf_append, Hs.out, List.take_succ_eq_append_getElem hlt, objOf_append]; rfl
      rw [hv] at e2 hrow
      clear hv g1
      generalize X[k].L = L at *
      generalize X[k].ty = ty at *
      obtain ⟨ao, co, rfl, hco1, hco2⟩ := owns_val HY.out.out
      have hv0 : (wr.alloc (.cells #[] 30)).drew.ownsRow wr.heap.size 30 2 (.slice (some ⟨wr.heap.size, 0, none⟩) 0 0) 0 [] := owns_block (World.ownsRow_made (base := wr.heap.size) (e := 30) (size := 2) wr #[] 0 (Nat.le_refl _) (Nat.zero_le _) rfl) (fun _ _ => rfl)
      have hbA : Below wr.heap.size wr (wr.alloc (.cells #[] 30)).drew := ((Below.refl _ wr).alloc (Nat.le_refl _) _).drew
      obtain ⟨v', w2, happ1, hown2, hgrow2, _⟩ := run_append_row (P := Try.prog) (wr.alloc (.cells #[] 30)).drew 31 31 wr.heap.size 30 j0 (.agg #[.int .i64 0, .int .i64 0]) 2 16 Try.underlying31 hj hy0 hy1 hy2 rfl (by decide) _ 0 [] hv0 w.heap.size _ L.length (valC L) (hrow.below (hbA.mono hsz)) (valC_one L) (by unfold maxLen; omega) (by omega) (by simp)
      have hb2 : Below wr.heap.size wr w2 := hbA.grown hgrow2 (by simp) (fun k hk => by cases hk; exact Nat.le_refl _)
      simp only [Nat.zero_add, List.nil_append] at hown2
      obtain ⟨a5, c5, rfl, hcc1, hcc2⟩ := owns_val hown2
      obtain ⟨vn, w3, happ0, hown3, hgrow3, hat3⟩ := run_append_row (P := Try.prog) (w2.alloc (.cells #[.int .i64 ty, .slice a5 L.length c5] 49)) 26 26 w.heap.size 49 i0 (.agg #[.int .i64 0, .slice none 0 0]) 2 32 Try.underlying26 hi hz0 hz1 hz2 rfl (by decide) (.slice ao Y.length co) Y.length (outC Y) ((owns_block HY.out.out fun k e => hb2.block k (HY.out.out.lt k e).2).alloc _) (w2.heap.size + 1) (.slice (some ⟨w2.heap.size, 0, none⟩) 1 1) 1 [.int .i64 ty, .slice a5 L.length c5] (row_cellsB w2 [.int .i64 ty, .slice a5 L.length c5] 2 1 1 _ rfl (Nat.le_refl _) (by unfold maxLen; omega)) (by intro u hu; simp only [List.mem_cons, List.not_mem_nil, or_false] at hu; rcases hu with rfl | rfl <;> rfl) (by have := hX.out; unfold maxLen; omega) (by have := hX.out; omega) (by have := hb2.size; simp at this ⊢; omega)
      obtain ⟨a4, c4, rfl, hcd1, hcd2⟩ := owns_val hown3
      obtain ⟨hpu, hkeep⟩ := HY.out.push hsz hb2 ty (.slice a5 L.length c5) L _ hown2 _ hown3 hgrow3 hat3
      have HP := Lib.hid hpu
      have HB := Lib.hid (hbel.trans (hkeep.below (fun j e => (HY.out.out.lt j e).1) hsz))
      have HN2 := Lib.hid (HN.out (.slice a5 L.length c5))
      have happ1 := (show Sem.run Try.prog (appM _ _ _) _ = _ from happ1)
      have happ0 := (show Sem.run Try.prog (appM _ _ _) _ = _ from happ0)
      have hf1 : (wr.alloc (.cells #[] 30)).cell? ⟨b1, k * 2 + 1, none⟩ = some (.slice a3 L.length c3) := (((Below.refl _ wr).alloc (Nat.le_refl _) _).cell hbl1).trans e2
      have hf2 := (hb2.cell (p := ⟨b1, k * 2, none⟩) hbl1).trans e1
      have hk0 : (k : Int) < (X.length : Int) := by omega
      have hl2 : b1 < w2.heap.size := Nat.lt_of_lt_of_le hbl1 hb2.size
      have Hyl := Lib.hid hYl
      rw [hYl] at happ0
      simp only [hYl] at hcd1
      clear hrow hv0 hbA hown2 hgrow2 hb2 hown3 hgrow3 hat3 hpu hkeep HN HY
      rw [Hyl.out]
      clear hYl
      go_wp2_with fail
      go_region
      all_goals
        go_wp2_with fail
        go_roundw
        case rel => exact ⟨k + 1, _, by go_num, hlt, by have h := HP.out; rw [Hyl.out] at h; exact h, HN2, HB.out⟩
        case measure => simp [intOf]; omega
    · obtain rfl : k = X.length := by omega
      have HS2 : Hid (objOf Y = objOf X) := by have h := Hs.out; rw [List.take_length] at h; exact h
      clear Hs
      go_wp2_with fail
      go_ret
      exact ⟨_, Y, rfl, HY.out, HS2.out, hbel⟩
theorem wfoot {T : TypeId} {w : World} {B g : Nat} {vo : Value} {X : List Cel} (h : St T w B g vo X) : ∀ k, foot g vo X k → B ≤ k := fun k hk => (h.lt hk).1
theorem zeroK_x : zeroK ⟨#[42, 120]⟩ = 4 := by kernel_rfl
set_option maxRecDepth 100000 in
set_option maxHeartbeats 1600000 in
theorem law33works_any (w : World) : Calls Try.prog 18 #[] w fun e w' => e = .returned (.bool true) ∧ Below w.heap.size w w' := by
  go_enter Try.func18, Try.ntmps18
  go_wp2_with fail
  refine (stNew_any w w.heap.size (Nat.le_refl _)).mono ?_
  rintro e w1 ⟨rfl, hst, hb1, hl1⟩
  have hbA : Below w1.heap.size w1 (w1.alloc (.cells #[.int .i64 1, .int .i64 5] 30)) := (Below.refl _ _).alloc (Nat.le_refl _) _
  have hMk := stMake_yes (hst.below hbA) (Nat.le_trans hb1.size hbA.size) 0 (.slice (some ⟨w1.heap.size, 0, none⟩) 1 1) [(1, 5)] ((row_cellsB w1 (valC [(1, 5)]) 2 1 1 _ rfl (Nat.le_refl _) (by unfold maxLen; omega)).mono (by simp)) (by show 0 < 100000; omega) (by show 1 ≤ 1000; omega)
  have HM := Lib.hid hMk
  have HF := Lib.hid (wfoot (hst.below hbA))
  have HB := Lib.hid (hb1.trans (hbA.mono hb1.size))
  clear hMk hst hb1 hbA
  go_wp2_with fail
  refine HM.out.mono ?_
  rintro e w2 ⟨rfl, vn, v', hst2, hk2, _⟩
  have HB2 := Lib.hid (HB.out.trans (hk2.below HF.out HB.out.size))
  have hG := stGet_yes hst2 0 0 (by show 0 < 1; omega) (by show 0 < 1; omega)
  have HG := Lib.hid hG
  clear hst2 hk2 hG HM HF
  go_wp2_with fail
  refine HG.out.mono ?_
  rintro e w3 ⟨rfl, hb3⟩
  have HB3 := Lib.hid (HB2.out.trans (hb3.mono HB2.out.size))
  have hZ := fun w => stZero_any ⟨#[42, 120]⟩ w
  simp only [zeroK_x] at hZ
  have HZ := Lib.hid hZ
  have e0 : ([] ++ [(⟨0, v', [(1, 5)]⟩ : Cel)])[0].L[0] = (1, 5) := rfl
  have hfd : ∀ w : World, (Instr.field 30 (.agg #[.int .i64 4, .int .i64 0]) 0).run Try.prog w = .ok (.int .i64 4) w := fun _ => by kernel_rfl
  clear hZ hb3 HG
  go_wp2_with (go_at_call 20; refine (HZ.out _).mono ?_; rintro e w4 ⟨rfl, hb4⟩; have HB4 := Lib.hid (HB3.out.trans (Below.mono (Below.trans ((Below.refl _ _).alloc (Nat.le_refl _) _) (hb4.mono (by simp))) HB3.out.size)); clear hb4)
  go_ret
  exact ⟨rfl, HB4.out⟩
set_option maxRecDepth 100000 in
set_option maxHeartbeats 4000000 in
theorem storeFull_walk (a : Int) (w : World) (ha : 0 ≤ a ∧ a ≤ 255) :
    Calls Try.prog 5 #[.int .u8 a] w fun e w' => e = .returned (.bool true) ∧ Below w.heap.size w w' := by
  have H1 := Lib.hid (law33works_any w)
  go_enter Try.func5, Try.ntmps5
  go_wp2_with fail
  refine H1.out.mono ?_
  rintro e w1 ⟨rfl, hb1⟩
  go_wp2_with fail
  refine (stMake_nil w1 0 _).mono ?_
  rintro e w' ⟨rfl, rfl⟩
  go_wp2_with fail
  refine (stGet_nil w1).mono ?_
  rintro e w2 ⟨rfl, hb2⟩
  have HB2 := Lib.hid (hb1.trans (hb2.mono hb1.size))
  clear hb1 hb2
  go_wp2_with (first
    | (go_at_call 12; refine (stSet_nil _ 0 0).mono ?_; rintro e w4 ⟨rfl, hb4⟩; have HB4 := Lib.hid (HB2.out.trans (Below.mono (Below.trans ((Below.refl w2.heap.size w2).alloc (Nat.le_refl _) (.cells #[.int .i64 0, .int .i64 0] 30)) (hb4.mono (by simp))) HB2.out.size)); clear hb4)
    | (go_at_call 15; refine (stLen_nil _).mono ?_; rintro e w' ⟨rfl, rfl⟩)
    | (go_at_call 17; refine (stAll_nil _).mono ?_; rintro e w' ⟨rfl, rfl⟩)
    | (go_at_call 14; refine (stFork_nil _).mono ?_; rintro e w' ⟨rfl, rfl⟩)
    | (go_at_call 6; refine (stNew_any w4 w.heap.size HB4.out.size).mono ?_; rintro e w5 ⟨rfl, hst, hb5, hl5⟩))
  have hBw : w.heap.size ≤ w5.heap.size := Nat.le_trans HB4.out.size hb5.size
  have HB5 := Lib.hid (HB4.out.trans (hb5.mono HB4.out.size))
  have Hst := Lib.hid hst
  clear hb5 hst
  go_loopw [9] (fun i wr => ∃ (k : Nat) (vo : Value) (X : List Cel), i = .int .i64 k ∧ (k : Int) ≤ 100000 ∧ Hid (X.length = k) ∧ Hid (St 54 wr w.heap.size w4.heap.size vo X) ∧ Hid (Below w.heap.size w wr)) (fun i _ => 100000 - (intOf i).toNat)
  case atStart => exact ⟨0, _, [], rfl, by omega, rfl, Hst, HB5⟩
  case round =>
    obtain ⟨k, vo, X, rfl, hk, Hlen, HS, HB⟩ := hrel
    by_cases hlt : (k : Int) < 100000
    · have hM := stMake_yes HS.out HB.out.size 0 (.slice none 0 0) [] ⟨rfl, Nat.zero_le _, .inl ⟨rfl, rfl⟩⟩ (by rw [Hlen.out]; omega) (by show 0 ≤ 1000; omega)
      unfold MakePost at hM
      rw [Hlen.out] at hM
      have HM := Lib.hid hM
      have hF := Lib.hid (wfoot HS.out)
      clear hM
      go_wp2_with fail
      refine HM.out.mono ?_
      rintro e w6 ⟨rfl, vn, v', hst6, hk6, _⟩
      have HS6 := Lib.hid hst6
      have HB6 := Lib.hid (HB.out.trans (hk6.below hF.out HB.out.size))
      clear hst6 hk6 HM
      go_wp2_with fail
      go_roundw
      case rel => exact ⟨k + 1, vn, _, by go_num, by omega, by show List.length _ = _; rw [List.length_append, Hlen.out]; rfl, HS6, HB6⟩
      case measure => simp [intOf]; omega
    · obtain rfl : k = 100000 := by omega
      have hL := stLen_any HS.out
      rw [Hlen.out] at hL
      have HL := Lib.hid hL
      have HM := Lib.hid (stMake_full HS.out a (.slice none 0 0) (by rw [Hlen.out]; exact Nat.le_refl _))
      clear hL hk hlt
      go_wp2_with (first
        | (go_at_call 8; refine HM.out.mono ?_; rintro e w' ⟨rfl, rfl⟩)
        | (go_at_call 15; refine HL.out.mono ?_; rintro e w' ⟨rfl, rfl⟩))
      go_ret
      exact ⟨rfl, HB.out⟩
theorem u8_of_wf {a : Int} (h : (Lit.int .u8 a).wf = true) : 0 ≤ a ∧ a ≤ 255 := by
  simpa [Lit.wf, IntKind.min, IntKind.max, IntKind.signed, IntKind.bits] using h
theorem i64_of_wfS {a : Int} (h : (Lit.int .i64 a).wf = true) : -9223372036854775808 ≤ a ∧ a ≤ 9223372036854775807 := by
  simpa [Lit.wf, IntKind.min, IntKind.max, IntKind.signed, IntKind.bits] using h
theorem storeFull_law {H : Type} (enc : TypeId × Value → H) (W : World) (a0 : Int) (w0 : (Lit.int .u8 a0).wf = true) :
    Calls Try.prog 5 #[.int .u8 a0] W fun e w' => e = .returned (.bool true) ∧ Below W.heap.size W w' :=
  storeFull_walk a0 W (u8_of_wf w0)
/-- The objects of the statement's first loop. -/
def setsO (k : Nat) : List (Int × List (Int × Int)) := (List.range k).map fun (j : Nat) => ((j : Int), [(1, (j : Int)), (2, 0), (4, 0)])
theorem setsO_succ (k : Nat) : setsO (k + 1) = setsO k ++ [((k : Int), [(1, (k : Int)), (2, 0), (4, 0)])] := by
  unfold setsO; rw [List.range_succ, List.map_append]; rfl
theorem setsO_len (k : Nat) : (setsO k).length = k := by simp [setsO]
theorem setsO_at (k i : Nat) (h : i < k) {X : List Cel} (hX : objOf X = setsO k) : ∃ hi : i < X.length, X[i].L.length = 3 := by
  have hl : X.length = k := by have := congrArg List.length hX; rw [setsO_len] at this; simpa [objOf] using this
  refine ⟨by omega, ?_⟩
  have := congrArg (fun z => z[i]?) hX
  simp only [objOf, setsO, List.getElem?_map, List.getElem?_eq_getElem (show i < X.length by omega), List.getElem?_range h, Option.map_some, Option.some.injEq, Prod.mk.injEq] at this
  rw [this.2]; rfl
theorem objOf_set {X Y : List Cel} (h : objOf X = objOf Y) (i f : Nat) (p : Int × Int) : objOf (setX X i f p) = objOf (setX Y i f p) := by
  have key : ∀ X : List Cel, objOf (setX X i f p) = (objOf X).modify i fun q => (q.1, q.2.set f p) := by
    intro X
    unfold objOf setX
    apply List.ext_getElem?
    intro j
    simp only [List.getElem?_map, List.getElem?_modify]
    cases X[j]? with
    | none => simp
    | some x => simp only [Option.map_some]; split <;> rfl
  rw [key, key, h]
theorem objOf_len {X : List Cel} {O : List (Int × List (Int × Int))} (h : objOf X = O) : X.length = O.length := by rw [← h]; simp [objOf]
theorem setX_len_of {X : List Cel} {B : Nat} (i f : Nat) (p : Int × Int) (h : ∀ x ∈ X, x.L.length ≤ B) : ∀ x ∈ setX X i f p, x.L.length ≤ B := by
  intro x hx
  obtain ⟨j, hj, rfl⟩ := List.getElem_of_mem hx
  have hj' : j < X.length := by rw [setX_length] at hj; exact hj
  rw [setX_at X i f p j hj']
  have := h _ (List.getElem_mem hj')
  split
  · show (List.set _ _ _).length ≤ B; rw [List.length_set]; exact this
  · exact this
theorem setsO_each (k : Nat) {X : List Cel} (hX : objOf X = setsO k) : ∀ x ∈ X, x.L.length = 3 := by
  intro x hx
  obtain ⟨i, hi, rfl⟩ := List.getElem_of_mem hx
  have hl : X.length = k := by rw [objOf_len hX, setsO_len]
  obtain ⟨_, h⟩ := setsO_at k i (by omega) hX
  exact h
theorem TkV_new (w : World) (p q : Int) : (w.alloc (.cells #[.int .i64 p, .int .i64 q] 30)).cell? ⟨w.heap.size, 0, none⟩ = some (.int .i64 p) ∧ (w.alloc (.cells #[.int .i64 p, .int .i64 q] 30)).cell? ⟨w.heap.size, 1, none⟩ = some (.int .i64 q) := by
  constructor <;> (rw [cell_of_row _ _ _ _ _ (0, 0) (heap_alloc_new w _)]; rfl)
set_option maxRecDepth 100000 in
set_option maxHeartbeats 4000000 in
theorem storeSets_walk (a b c : Int) (p q : Int) (s : ByteArray) (w : World) (ha : 0 ≤ a ∧ a ≤ 255) (hb : 0 ≤ b ∧ b ≤ 255) (hc : 0 ≤ c ∧ c ≤ 255) :
    Calls Try.prog 4 #[.int .u8 a, .int .u8 b, .int .u8 c, .agg #[.int .i64 p, .int .i64 q], .string s] w fun e w' => e = .returned (.bool true) ∧ Below w.heap.size w w' := by
  have hbA : Below w.heap.size w (w.alloc (.cells #[.int .i64 p, .int .i64 q] 30)) := (Below.refl _ _).alloc (Nat.le_refl _) _
  have H1 := Lib.hid (law33works_any (w.alloc (.cells #[.int .i64 p, .int .i64 q] 30)))
  obtain ⟨a1, a2⟩ := ha
  obtain ⟨b1, b2⟩ := hb
  obtain ⟨c1, c2⟩ := hc
  go_enter Try.func4, Try.ntmps4
  go_wp2_with fail
  refine H1.out.mono ?_
  rintro e w1 ⟨rfl, hb1⟩
  go_wp2_with fail
  have hb01 := hbA.trans (hb1.mono hbA.size)
  obtain ⟨n, hn⟩ : ∃ n : Nat, (n : Int) = 1 + a % 9 := ⟨(1 + a % 9).toNat, by omega⟩
  have hn9 : 1 ≤ n ∧ n ≤ 9 := by omega
  obtain ⟨hn1, hn2⟩ := hn9
  rw [← hn]
  have hbt := TkV_new w p q
  obtain ⟨tb0, tb1⟩ := hbt
  have hwl : w.heap.size < (w.alloc (.cells #[.int .i64 p, .int .i64 q] 30)).heap.size := by simp
  have t0 := (hb1.cell (p := ⟨w.heap.size, 0, none⟩) hwl).trans tb0
  have t1 := (hb1.cell (p := ⟨w.heap.size, 1, none⟩) hwl).trans tb1
  have hwl1 : w.heap.size < w1.heap.size := Nat.lt_of_lt_of_le hwl hb1.size
  have Hn := Lib.hid hn
  clear hn tb0 tb1 hb1 hbA H1
  refine (stNew_any w1 (w.heap.size + 1) hwl1).mono ?_
  rintro e w2 ⟨rfl, hst, hb2, hl2⟩
  have t0' := (hb2.cell (p := ⟨w.heap.size, 0, none⟩) hwl1).trans t0
  have t1' := (hb2.cell (p := ⟨w.heap.size, 1, none⟩) hwl1).trans t1
  have HB2 := Lib.hid (hb01.trans (hb2.mono hb01.size))
  have hs2 := hb2.size
  have Hst := Lib.hid hst
  clear hst hb2 hb01 t0 t1
  go_wp2_with fail
  go_loopw [13] (fun i wr => ∃ (k : Nat) (vo : Value) (X : List Cel), i = .int .i64 k ∧ k ≤ n ∧ Hid (objOf X = setsO k) ∧ Hid (St 54 wr (w.heap.size + 1) w1.heap.size vo X) ∧ Hid (Below (w.heap.size + 1) w2 wr)) (fun i _ => n - (intOf i).toNat)
  case atStart => exact ⟨0, _, [], rfl, by omega, rfl, Hst, Lib.hid (Below.refl _ _)⟩
  case round =>
    obtain ⟨k, vo, X, rfl, hk, Ho, HS, HB⟩ := hrel
    by_cases hlt : k < n
    · have hbA : Below wr.heap.size wr (wr.alloc (.cells #[.int .i64 1, .int .i64 k, .int .i64 2, .int .i64 0, .int .i64 4, .int .i64 0] 30)) := (Below.refl _ _).alloc (Nat.le_refl _) _
      have hXl : X.length = k := by rw [objOf_len Ho.out, setsO_len]
      have hM := stMake_yes (HS.out.below hbA) (by have := HB.out.size; simp; omega) (k : Int) (.slice (some ⟨wr.heap.size, 0, none⟩) 3 3) [(1, (k : Int)), (2, 0), (4, 0)] ((row_cellsB wr (valC [(1, (k : Int)), (2, 0), (4, 0)]) 2 3 3 _ rfl (Nat.le_refl _) (by unfold maxLen; omega)).mono (by simp)) (by omega) (by show 3 ≤ 1000; omega)
      have HM := Lib.hid hM
      have HF := Lib.hid (wfoot HS.out)
      have HA := Lib.hid hbA
      have hsB : w.heap.size + 1 ≤ wr.heap.size := by have := HB.out.size; omega
      have hk63 : (k : Int) < (n : Int) := by omega
      clear hM hbA hXl
      go_wp2_with fail
      refine HM.out.mono ?_
      rintro e w6 ⟨rfl, vn, v', hst6, hk6, _⟩
      have HS6 := Lib.hid hst6
      have HB6 : Hid (Below (w.heap.size + 1) w2 w6) := Lib.hid ((HB.out.trans (HA.out.mono hsB)).trans (hk6.below HF.out (Nat.le_trans hsB HA.out.size)))
      have HO6 : Hid (objOf (X ++ [⟨(k : Int), v', [(1, (k : Int)), (2, 0), (4, 0)]⟩]) = setsO (k + 1)) := by
        show _ = _; rw [objOf_append, Ho.out, setsO_succ]; rfl
      clear hst6 hk6 HM
      go_wp2_with fail
      go_roundw
      case rel => exact ⟨k + 1, vn, _, by go_num, hlt, HO6, HS6, HB6⟩
      case measure => simp [intOf]; omega
    · obtain rfl : k = n := by omega
      have hXl : X.length = k := by rw [objOf_len Ho.out, setsO_len]
      have hX3 := setsO_each k Ho.out
      obtain ⟨i, hi⟩ : ∃ i : Nat, (i : Int) = b % (k : Int) := ⟨(b % (k : Int)).toNat, by have := Int.emod_nonneg b (show (k : Int) ≠ 0 by omega); omega⟩
      have hik : i < k := by have := Int.emod_lt_of_pos b (show (0 : Int) < (k : Int) by omega); omega
      obtain ⟨f, hf⟩ : ∃ f : Nat, (f : Int) = c % 3 := ⟨(c % 3).toNat, by omega⟩
      have hf3 : f < 3 := by omega
      have hiX : i < X.length := by omega
      have hfX : f < X[i].L.length := by rw [hX3 _ (List.getElem_mem hiX)]; exact hf3
      have HAll := Lib.hid (stAll_any HS.out (by omega) (fun x hx => by rw [hX3 x hx]; omega))
      have hsB : w.heap.size + 1 ≤ wr.heap.size := by have := HB.out.size; omega
      have u0 := (HB.out.cell (p := ⟨w.heap.size, 0, none⟩) (Nat.lt_succ_self _)).trans t0'
      have u1 := (HB.out.cell (p := ⟨w.heap.size, 1, none⟩) (Nat.lt_succ_self _)).trans t1'
      have hk0 : (0 : Int) < (k : Int) := by omega
      have Hi := Lib.hid hi; have Hf := Lib.hid hf
      have HX3 := Lib.hid hX3; have HXl := Lib.hid hXl
      clear hX3 hXl t0' t1' hi hf
      go_wp2_with fail
      rw [← Hi.out, ← Hf.out]
      refine HAll.out.mono ?_
      rintro e w5 ⟨v5, Y, rfl, ho5, hs5, hb5⟩
      have hYl : Y.length = k := by rw [(objOf_at hs5).1, HXl.out]
      have HC := Lib.hid (copy_any ho5 (by omega) (fun x hx => by
        obtain ⟨j, hj, rfl⟩ := List.getElem_of_mem hx
        have h1 := (objOf_at hs5).2 j hj (by rw [HXl.out]; omega)
        rw [h1.2, HX3.out _ (List.getElem_mem _)]; omega))
      have Hs5 := Lib.hid hs5; have Hb5 := Lib.hid hb5
      clear ho5 hs5 hb5 HAll hYl
      go_wp2_with fail
      refine HC.out.mono ?_
      rintro e w6 ⟨v6, Z, rfl, ho6, hs6, hb6⟩
      have hb56 := Hb5.out.trans (hb6.mono Hb5.out.size)
      have hst6 := HS.out.below hb56
      have z0 := (hb56.cell (p := ⟨w.heap.size, 0, none⟩) (by show w.heap.size < _; omega)).trans u0
      have z1 := (hb56.cell (p := ⟨w.heap.size, 1, none⟩) (by show w.heap.size < _; omega)).trans u1
      have HSet := Lib.hid (stSet_yes hst6 i f hiX hfX p q)
      have Hst6 := Lib.hid hst6
      have Ho6 := Lib.hid ho6
      have Hs6 := Lib.hid (hs6.trans Hs5.out)
      have Hb56 := Lib.hid hb56
      have hs65 : wr.heap.size ≤ w5.heap.size := Hb5.out.size
      have hs66 := hb6.size
      have hw66 : w.heap.size < w6.heap.size := by omega
      clear ho6 hs6 hb6 hst6 hb56 HC u0 u1 Hs5
      go_wp2_with fail
      refine HSet.out.mono ?_
      rintro e w7 ⟨rfl, hst7, hk7⟩
      have hfg : ∀ j, foot w1.heap.size vo X j → w.heap.size + 1 ≤ j ∧ j < wr.heap.size := fun j hj => ⟨(Hst6.out.lt hj).1, (HS.out.lt hj).2⟩
      have ho7 := Ho6.out.kept hk7 (fun j hj hj2 => by have h1 := (Ho6.out.lt hj).1; have h2 := (hfg j hj2).2; omega)
      have y0 : w7.cell? ⟨w.heap.size, 0, none⟩ = some (.int .i64 p) := (World.cell?_of_block (hk7.block w.heap.size hw66 (fun hj => by have := (hfg _ hj).1; omega))).trans z0
      have y1 : w7.cell? ⟨w.heap.size, 1, none⟩ = some (.int .i64 q) := (World.cell?_of_block (hk7.block w.heap.size hw66 (fun hj => by have := (hfg _ hj).1; omega))).trans z1
      have hiX7 : i < (setX X i f (p, q)).length := by rw [setX_length]; exact hiX
      have hX7 : (setX X i f (p, q))[i].L = X[i].L.set f (p, q) := by rw [setX_at X i f (p, q) i hiX, if_pos rfl]
      have hfX7 : f < (setX X i f (p, q))[i].L.length := by rw [hX7, List.length_set]; exact hfX
      have hG := stGet_yes hst7 i f hiX7 hfX7
      have hval : (setX X i f (p, q))[i].L[f] = (p, q) := by simp only [hX7]; rw [List.getElem_set_self]
      rw [hval] at hG
      have HG := Lib.hid hG
      have Hst7 := Lib.hid hst7; have Ho7 := Lib.hid ho7; have Hk7 := Lib.hid hk7
      have hs7 := hk7.size
      clear hst7 ho7 hk7 hG HSet hval hX7 hfX7 z0 z1 hiX7
      go_wp2_with fail
      refine HG.out.mono ?_
      rintro e w8 ⟨rfl, hb8⟩
      have hbW : Below w7.heap.size w7 (w8.alloc (.cells #[.int .i64 p, .int .i64 q] 30)) := hb8.alloc hb8.size _
      have hoW := Ho7.out.below hbW
      have hstW := Hst7.out.below hbW
      have hZl : Z.length = k := by rw [(objOf_at Hs6.out).1, HXl.out]
      have hiZ : i < Z.length := by omega
      have hZL : Z[i].L = X[i].L := ((objOf_at Hs6.out).2 i hiZ hiX).2
      have hfZ : f < Z[i].L.length := by rw [hZL]; exact hfX
      obtain ⟨az, cz, rfl, hcz1, hcz2⟩ := owns_val hoW.out
      obtain ⟨bz, rfl, _, hbz, o1, o2, _⟩ := hoW.at i hiZ
      obtain ⟨az2, cz2, hvz, hvz1, hvz2⟩ := hoW.vat i hiZ
      obtain ⟨b3, rfl, hb3B, hb3l, d1, d2, fr1, fr2⟩ := hoW.field i hiZ hvz f hfZ
      have hoS := (hoW.set i f hiZ hfZ hvz (p, q)).keep (w' := (((w8.alloc (.cells #[.int .i64 p, .int .i64 q] 30)).setCell ⟨b3, f * 2, none⟩ (.int .i64 p)).setCell ⟨b3, f * 2 + 1, none⟩ (.int .i64 q)).drew) (fun _ _ => rfl)
      have hstS : St 54 (((w8.alloc (.cells #[.int .i64 p, .int .i64 q] 30)).setCell ⟨b3, f * 2, none⟩ (.int .i64 p)).setCell ⟨b3, f * 2 + 1, none⟩ (.int .i64 q)).drew (w.heap.size + 1) w1.heap.size vo (setX X i f (p, q)) := hstW.keep fun j hj => by
        have hne : j ≠ b3 := by
          rcases hj with rfl | hj
          · have := (hfg _ (.inl rfl)).2; omega
          · have := (hfg j (.inr ((setX_foot _ _ _ _ _ _).1 hj))).2; omega
        show ((((w8.alloc (.cells #[.int .i64 p, .int .i64 q] 30)).setCell ⟨b3, f * 2, none⟩ (.int .i64 p)).setCell ⟨b3, f * 2 + 1, none⟩ (.int .i64 q)).heap)[j]? = _
        rw [Below.heap_setCell _ _ _ _ hne, Below.heap_setCell _ _ _ _ hne]
      have HAll2 := Lib.hid (stAll_any hstS (by rw [setX_length, HXl.out]; omega) (setX_len_of i f (p, q) (fun x hx => by rw [HX3.out x hx]; omega)))
      have HoS := Lib.hid hoS
      have hsame : objOf (setX X i f (p, q)) = objOf (setX Z i f (p, q)) := objOf_set Hs6.out.symm i f (p, q)
      have Hsame := Lib.hid hsame
      have x0 := (hbW.cell (p := ⟨w.heap.size, 0, none⟩) (by show w.heap.size < _; omega)).trans y0
      have x1 := (hbW.cell (p := ⟨w.heap.size, 1, none⟩) (by show w.heap.size < _; omega)).trans y1
      have hne0 : w.heap.size ≠ b3 := by omega
      have hne8 : w8.heap.size ≠ b3 := by have := hb8.size; have h1 := (Ho6.out.lt (k := b3) (.inr ⟨Z[i], List.getElem_mem hiZ, by rw [hvz]; rfl⟩)).2; omega
      have g0 : (0 : Int) ≤ (i : Int) := by omega
      have g1 : (i : Int) < (Z.length : Int) := by omega
      have g2 : (0 : Int) ≤ (f : Int) := by omega
      have g3 : (f : Int) < (Z[i].L.length : Int) := by omega
      have HbW := Lib.hid hbW
      have h58 : w7.heap.size ≤ w8.heap.size := hb8.size
      rw [hvz] at o2
      have HZ1 := fun w => stZero_any s w
      have HZ2 := fun w => refZero_any s w
      have HZ1 := Lib.hid HZ1; have HZ2 := Lib.hid HZ2
      have HBig : Hid (Below w.heap.size w (((w8.alloc (.cells #[.int .i64 p, .int .i64 q] 30)).setCell ⟨b3, f * 2, none⟩ (.int .i64 p)).setCell ⟨b3, f * 2 + 1, none⟩ (.int .i64 q)).drew) := by
        refine Lib.hid (((Below.setCell ?_ (p := ⟨b3, f * 2, none⟩) (by show w.heap.size ≤ b3; omega) _).setCell (p := ⟨b3, f * 2 + 1, none⟩) (by show w.heap.size ≤ b3; omega) _).drew)
        have h1 : Below w.heap.size w wr := HB2.out.trans (HB.out.mono (Nat.le_succ _))
        have h2 : Below w.heap.size wr w6 := Hb56.out.mono (by omega)
        have h3 : Below w.heap.size w6 w7 := Hk7.out.below (fun j hj => by have := (hfg j hj).1; omega) (by omega)
        exact ((h1.trans h2).trans h3).trans (hbW.mono (by omega))
      have HZl := Lib.hid hZl
      clear hZl
      clear hoW hstW hoS hstS hsame hvz hb8 hbW y0 y1 HG hZL
      generalize Z[i].L[f] = zz at *
      generalize Z[i].L.length = mz at *
      generalize Z[i].ty = tz at *
      generalize zeroK s = zk at *
      obtain ⟨tw0, tw1⟩ := TkV_new w8 p q
      go_wp2_with fail
      generalize w8.alloc (.cells #[.int .i64 p, .int .i64 q] 30) = w9 at *
      go_region
      all_goals
        go_wp2_with fail
        refine HAll2.out.mono ?_
        rintro e w10 ⟨v10, Y2, rfl, ho10, hs10, hb10⟩
        have HB10 := Lib.hid (HBig.out.trans (hb10.mono HBig.out.size))
        have HSL := Lib.hid (sameList_any ho10 (HoS.out.below hb10) (hs10.trans Hsame.out))
        have hq10 : w.heap.size ≤ w10.heap.size := HB10.out.size
        have Hval := Lib.hid (owns_val ho10.out)
        clear ho10 hs10 hb10
        go_wp2_with fail
        refine HSL.out.mono ?_
        rintro e w11 ⟨rfl, hb11⟩
        have HB11 := Lib.hid (HB10.out.trans (hb11.mono HB10.out.size))
        clear hb11 HSL
        go_wp2_with fail
        refine (HZ1.out w11).mono ?_
        rintro e w12 ⟨rfl, hb12⟩
        have HB12 := Lib.hid (HB11.out.trans (hb12.mono HB11.out.size))
        clear hb12
        go_wp2_with fail
        refine (HZ2.out w12).mono ?_
        rintro e w13 ⟨rfl, hb13⟩
        have HB13 := Lib.hid (HB12.out.trans (hb13.mono HB12.out.size))
        clear hb13
        go_wp2_with fail
        go_ret
        exact ⟨rfl, HB13.out⟩
theorem storeSets_law {H : Type} {base : Nat} (enc : TypeId × Value → H) (W : World) (a0 : Int) (w0 : (Lit.int .u8 a0).wf = true) (a1 : Int) (w1 : (Lit.int .u8 a1).wf = true) (a2 : Int) (w2 : (Lit.int .u8 a2).wf = true)
    (v3 : Value) (d3 : DataW H) (p3 : List MemPlace) (k3 : Value.okWide Try.prog W .any base 30 v3) (h3 : DataW.Trod enc Try.prog W 0 (fun _ => true) true 30 v3 d3 p3)
    (a4 : ByteArray) (w4 : a4.size ≤ maxLen) :
    Calls Try.prog 4 #[.int .u8 a0, .int .u8 a1, .int .u8 a2, v3, .string a4] W fun e w' => e = .returned (.bool true) ∧ Below W.heap.size W w' := by
  obtain ⟨u0, u1, y0, y1, n, rfl, _, _, h1, h2⟩ := Go.Joins.open_agg2 Try.underlying30 (by kernel_rfl) (by kernel_rfl) k3 h3
  obtain ⟨a, ha, _, _⟩ := DataW.trod_int Try.underlying3 h1
  obtain ⟨b, hb, _, _⟩ := DataW.trod_int Try.underlying2 h2
  simp only [List.cons.injEq, and_true] at ha hb
  subst ha hb
  exact storeSets_walk a0 a1 a2 a b a4 W (u8_of_wf w0) (u8_of_wf w1) (u8_of_wf w2)
end Go.Proofs.Ytfmhdmgkbaicbaa
