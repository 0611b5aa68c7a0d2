/-
  Stores: slices.Clone at values and at objects; an object is made.
-/
import Derived.Test.YtfmhdmgkbaicbaaStoS
import Derived.Test.YtfmhdmgkbaicbaaSlB
import Derived.Deep.RegionHeld3
import Derived.Deep.RegionWith
import Derived.Lib.SliceRun
namespace Go.Proofs.Ytfmhdmgkbaicbaa
open Go.RowKit
set_option linter.unusedVariables false
set_option linter.unusedSimpArgs false

theorem info_val : (Try.prog.info? 30).map (fun i => (i.zero, i.size, i.bytes)) = some (some (.agg #[.int .i64 0, .int .i64 0]), 2, 16) := by kernel_rfl
theorem info_obj : (Try.prog.info? 49).map (fun i => (i.zero, i.size, i.bytes)) = some (some (.agg #[.int .i64 0, .slice none 0 0]), 2, 32) := by kernel_rfl
set_option maxRecDepth 100000 in
theorem cloneVal_any (v : Value) (n B : Nat) (xs : List Value) (w : World) (hr : Row w B 2 v n xs) (h1 : ∀ u ∈ xs, u.oneCell' = true) (hn : n ≤ 1000000) :
    Calls Try.prog 22 #[v] w fun e w' => ∃ v', e = .returned v' ∧ w'.ownsRow w.heap.size 30 2 v' n xs ∧ Below w.heap.size w w' := by
  obtain ⟨i0, hi, hz0, hz1, hz2⟩ := info_parts info_val
  have hr0 := hr
  have q22 : ∀ (w : World) (a : Option Addr) (n c n' c' : Nat), (binOp .eql 31 (.slice a n c) (.slice none n' c')).run Try.prog w = .ok (.bool a.isNone) w := fun w a n c n' c' => Lib.run_eql_slice_nil w _ _ a n c n' c' Try.underlying31
  rcases hr.2.2 with ⟨rfl, rfl⟩ | ⟨a, c, rfl, hc1, hc2, _, hc⟩
  · have hx : xs = [] := List.length_eq_zero_iff.1 (by have := hr.1; simpa using this)
    subst hx
    clear hr hr0
    go_enter Try.func22, Try.ntmps22
    go_wp2_with fail
    go_ret
    exact ⟨_, rfl, World.ownsRow_nil _ _ _ _, Below.refl _ _⟩
  · have hown := World.ownsRow_made (base := w.heap.size) (e := 30) (size := 2) w #[] 0 (Nat.le_refl _) (Nat.zero_le _) rfl
    have hr2 : Row (w.alloc (.cells #[] 30)) (max B w.heap.size) 2 (.slice (some a) n c) n xs := by
      refine ⟨hr0.1, hr0.2.1, .inr ⟨a, c, rfl, hc1, hc2, ?_, fun j u hu => ?_⟩⟩
      · rcases hr0.2.2 with ⟨hv, _⟩ | ⟨a', c', hv, _, _, hb, _⟩
        · simp at hv
        · simp only [Value.slice.injEq, Option.some.injEq] at hv
          obtain ⟨rfl, _⟩ := hv
          exact hb.imp id (fun h => by omega)
      · have h := hc j u hu
        have hlt := World.block_lt_of_cell? w _ h
        rw [((Below.refl w.heap.size w).alloc (Nat.le_refl _) _).cell hlt]; exact h
    have Hr := Lib.hid hr2; have Hown := Lib.hid hown
    clear hr hr0 hc hr2 hown
    go_enter Try.func22, Try.ntmps22
    go_wp2_with (at_builtin; refine wpList_append_row_at _ rfl (.tmp 5) (.tmp 6) 31 rfl w.heap.size 30 i0 (.agg #[.int .i64 0, .int .i64 0]) 2 16 Try.underlying31 hi hz0 hz1 hz2 rfl (by decide) _ 0 [] rfl Hown.out _ _ n xs rfl Hr.out h1 (by unfold maxLen; omega) (by omega) (by simp) ?_; intro v' w1 hown1 hgrow hat)
    go_ret
    exact ⟨v', rfl, by simpa using hown1, ((Below.refl _ w).alloc (Nat.le_refl _) _).grown hgrow (by simp) (fun k hk => by cases hk; exact Nat.le_refl _)⟩
set_option maxRecDepth 100000 in
theorem cloneObj_any (v : Value) (n B : Nat) (xs : List Value) (w : World) (hr : Row w B 2 v n xs) (h1 : ∀ u ∈ xs, u.oneCell' = true) (hn : n ≤ 1000000) :
    Calls Try.prog 25 #[v] w fun e w' => ∃ v', e = .returned v' ∧ w'.ownsRow w.heap.size 49 2 v' n xs ∧ Below w.heap.size w w' := by
  obtain ⟨i0, hi, hz0, hz1, hz2⟩ := info_parts info_obj
  have hr0 := hr
  have q22 : ∀ (w : World) (a : Option Addr) (n c n' c' : Nat), (binOp .eql 26 (.slice a n c) (.slice none n' c')).run Try.prog w = .ok (.bool a.isNone) w := fun w a n c n' c' => Lib.run_eql_slice_nil w _ _ a n c n' c' Try.underlying26
  rcases hr.2.2 with ⟨rfl, rfl⟩ | ⟨a, c, rfl, hc1, hc2, _, hc⟩
  · have hx : xs = [] := List.length_eq_zero_iff.1 (by have := hr.1; simpa using this)
    subst hx
    clear hr hr0
    go_enter Try.func25, Try.ntmps25
    go_wp2_with fail
    go_ret
    exact ⟨_, rfl, World.ownsRow_nil _ _ _ _, Below.refl _ _⟩
  · have hown := World.ownsRow_made (base := w.heap.size) (e := 49) (size := 2) w #[] 0 (Nat.le_refl _) (Nat.zero_le _) rfl
    have hr2 : Row (w.alloc (.cells #[] 49)) (max B w.heap.size) 2 (.slice (some a) n c) n xs := by
      refine ⟨hr0.1, hr0.2.1, .inr ⟨a, c, rfl, hc1, hc2, ?_, fun j u hu => ?_⟩⟩
      · rcases hr0.2.2 with ⟨hv, _⟩ | ⟨a', c', hv, _, _, hb, _⟩
        · simp at hv
        · simp only [Value.slice.injEq, Option.some.injEq] at hv
          obtain ⟨rfl, _⟩ := hv
          exact hb.imp id (fun h => by omega)
      · have h := hc j u hu
        have hlt := World.block_lt_of_cell? w _ h
        rw [((Below.refl w.heap.size w).alloc (Nat.le_refl _) _).cell hlt]; exact h
    have Hr := Lib.hid hr2; have Hown := Lib.hid hown
    clear hr hr0 hc hr2 hown
    go_enter Try.func25, Try.ntmps25
    go_wp2_with (at_builtin; refine wpList_append_row_at _ rfl (.tmp 5) (.tmp 6) 26 rfl w.heap.size 49 i0 (.agg #[.int .i64 0, .slice none 0 0]) 2 32 Try.underlying26 hi hz0 hz1 hz2 rfl (by decide) _ 0 [] rfl Hown.out _ _ n xs rfl Hr.out h1 (by unfold maxLen; omega) (by omega) (by simp) ?_; intro v' w1 hown1 hgrow hat)
    go_ret
    exact ⟨v', rfl, by simpa using hown1, ((Below.refl _ w).alloc (Nat.le_refl _) _).grown hgrow (by simp) (fun k hk => by cases hk; exact Nat.le_refl _)⟩
/-- An object is put behind the others. -/
theorem St.make {T : TypeId} {w w2 w3 : World} {B g : Nat} {vo : Value} {X : List Cel} (h : St T w B g vo X) (hBw : B ≤ w.heap.size) (hb2 : Below w.heap.size w w2) (ty : Int) (v' : Value) (L : List (Int × Int)) (o : Obj)
    (hown2 : w2.ownsRow w.heap.size 30 2 v' L.length (valC L)) (vn : Value)
    (hown3 : w3.ownsRow B 49 2 vn (X.length + 1) (outC X ++ [.int .i64 ty, v'])) (hgrow : (w2.alloc o).grownBy w3 vo.ownBlock) (hat' : vn.ownBlock = vo.ownBlock ∨ vn.ownBlock = some (w2.alloc o).heap.size) :
    St T (w3.setCell ⟨g, 0, none⟩ vn) B g vn (X ++ [⟨ty, v', L⟩]) ∧ Keep (foot g vo X) w (w3.setCell ⟨g, 0, none⟩ vn) ∧ (∀ k, foot g vn (X ++ [⟨ty, v', L⟩]) k → foot g vo X k ∨ w.heap.size ≤ k) := by
  have hat : vn.ownBlock = vo.ownBlock ∨ vn.ownBlock = some (w2.heap.size + 1) := by simpa using hat'
  have hgl := h.gl
  have hs2 := hb2.size
  have hs3 : w2.heap.size + 1 ≤ w3.heap.size := by have := hgrow.size; simpa using this
  -- blocks that are neither the row's nor the pointer's
  have hold : ∀ k, k < w.heap.size → k ≠ g → vo.ownBlock ≠ some k → (w3.setCell ⟨g, 0, none⟩ vn).heap[k]? = w.heap[k]? := fun k hk hkg hkv => by
    rw [Below.heap_setCell _ _ _ _ hkg, hgrow.block k (by simp; omega) (fun e => hkv e.symm), Below.heap_alloc _ _ _ (by omega), hb2.block k hk]
  have hnew : ∀ k, w.heap.size ≤ k → k < w2.heap.size → (w3.setCell ⟨g, 0, none⟩ vn).heap[k]? = w2.heap[k]? := fun k hk hk2 => by
    have hkv : vo.ownBlock ≠ some k := fun e => by have := (h.objs.lt (.inl e)).2; omega
    rw [Below.heap_setCell _ _ _ _ (by show k ≠ g; omega), hgrow.block k (by simp; omega) (fun e => hkv e.symm), Below.heap_alloc _ _ _ hk2]
  have hvg : vn.ownBlock ≠ some g := fun e => by
    rcases hat with h1 | h1
    · exact h.far (.inl (h1 ▸ e))
    · rw [h1] at e; simp at e; omega
  have hxs : ∀ x ∈ X, ∀ k, x.v.ownBlock = some k → k < w.heap.size ∧ k ≠ g ∧ vo.ownBlock ≠ some k := fun x hx k e => by
    refine ⟨(h.objs.lt (.inr ⟨x, hx, e⟩)).2, fun hk => h.far (.inr ⟨x, hx, hk ▸ e⟩), fun hk => ?_⟩
    rcases (h.objs.each x hx).2 with h1 | h1
    · rw [e] at h1; cases h1
    · exact h1 (by rw [e, hk])
  have hvl : ∀ k, v'.ownBlock = some k → w.heap.size ≤ k ∧ k < w2.heap.size := fun k e => hown2.lt k e
  have hvnl : ∀ k, vn.ownBlock = some k → (k < w.heap.size ∧ vo.ownBlock = some k) ∨ k = w2.heap.size + 1 := fun k e => by
    rcases hat with h1 | h1
    · exact .inl ⟨(h.objs.lt (.inl (h1 ▸ e))).2, h1 ▸ e⟩
    · rw [h1] at e; simp at e; exact .inr e.symm
  have hxa : ∀ x ∈ X, x.v.ownBlock = none ∨ x.v.ownBlock ≠ vn.ownBlock := fun x hx => by
    cases e : x.v.ownBlock with
    | none => exact .inl rfl
    | some k =>
      right; intro e2
      obtain ⟨h1, h2, h3⟩ := hxs x hx k e
      rcases hvnl k e2.symm with ⟨_, h4⟩ | h4
      · exact h3 h4
      · omega
  have hpa : v'.ownBlock = none ∨ v'.ownBlock ≠ vn.ownBlock := by
    cases e : v'.ownBlock with
    | none => exact .inl rfl
    | some k =>
      right; intro e2
      have h1 := hvl k e
      rcases hvnl k e2.symm with ⟨h4, _⟩ | h4 <;> omega
  refine ⟨⟨h.ge, ?_, ⟨?_, ?_, ?_⟩, ?_⟩, ?_, ?_⟩
  · have h0 : w3.heap[g]? = w.heap[g]? := by
      rw [hgrow.block g (by simp; omega) (fun e => h.far (.inl e.symm)), Below.heap_alloc _ _ _ (by omega), hb2.block g hgl]
    exact one_setCell (by rw [h0]; exact h.ptr)
  · rw [List.length_append, outC_snoc]
    exact ownsRow_setCell_other hown3 hvg _
  · intro x hx
    rcases List.mem_append.1 hx with hx | hx
    · exact ⟨owns_block (h.objs.each x hx).1 fun k e => by obtain ⟨h1, h2, h3⟩ := hxs x hx k e; exact hold k h1 h2 h3, hxa x hx⟩
    · simp only [List.mem_singleton] at hx
      subst hx
      exact ⟨owns_base (owns_block hown2 fun k e => hnew k (hvl k e).1 (hvl k e).2) hBw, hpa⟩
  · rw [List.pairwise_append]
    refine ⟨h.objs.apart, List.pairwise_singleton _ _, fun x hx y hy => ?_⟩
    simp only [List.mem_singleton] at hy
    subst hy
    cases e : x.v.ownBlock with
    | none => exact .inl rfl
    | some k =>
      right; intro e2
      have h1 := (hxs x hx k e).1
      have h2 := (hvl k e2.symm).1
      omega
  · rintro (hk | ⟨x, hx, hk⟩)
    · exact hvg hk
    · rcases List.mem_append.1 hx with hx | hx
      · exact (hxs x hx g hk).2.1 rfl
      · simp only [List.mem_singleton] at hx
        subst hx
        have := hvl g hk; omega
  · refine Keep.setCell ?_ (fun _ => .inl rfl) _
    exact ((Keep.of_below hb2).alloc o).trans (Keep.of_grown (S := fun k => vo.ownBlock = some k) hgrow fun k e _ => e) fun k _ e => .inr (.inl e)
  · rintro k (rfl | hk | ⟨x, hx, hk⟩)
    · exact .inl (.inl rfl)
    · rcases hvnl k hk with ⟨_, h1⟩ | h1
      · exact .inl (.inr (.inl h1))
      · exact .inr (by omega)
    · rcases List.mem_append.1 hx with hx | hx
      · exact .inl (.inr (.inr ⟨x, hx, hk⟩))
      · simp only [List.mem_singleton] at hx
        subst hx
        exact .inr (hvl k hk).1
def MakePost (T : TypeId) (w : World) (B g : Nat) (vo : Value) (X : List Cel) (ty : Int) (L : List (Int × Int)) (e : Ending) (w' : World) : Prop :=
  e = .returned (.tuple #[.int .i64 (X.length : Nat), .int .i64 0]) ∧ ∃ vn v', St T w' B g vn (X ++ [⟨ty, v', L⟩]) ∧ Keep (foot g vo X) w w' ∧ (∀ k, foot g vn (X ++ [⟨ty, v', L⟩]) k → foot g vo X k ∨ w.heap.size ≤ k)
attribute [local go_sem ↓] append_appM
set_option maxRecDepth 100000 in
set_option maxHeartbeats 4000000 in
theorem stMake_yes {w : World} {B g : Nat} {vo : Value} {X : List Cel} (h : St 54 w B g vo X) (hBw : B ≤ w.heap.size) (ty : Int) (vl : Value) (L : List (Int × Int)) (hr : Row w w.heap.size 2 vl L.length (valC L)) (hlen : X.length < 100000) (hL : L.length ≤ 1000) :
    Calls Try.prog 8 #[.pointer (some ⟨g, 0, none⟩), .int .i64 ty, vl] w (MakePost 54 w B g vo X ty L) := by
  obtain ⟨i0, hi, hz0, hz1, hz2⟩ := info_parts info_obj
  have HLen := Lib.hid (stLen_any h)
  have H := Lib.hid h
  obtain ⟨ao, c, rfl, hc1, hc2⟩ := owns_val h.objs.out
  obtain ⟨c0, f0⟩ := h.cell
  have hgl := h.gl
  have Hout := Lib.hid h.objs.out
  have hfar : Value.ownBlock (.slice ao X.length c) ≠ some g := fun e => h.far (.inl e)
  have Hcl := Lib.hid (cloneVal_any vl L.length w.heap.size (valC L) w.drew (hr.below (Below.refl _ w).drew) (valC_one L) (by omega))
  clear h hr
  have hX0 : (X.length : Int) < 100000 := by omega
  obtain ⟨n, hn⟩ : ∃ n, n = X.length := ⟨_, rfl⟩
  rw [← hn] at HLen c0 Hout hfar hc1 hlen hX0
  have Hn := Lib.hid hn
  have q1 : decide ((100000 : Int) ≤ (n : Int)) = false := decide_eq_false (by omega)
  have q2 : decide (100000 ≤ n) = false := decide_eq_false (by omega)
  have hn63 : n ≤ 9223372036854775807 := by omega
  have Hlen := Lib.hid hlen; have HL := Lib.hid hL
  clear hn hlen hL hX0
  go_enter Try.func8, Try.ntmps8
  go_wp2_with (go_at_call 15; refine HLen.out.mono ?_; rintro e w' ⟨rfl, rfl⟩)
  go_region_with (go_at_call 22; (refine Hcl.out.mono ?_; rintro e w2 ⟨v', rfl, hown2, hb2⟩); have c2 := (hb2.cell (p := ⟨g, 0, none⟩) hgl).trans c0; have hgl2 : g < w2.heap.size := Nat.lt_of_lt_of_le hgl hb2.size; (obtain ⟨a3, c3, rfl, hcc1, hcc2⟩ := owns_val hown2); (obtain ⟨vn, w3, happ0, hown3, hgrow3, hat3⟩ := run_append_row (P := Try.prog) (w2.alloc (.cells #[.int .i64 ty, .slice a3 L.length c3] 49)) 26 26 B 49 i0 (.agg #[.int .i64 0, .slice none 0 0]) 2 32 Try.underlying26 hi hz0 hz1 hz2 rfl (by decide) (.slice ao n c) n (outC X) ((owns_block Hout.out fun k e => hb2.block k (Hout.out.lt k e).2).alloc _) (w2.heap.size + 1) (.slice (some ⟨w2.heap.size, 0, none⟩) 1 1) 1 [.int .i64 ty, .slice a3 L.length c3] (row_cellsB w2 [.int .i64 ty, .slice a3 L.length c3] 2 1 1 _ rfl (Nat.le_refl _) (by unfold maxLen; omega)) (by intro u hu; simp only [List.mem_cons, List.not_mem_nil, or_false] at hu; rcases hu with rfl | rfl <;> rfl) (by have := Hlen.out; unfold maxLen; omega) (by have := Hlen.out; omega) (by have := hb2.size; simp at this ⊢; omega)); (obtain ⟨a4, c4, rfl, hcd1, hcd2⟩ := owns_val hown3); (have happ := (show Sem.run Try.prog (appM _ _ _) _ = _ from happ0)); clear happ0; (have cc3 := (hgrow3.cell_far ⟨g, 0, none⟩ (by simp; omega) (Ne.symm hfar)).trans ((((Below.refl w2.heap.size w2).alloc (Nat.le_refl _) _).cell (p := ⟨g, 0, none⟩) hgl2).trans c2)); (have f2 := (hb2.frozen (p := ⟨g, 0, none⟩) hgl).trans f0); (have f3 := (hgrow3.frozen_far ⟨g, 0, none⟩ (by simp; omega) (Ne.symm hfar)).trans ((((Below.refl w2.heap.size w2).alloc (Nat.le_refl _) _).frozen (p := ⟨g, 0, none⟩) hgl2).trans f2)); (have Hown3 := Lib.hid hown3); (have Hgrow3 := Lib.hid hgrow3); (have Hat3 := Lib.hid hat3); (have Hown2 := Lib.hid hown2); (have Hb2 := Lib.hid hb2); clear hown3 hgrow3 hat3 hown2 hb2)
  all_goals
    go_wp2_with fail
    go_ret2
    have hn := Hn.out
    subst hn
    have hmk := St.make H.out hBw ((Below.refl _ w).drew.trans Hb2.out) ty (.slice a3 L.length c3) L _ Hown2.out (.slice a4 (X.length + 1) c4) Hown3.out Hgrow3.out Hat3.out
    exact ⟨rfl, _, _, hmk.1, hmk.2.1, hmk.2.2⟩
set_option maxRecDepth 100000 in
theorem stMake_full {w : World} {B g : Nat} {vo : Value} {X : List Cel} (h : St 54 w B g vo X) (ty : Int) (vl : Value) (hlen : 100000 ≤ X.length) :
    Calls Try.prog 8 #[.pointer (some ⟨g, 0, none⟩), .int .i64 ty, vl] w fun e w' => e = .returned (.tuple #[.int .i64 0, .int .i64 8]) ∧ w = w' := by
  have HLen := Lib.hid (stLen_any h)
  have q1 : decide ((100000 : Int) ≤ (X.length : Int)) = true := decide_eq_true (by omega)
  have q2 : decide (100000 ≤ X.length) = true := decide_eq_true (by omega)
  clear h hlen
  generalize X.length = n at *
  go_enter Try.func8, Try.ntmps8
  go_wp2_with (go_at_call 15; refine HLen.out.mono ?_; rintro e w' ⟨rfl, rfl⟩)
  go_ret2
  exact ⟨rfl, rfl⟩
theorem stMake_nil (w : World) (ty : Int) (vl : Value) :
    Calls Try.prog 8 #[.pointer none, .int .i64 ty, vl] w fun e w' => e = .returned (.tuple #[.int .i64 0, .int .i64 8]) ∧ w = w' := by
  have HLen := Lib.hid (stLen_nil w)
  go_enter Try.func8, Try.ntmps8
  go_wp2_with (go_at_call 15; refine HLen.out.mono ?_; rintro e w' ⟨rfl, rfl⟩)
  go_ret2
  exact ⟨rfl, rfl⟩
set_option maxRecDepth 100000 in
set_option maxHeartbeats 4000000 in
theorem refMake_yes {w : World} {B g : Nat} {vo : Value} {X : List Cel} (h : St 28 w B g vo X) (hBw : B ≤ w.heap.size) (ty : Int) (vl : Value) (L : List (Int × Int)) (hr : Row w w.heap.size 2 vl L.length (valC L)) (hlen : X.length < 100000) (hL : L.length ≤ 1000) :
    Calls Try.prog 9 #[.pointer (some ⟨g, 0, none⟩), .int .i64 ty, vl] w (MakePost 28 w B g vo X ty L) := by
  obtain ⟨i0, hi, hz0, hz1, hz2⟩ := info_parts info_obj
  obtain ⟨j0, hj, hy0, hy1, hy2⟩ := info_parts info_val
  have H := Lib.hid h
  obtain ⟨ao, c, rfl, hc1, hc2⟩ := owns_val h.objs.out
  obtain ⟨c0, f0⟩ := h.cell
  have hgl := h.gl
  have hfar : Value.ownBlock (.slice ao X.length c) ≠ some g := fun e => h.far (.inl e)
  have hv0 : (w.alloc (.cells #[] 30)).drew.ownsRow w.heap.size 30 2 (.slice (some ⟨w.heap.size, 0, none⟩) 0 0) 0 [] := owns_block (World.ownsRow_made (base := w.heap.size) (e := 30) (size := 2) w #[] 0 (Nat.le_refl _) (Nat.zero_le _) rfl) (fun _ _ => rfl)
  have hbA : Below w.heap.size w (w.alloc (.cells #[] 30)).drew := ((Below.refl _ w).alloc (Nat.le_refl _) _).drew
  obtain ⟨v', w2, happ1, hown2, hgrow2, _⟩ := run_append_row (P := Try.prog) (w.alloc (.cells #[] 30)).drew 31 31 w.heap.size 30 j0 (.agg #[.int .i64 0, .int .i64 0]) 2 16 Try.underlying31 hj hy0 hy1 hy2 rfl (by decide) _ 0 [] hv0 w.heap.size vl L.length (valC L) (hr.below hbA) (valC_one L) (by unfold maxLen; omega) (by omega) (by simp)
  have hb2 : Below w.heap.size w w2 := hbA.grown hgrow2 (by simp) (fun k hk => by cases hk; exact Nat.le_refl _)
  simp only [Nat.zero_add, List.nil_append] at hown2
  obtain ⟨a3, c3, rfl, hcc1, hcc2⟩ := owns_val hown2
  have hgl2 : g < w2.heap.size := Nat.lt_of_lt_of_le hgl hb2.size
  have c2 := (hb2.cell (p := ⟨g, 0, none⟩) hgl).trans c0
  obtain ⟨vn, w3, happ0, hown3, hgrow3, hat3⟩ := run_append_row (P := Try.prog) (w2.alloc (.cells #[.int .i64 ty, .slice a3 L.length c3] 49)) 26 26 B 49 i0 (.agg #[.int .i64 0, .slice none 0 0]) 2 32 Try.underlying26 hi hz0 hz1 hz2 rfl (by decide) (.slice ao X.length c) X.length (outC X) ((owns_block h.objs.out fun k e => hb2.block k (h.objs.out.lt k e).2).alloc _) (w2.heap.size + 1) (.slice (some ⟨w2.heap.size, 0, none⟩) 1 1) 1 [.int .i64 ty, .slice a3 L.length c3] (row_cellsB w2 [.int .i64 ty, .slice a3 L.length c3] 2 1 1 _ rfl (Nat.le_refl _) (by unfold maxLen; omega)) (by intro u hu; simp only [List.mem_cons, List.not_mem_nil, or_false] at hu; rcases hu with rfl | rfl <;> rfl) (by unfold maxLen; omega) (by omega) (by have := hb2.size; simp at this ⊢; omega)
  obtain ⟨a4, c4, rfl, hcd1, hcd2⟩ := owns_val hown3
  have cc3 := (hgrow3.cell_far ⟨g, 0, none⟩ (by simp; omega) (Ne.symm hfar)).trans ((((Below.refl w2.heap.size w2).alloc (Nat.le_refl _) _).cell (p := ⟨g, 0, none⟩) hgl2).trans c2)
  have f2 := (hb2.frozen (p := ⟨g, 0, none⟩) hgl).trans f0
  have f3 := (hgrow3.frozen_far ⟨g, 0, none⟩ (by simp; omega) (Ne.symm hfar)).trans ((((Below.refl w2.heap.size w2).alloc (Nat.le_refl _) _).frozen (p := ⟨g, 0, none⟩) hgl2).trans f2)
  have hmk := Lib.hid (St.make h hBw hb2 ty (.slice a3 L.length c3) L _ hown2 (.slice a4 (X.length + 1) c4) hown3 hgrow3 hat3)
  have happ1 := (show Sem.run Try.prog (appM _ _ _) _ = _ from happ1)
  have happ0 := (show Sem.run Try.prog (appM _ _ _) _ = _ from happ0)
  have q1 : decide ((100000 : Int) ≤ (X.length : Int)) = false := decide_eq_false (by omega)
  have q2 : decide (100000 ≤ X.length) = false := decide_eq_false (by omega)
  have hn63 : X.length ≤ 9223372036854775807 := by omega
  clear h hr hv0 hbA hown2 hgrow2 hb2 hown3 hgrow3 hat3 hlen hL hfar H
  go_enter Try.func9, Try.ntmps9
  go_wp2_with fail
  go_region
  all_goals
    go_wp2_with fail
    go_ret2
    exact ⟨rfl, _, _, hmk.out.1, hmk.out.2.1, hmk.out.2.2⟩
set_option maxRecDepth 100000 in
theorem refMake_full {w : World} {B g : Nat} {vo : Value} {X : List Cel} (h : St 28 w B g vo X) (ty : Int) (vl : Value) (hlen : 100000 ≤ X.length) :
    Calls Try.prog 9 #[.pointer (some ⟨g, 0, none⟩), .int .i64 ty, vl] w fun e w' => e = .returned (.tuple #[.int .i64 0, .int .i64 8]) ∧ w = w' := by
  obtain ⟨ao, c, rfl, hc1, hc2⟩ := owns_val h.objs.out
  obtain ⟨c0, f0⟩ := h.cell
  have q1 : decide ((100000 : Int) ≤ (X.length : Int)) = true := decide_eq_true (by omega)
  have q2 : decide (100000 ≤ X.length) = true := decide_eq_true (by omega)
  clear h hlen
  generalize X.length = n at *
  go_enter Try.func9, Try.ntmps9
  go_wp2_with fail
  go_ret2
  exact ⟨rfl, rfl⟩
end Go.Proofs.Ytfmhdmgkbaicbaa
