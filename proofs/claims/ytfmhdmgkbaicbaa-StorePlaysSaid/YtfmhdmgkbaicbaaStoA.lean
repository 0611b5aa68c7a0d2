/-
  Stores: all objects are told, copied, forked; whether two rows of objects are the same.
-/
import Derived.Test.YtfmhdmgkbaicbaaStoM
import Derived.Deep.QuietTactic
import Derived.BigQuiet
namespace Go.Proofs.Ytfmhdmgkbaicbaa
open Go.RowKit
set_option linter.unusedVariables false
set_option linter.unusedSimpArgs false

theorem objOf_append (X Y : List Cel) : objOf (X ++ Y) = objOf X ++ objOf Y := by simp [objOf]
theorem outC_append (X Y : List Cel) : outC (X ++ Y) = outC X ++ outC Y := by simp [outC]
/-- Where k objects have fields of their own, and the k-th one is given its own. -/
theorem outC_step (Y X : List Cel) (k : Nat) (hk : k < X.length) (hY : Y.length = k) (v' : Value) (L : List (Int × Int)) :
    outC (Y ++ [⟨X[k].ty, v', L⟩] ++ X.drop (k + 1)) = (outC (Y ++ X.drop k)).set (k * 2 + 1) v' := by
  rw [List.drop_eq_getElem_cons hk, outC_append, outC_append, outC_append]
  have e1 : outC (X[k] :: X.drop (k + 1)) = .int .i64 X[k].ty :: X[k].v :: outC (X.drop (k + 1)) := rfl
  have e2 : outC [⟨X[k].ty, v', L⟩] = [.int .i64 X[k].ty, v'] := rfl
  rw [e1, e2, List.set_append_right _ _ (by rw [outC_length]; omega), outC_length, hY]
  rw [show k * 2 + 1 - k * 2 = 1 from by omega]
  simp
/-- An object is put behind a row of objects. -/
theorem Objs.push {w w2 w3 : World} {B : Nat} {vo : Value} {X : List Cel} (h : Objs w B vo X) (hBw : B ≤ w.heap.size) (hb2 : Below w.heap.size w w2) (ty : Int) (v' : Value) (L : List (Int × Int)) (o : Obj)
    (hown2 : w2.ownsRow w.heap.size 30 2 v' L.length (valC L)) (vn : Value)
    (hown3 : w3.ownsRow B 49 2 vn (X.length + 1) (outC X ++ [.int .i64 ty, v'])) (hgrow : (w2.alloc o).grownBy w3 vo.ownBlock) (hat' : vn.ownBlock = vo.ownBlock ∨ vn.ownBlock = some (w2.alloc o).heap.size) :
    Objs w3 B vn (X ++ [⟨ty, v', L⟩]) ∧ Keep (fun k => vo.ownBlock = some k) w w3 := by
  have hat : vn.ownBlock = vo.ownBlock ∨ vn.ownBlock = some (w2.heap.size + 1) := by simpa using hat'
  have hs2 := hb2.size
  have hold : ∀ k, k < w.heap.size → vo.ownBlock ≠ some k → w3.heap[k]? = w.heap[k]? := fun k hk hkv => by
    rw [hgrow.block k (by simp; omega) (fun e => hkv e.symm), Below.heap_alloc _ _ _ (by omega), hb2.block k hk]
  have hnew : ∀ k, w.heap.size ≤ k → k < w2.heap.size → w3.heap[k]? = w2.heap[k]? := fun k hk hk2 => by
    have hkv : vo.ownBlock ≠ some k := fun e => by have := (h.lt (.inl e)).2; omega
    rw [hgrow.block k (by simp; omega) (fun e => hkv e.symm), Below.heap_alloc _ _ _ hk2]
  have hxs : ∀ x ∈ X, ∀ k, x.v.ownBlock = some k → k < w.heap.size ∧ vo.ownBlock ≠ some k := fun x hx k e => by
    refine ⟨(h.lt (.inr ⟨x, hx, e⟩)).2, fun hk => ?_⟩
    rcases (h.each x hx).2 with h1 | h1
    · rw [e] at h1; cases h1
    · exact h1 (by rw [e, hk])
  have hvl : ∀ k, v'.ownBlock = some k → w.heap.size ≤ k ∧ k < w2.heap.size := fun k e => hown2.lt k e
  have hvnl : ∀ k, vn.ownBlock = some k → (k < w.heap.size ∧ vo.ownBlock = some k) ∨ k = w2.heap.size + 1 := fun k e => by
    rcases hat with h1 | h1
    · exact .inl ⟨(h.lt (.inl (h1 ▸ e))).2, h1 ▸ e⟩
    · rw [h1] at e; simp at e; exact .inr e.symm
  refine ⟨⟨?_, ?_, ?_⟩, ?_⟩
  · rw [List.length_append, outC_snoc]; exact hown3
  · intro x hx
    rcases List.mem_append.1 hx with hx | hx
    · refine ⟨owns_block (h.each x hx).1 fun k e => by obtain ⟨h1, h3⟩ := hxs x hx k e; exact hold k h1 h3, ?_⟩
      cases e : x.v.ownBlock with
      | none => exact .inl rfl
      | some k =>
        right; intro e2
        obtain ⟨h1, h3⟩ := hxs x hx k e
        rcases hvnl k e2.symm with ⟨_, h4⟩ | h4
        · exact h3 h4
        · omega
    · simp only [List.mem_singleton] at hx
      subst hx
      refine ⟨owns_base (owns_block hown2 fun k e => hnew k (hvl k e).1 (hvl k e).2) hBw, ?_⟩
      cases e : v'.ownBlock with
      | none => exact .inl rfl
      | some k =>
        right; intro e2
        have h1 := hvl k e
        rcases hvnl k e2.symm with ⟨h4, _⟩ | h4 <;> omega
  · rw [List.pairwise_append]
    refine ⟨h.apart, List.pairwise_singleton _ _, fun x hx y hy => ?_⟩
    simp only [List.mem_singleton] at hy
    subst hy
    cases e : x.v.ownBlock with
    | none => exact .inl rfl
    | some k =>
      right; intro e2
      have h1 := (hxs x hx k e).1
      have h2 := (hvl k e2.symm).1
      omega
  · exact ((Keep.of_below hb2).alloc o).trans (Keep.of_grown hgrow fun k e _ => e) fun k _ e => e
/-- Objects with fields of their own, of which k are done. -/
structure Half (w : World) (B : Nat) (b c : Nat) (X Y : List Cel) (k : Nat) : Prop where
  len : Y.length = k
  same : objOf Y = objOf (X.take k)
  out : w.ownsRow B 49 2 (.slice (some ⟨b, 0, none⟩) X.length c) X.length (outC (Y ++ X.drop k))
  each : ∀ x ∈ Y, w.ownsRow B 30 2 x.v x.L.length (valC x.L) ∧ x.v.ownBlock ≠ some b
  apart : Y.Pairwise fun x y => x.v.ownBlock = none ∨ x.v.ownBlock ≠ y.v.ownBlock
theorem Half.done {w B b c X Y} (h : Half w B b c X Y X.length) : Objs w B (.slice (some ⟨b, 0, none⟩) X.length c) Y ∧ objOf Y = objOf X := by
  have hs := h.same
  rw [List.take_length] at hs
  have ho := h.out
  rw [List.drop_length, List.append_nil] at ho
  refine ⟨⟨by rw [h.len]; exact ho, fun x hx => ⟨(h.each x hx).1, .inr fun e => (h.each x hx).2 e⟩, h.apart⟩, hs⟩
theorem Half.step {w w2 B b c X Y k} (h : Half w B b c X Y k) (hk : k < X.length) (hBw : B ≤ w.heap.size) (hb : Below w.heap.size w w2) (v' : Value) (hown : w2.ownsRow w.heap.size 30 2 v' X[k].L.length (valC X[k].L)) :
    Half (w2.setCell ⟨b, k * 2 + 1, none⟩ v') B b c X (Y ++ [⟨X[k].ty, v', X[k].L⟩]) (k + 1) := by
  have hbl : b < w.heap.size := (h.out.lt b rfl).2
  have hvl : ∀ j, v'.ownBlock = some j → w.heap.size ≤ j ∧ j < w2.heap.size := fun j e => hown.lt j e
  have hset : ∀ j, j ≠ b → (w2.setCell ⟨b, k * 2 + 1, none⟩ v').heap[j]? = w2.heap[j]? := fun j hj => Below.heap_setCell _ _ _ _ hj
  refine ⟨by rw [List.length_append, h.len]; rfl, ?_, ?_, ?_, ?_⟩
  · rw [objOf_append, h.same, List.take_succ_eq_append_getElem hk, objOf_append]; rfl
  · rw [outC_step Y X k hk h.len]
    refine owns_set (owns_block h.out fun j e => ?_) (k * 2 + 1) ?_ v'
    · cases e; exact hb.block b hbl
    · rw [h.out.1]; omega
  · intro x hx
    rcases List.mem_append.1 hx with hx | hx
    · have hx1 := h.each x hx
      refine ⟨owns_block hx1.1 fun j e => ?_, hx1.2⟩
      rw [hset j (fun e2 => hx1.2 (e2 ▸ e)), hb.block j (hx1.1.lt j e).2]
    · simp only [List.mem_singleton] at hx
      subst hx
      refine ⟨owns_base (owns_block hown fun j e => hset j (by have := hvl j e; omega)) hBw, fun e => ?_⟩
      have := hvl b e; omega
  · rw [List.pairwise_append]
    refine ⟨h.apart, List.pairwise_singleton _ _, fun x hx y hy => ?_⟩
    simp only [List.mem_singleton] at hy
    subst hy
    cases e : x.v.ownBlock with
    | none => exact .inl rfl
    | some j =>
      right; intro e2
      have h1 := ((h.each x hx).1.lt j e).2
      have h2 := (hvl j e2.symm).1
      omega
def AllPost33 (w : World) (X : List Cel) (e : Ending) (w' : World) : Prop := ∃ v Y, e = .returned v ∧ Objs w' w.heap.size v Y ∧ objOf Y = objOf X ∧ Below w.heap.size w w'
theorem below_of_le {B : Nat} {w w' : World} (h : Below w.heap.size w w') (hB : B ≤ w.heap.size) : Below B w w' := h.mono hB
set_option maxRecDepth 100000 in
set_option maxHeartbeats 4000000 in
theorem stAll_any {w : World} {B g : Nat} {vo : Value} {X : List Cel} (h : St 54 w B g vo X) (hlen : X.length ≤ 100000) (hLs : ∀ x ∈ X, x.L.length ≤ 1000) :
    Calls Try.prog 17 #[.pointer (some ⟨g, 0, none⟩)] w (AllPost33 w X) := by
  have Hcl := Lib.hid (cloneObj_any vo X.length w.heap.size (outC X) w (Row.of_owns h.objs.out) (by
    intro u hu
    simp only [outC, List.mem_flatMap, List.mem_cons, List.not_mem_nil, or_false] at hu
    obtain ⟨x, hx, rfl | rfl⟩ := hu
    · rfl
    · obtain ⟨_, _, hv, _⟩ := owns_val (h.objs.each x hx).1; rw [hv]; rfl) (by omega))
  have H := Lib.hid h
  obtain ⟨ao, c, rfl, hc1, hc2⟩ := owns_val h.objs.out
  obtain ⟨c0, f0⟩ := h.cell
  have HLs := Lib.hid hLs
  have hn63 : X.length ≤ 9223372036854775807 := by omega
  clear h hLs hlen
  go_enter Try.func17, Try.ntmps17
  go_wp2_with fail
  refine Hcl.out.mono ?_
  rintro e w1 ⟨v, rfl, hown, hb1⟩
  rcases Nat.eq_zero_or_pos X.length with h0 | hpos
  · obtain rfl : X = [] := List.length_eq_zero_iff.1 h0
    obtain ⟨a1, c1, rfl, _, _⟩ := owns_val hown
    have Hown := Lib.hid hown
    clear hown
    go_wp2_with fail
    go_loop [14] (fun i => i = .int .i64 0) (fun _ => 0)
    case atStart => rfl
    case round =>
      subst hrel
      go_wp2_with fail
      go_ret
      exact ⟨_, [], rfl, ⟨Hown.out, (fun x hx => by cases hx), List.Pairwise.nil⟩, rfl, hb1⟩
  · obtain ⟨b, c1, rfl, hbb, hbl⟩ := hown.form hpos
    have hcap := owns_cap hown
    obtain ⟨hcp1, hcp2⟩ := hcap
    have hH0 : Half w1 w.heap.size b c1 X [] 0 := ⟨rfl, rfl, hown, (fun x hx => by cases hx), List.Pairwise.nil⟩
    clear hown
    go_wp2_with fail
    go_loopw [14] (fun i wr => ∃ (k : Nat) (Y : List Cel), i = .int .i64 k ∧ k ≤ X.length ∧ Hid (Half wr w.heap.size b c1 X Y k) ∧ Below w.heap.size w wr) (fun i _ => X.length - (intOf i).toNat)
    case atStart => exact ⟨0, [], rfl, Nat.zero_le _, hH0, hb1⟩
    case round =>
      obtain ⟨k, Y, rfl, hk, HH, hbel⟩ := hrel
      by_cases hlt : k < X.length
      · have hsz := hbel.size
        have hobl := (HH.out.out.lt b rfl).2
        have hYX : (Y ++ X.drop k).length = X.length := by rw [List.length_append, HH.out.len, List.length_drop]; omega
        have hYk : (Y ++ X.drop k)[k]'(by rw [hYX]; exact hlt) = X[k] := by
          rw [List.getElem_append_right (by rw [HH.out.len]; omega)]
          simp [HH.out.len]
        have hcell := (outC_at (Y ++ X.drop k) k (by rw [hYX]; exact hlt)).2
        rw [hYk] at hcell
        obtain ⟨b', hb', _, _, hcs, hfs⟩ := owns_cell HH.out.out hpos
        obtain rfl : b = b' := by simpa using hb'
        have d1 := hcs _ _ hcell
        obtain ⟨a2, c2, hv, hv1, hv2⟩ := H.out.objs.vat k hlt
        have hrow := (Row.of_owns (H.out.objs.each _ (List.getElem_mem hlt)).1).below hbel
        have hcl := cloneVal_any X[k].v X[k].L.length w.heap.size (valC X[k].L) wr hrow (valC_one _) (by have := HLs.out _ (List.getElem_mem hlt); omega)
        rw [hv] at d1 hcl
        have d2 := hfs (k * 2 + 1)
        have Hst := Lib.hid fun w2 v' hb2 ho2 => HH.out.step hlt hsz (w2 := w2) hb2 v' ho2
        have Hcl2 := Lib.hid hcl
        have hk0 : (k : Int) < (X.length : Int) := by omega
        clear hcs hfs hcell hYk hYX hrow hcl hv hb' HH
        generalize X[k].L = L at *
        generalize X[k].ty = ty at *
        go_wp2_with fail
        refine Hcl2.out.mono ?_
        rintro e w2 ⟨v', rfl, hown2, hb2⟩
        obtain ⟨a5, c5, rfl, _, _⟩ := owns_val hown2
        have e1 := (hb2.cell (p := ⟨b, k * 2 + 1, none⟩) hobl).trans d1
        have e2 := (hb2.frozen (p := ⟨b, k * 2 + 1, none⟩) hobl).trans d2
        have HS := Lib.hid (Hst.out w2 _ hb2 hown2)
        have HB := Lib.hid (hbel.trans (hb2.mono hsz))
        clear hown2 hb2 Hst Hcl2
        go_wp2_with fail
        go_roundw
        case rel => exact ⟨k + 1, _, by go_num, hlt, HS, HB.out.setCell (p := ⟨b, k * 2 + 1, none⟩) hbb _⟩
        case measure => simp [intOf]; omega
      · obtain rfl : k = X.length := by omega
        have hd := Lib.hid (HH.out.done)
        clear HH
        go_wp2_with fail
        go_ret
        exact ⟨_, Y, rfl, hd.out.1, hd.out.2, hbel⟩
theorem stFork_any {w : World} {B g : Nat} {vo : Value} {X : List Cel} (h : St 54 w B g vo X) (hlen : X.length ≤ 100000) (hLs : ∀ x ∈ X, x.L.length ≤ 1000) :
    Calls Try.prog 14 #[.pointer (some ⟨g, 0, none⟩)] w fun e w' => ∃ g' vo' X', e = .returned (.pointer (some ⟨g', 0, none⟩)) ∧ St 54 w' w.heap.size g' vo' X' ∧ objOf X' = objOf X ∧ Below w.heap.size w w' := by
  have HA := Lib.hid (stAll_any h hlen hLs)
  clear h hLs hlen
  go_enter Try.func14, Try.ntmps14
  go_wp2_with fail
  refine HA.out.mono ?_
  rintro e w1 ⟨v, Y, rfl, ho, hs, hb⟩
  obtain ⟨a1, c1, rfl, _, _⟩ := owns_val ho.out
  have Ho := Lib.hid ho
  clear ho
  go_wp2_with fail
  go_ret
  refine ⟨w1.heap.size, _, Y, rfl, ⟨hb.size, heap_alloc_new w1 _, Ho.out.below ((Below.refl _ _).alloc (Nat.le_refl _) _), fun hk => by have := (Ho.out.lt hk).2; omega⟩, hs, hb.alloc hb.size _⟩
theorem stFork_nil (w : World) : Calls Try.prog 14 #[.pointer none] w fun e w' => e = .returned (.pointer none) ∧ w = w' := by
  go_enter Try.func14, Try.ntmps14
  go_wp2_with fail
  go_ret
  exact ⟨rfl, rfl⟩
theorem stAll_nil (w : World) : Calls Try.prog 17 #[.pointer none] w fun e w' => e = .returned (.slice none 0 0) ∧ w = w' := by
  go_enter Try.func17, Try.ntmps17
  go_wp2_with fail
  go_ret
  exact ⟨rfl, rfl⟩
theorem objOf_at {X Y : List Cel} (h : objOf X = objOf Y) : X.length = Y.length ∧ ∀ i (h1 : i < X.length) (h2 : i < Y.length), X[i].ty = Y[i].ty ∧ X[i].L = Y[i].L := by
  refine ⟨by have := congrArg List.length h; simpa [objOf] using this, fun i h1 h2 => ?_⟩
  have := congrArg (fun z => z[i]?) h
  simp only [objOf, List.getElem?_map, List.getElem?_eq_getElem h1, List.getElem?_eq_getElem h2, Option.map_some, Option.some.injEq, Prod.mk.injEq] at this
  exact this
theorem Objs.field' {w : World} {B : Nat} {vo : Value} {X : List Cel} (h : Objs w B vo X) (i : Nat) (hi : i < X.length) (L : List (Int × Int)) (hL : X[i].L = L) {ao : Option Addr} {c : Nat} (hv : X[i].v = .slice ao L.length c) :
    ∀ k (hk : k < L.length), ∃ b, ao = some ⟨b, 0, none⟩ ∧ b < w.heap.size ∧ w.cell? ⟨b, k * 2, none⟩ = some (.int .i64 L[k].1) ∧ w.cell? ⟨b, k * 2 + 1, none⟩ = some (.int .i64 L[k].2) := by
  subst hL
  intro k hk
  obtain ⟨b, h1, _, h2, h3, h4, _⟩ := h.field i hi hv k hk
  exact ⟨b, h1, h2, h3, h4⟩
theorem below_drewsS (w : World) (n : Nat) : Below w.heap.size w (w.drewN n) := ⟨rfl, rfl, rfl, Nat.le_refl _, fun _ _ => rfl⟩
set_option maxRecDepth 100000 in
set_option maxHeartbeats 4000000 in
theorem sameList_any {w : World} {B1 B2 : Nat} {v1 v2 : Value} {X Y : List Cel} (h1 : Objs w B1 v1 X) (h2 : Objs w B2 v2 Y) (hs : objOf X = objOf Y) :
    Calls Try.prog 16 #[v1, v2] w fun e w' => e = .returned (.bool true) ∧ Below w.heap.size w w' := by
  obtain ⟨hlen, hat⟩ := objOf_at hs
  have Hat := Lib.hid hat
  obtain ⟨a1, c1, rfl, hc1, hc2⟩ := owns_val h1.out
  obtain ⟨a2, c2, rfl, hd1, hd2⟩ := owns_val h2.out
  have hn63 : X.length ≤ 9223372036854775807 := by unfold maxLen at hc2; omega
  have h2 : Objs w B2 (.slice a2 X.length c2) Y := by rw [← hlen] at h2; exact h2
  rw [← hlen]
  have H1 := Lib.hid h1; have H2 := Lib.hid h2
  have Hlen := Lib.hid hlen
  clear h1 h2 hs hat hlen
  go_enter Try.func16, Try.ntmps16
  go_wp2_with fail
  go_loopw [5] (fun i wr => ∃ k : Nat, i = .int .i64 k ∧ k ≤ X.length ∧ Below w.heap.size w wr) (fun i _ => X.length - (intOf i).toNat)
  case atStart => exact ⟨0, rfl, Nat.zero_le _, Below.refl _ _⟩
  case round =>
    obtain ⟨k, rfl, hk, hbel⟩ := hrel
    by_cases hlt : k < X.length
    · have hltY : k < Y.length := by rw [← Hlen.out]; exact hlt
      have hsz := hbel.size
      have g1 := H1.out.below hbel
      have g2 : Objs wr B2 (.slice a2 Y.length c2) Y := by have := H2.out.below hbel; rw [Hlen.out] at this; exact this
      obtain ⟨b1, rfl, _, hbl1, e1, e2, _⟩ := g1.at k hlt
      obtain ⟨b2, rfl, _, hbl2, f1, f2, _⟩ := g2.at k hltY
      obtain ⟨ht, hL⟩ := Hat.out k hlt hltY
      obtain ⟨a3, c3, hv, hv1, hv2⟩ := g1.vat k hlt
      obtain ⟨a4, c4, hu, hu1, hu2⟩ := g2.vat k hltY
      rw [← hL] at hu
      have G1 := Lib.hid (g1.field' k hlt X[k].L rfl hv)
      have G2 := Lib.hid (g2.field' k hltY X[k].L hL.symm hu)
      rw [hv] at e2
      rw [hu] at f2
      rw [← ht] at f1
      have hk0 : (k : Int) < (X.length : Int) := by omega
      have hk1 : (0 : Int) ≤ (k : Int) := by omega
      clear g1 g2 hv hu ht hL hu1 hu2
      generalize X[k].L = L at *
      generalize X[k].ty = ty at *
      have hL63 : L.length ≤ 9223372036854775807 := by unfold maxLen at hv2; omega
      go_wp2_with fail
      refine wp_region_quiet_lit (by kernel_rfl) (by kernel_rfl) ?_
      repeat (first | go_big_quiet_step (fail) | quiet_step (fail))
      refine wpQuiet_nil ?_
      intro _ hw'
      obtain ⟨nq, hw''⟩ := hw'
      subst hw''
      obtain ⟨wo, rfl⟩ : ∃ wo : World, wo = wr := ⟨_, rfl⟩
      go_wp2_with fail
      go_loopw [6] (fun j wx => ∃ m : Nat, j = .int .i64 m ∧ m ≤ L.length ∧ Below wo.heap.size wo wx) (fun j _ => L.length - (intOf j).toNat)
      case atStart => exact ⟨0, rfl, Nat.zero_le _, below_drewsS _ _⟩
      case round =>
        obtain ⟨m, rfl, hm, hbx⟩ := hrel
        have x2 := (hbx.cell (p := ⟨b1, k * 2 + 1, none⟩) hbl1).trans e2
        have y2 := (hbx.cell (p := ⟨b2, k * 2 + 1, none⟩) hbl2).trans f2
        by_cases hmt : m < L.length
        · obtain ⟨b3, rfl, hbl3, s1, s2⟩ := G1.out m hmt
          obtain ⟨b4, rfl, hbl4, t1, t2⟩ := G2.out m hmt
          replace s1 := (hbx.cell (p := ⟨b3, m * 2, none⟩) hbl3).trans s1
          replace s2 := (hbx.cell (p := ⟨b3, m * 2 + 1, none⟩) hbl3).trans s2
          replace t1 := (hbx.cell (p := ⟨b4, m * 2, none⟩) hbl4).trans t1
          replace t2 := (hbx.cell (p := ⟨b4, m * 2 + 1, none⟩) hbl4).trans t2
          have hm0 : (m : Int) < (L.length : Int) := by omega
          have hm1 : (0 : Int) ≤ (m : Int) := by omega
          have hsx := hbx.size
          clear G1 G2 e1 e2 f1 f2
          generalize L[m] = p at *
          go_wp2_with fail
          refine wp_region_quiet_lit (by kernel_rfl) (by kernel_rfl) ?_
          repeat (first | go_big_quiet_step (fail) | quiet_step (fail))
          refine wpQuiet_nil ?_
          intro _ hw'
          obtain ⟨nr, hw''⟩ := hw'
          subst hw''
          go_wp2_with fail
          go_roundw
          case rel => exact ⟨m + 1, by go_num, hmt, hbx.trans ((below_drewsS _ _).mono hsx)⟩
          case measure => simp [intOf]; omega
        · obtain rfl : m = L.length := by omega
          clear G1 G2 e1 e2 f1 f2
          go_wp2_with fail
          go_roundw
          case rel => exact ⟨k + 1, by go_num, hlt, hbel.trans (hbx.mono hsz)⟩
          case measure => simp [intOf]; omega
    · obtain rfl : k = X.length := by omega
      go_wp2_with fail
      go_ret
      exact ⟨rfl, hbel⟩
end Go.Proofs.Ytfmhdmgkbaicbaa
