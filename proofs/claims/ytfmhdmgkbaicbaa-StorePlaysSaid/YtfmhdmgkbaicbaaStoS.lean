/-
  Stores: a field is set.
-/
import Derived.Test.YtfmhdmgkbaicbaaStoC
import Derived.OneCell
namespace Go.Proofs.Ytfmhdmgkbaicbaa
open Go.RowKit
set_option linter.unusedVariables false
set_option linter.unusedSimpArgs false

/-- A cell of a row that the call owns is set. -/
theorem owns_set {w : World} {base e size n c g : Nat} {xs : List Value} (h : w.ownsRow base e size (.slice (some ⟨g, 0, none⟩) n c) n xs) (j : Nat) (hj : j < xs.length) (u : Value) :
    (w.setCell ⟨g, j, none⟩ u).ownsRow base e size (.slice (some ⟨g, 0, none⟩) n c) n (xs.set j u) := by
  refine ⟨by rw [List.length_set]; exact h.1, ?_⟩
  rcases h.2 with ⟨hv, _⟩ | ⟨g', cap, cur, hv, hb, hg, h1, h2, h3, h4⟩
  · simp at hv
  · simp only [Value.slice.injEq, Option.some.injEq, Addr.mk.injEq, and_true, true_and] at hv
    obtain ⟨rfl, rfl⟩ := hv
    refine .inr ⟨g, c, cur.setIfInBounds j u, rfl, hb, ?_, h1, h2, by rw [Array.size_setIfInBounds]; exact h3, ?_⟩
    · have hlt := lt_of_block hg
      have h' : w.heap[g] = .cells cur e (0, 0) := by simpa [Array.getElem?_eq_getElem hlt] using hg
      show (w.heap.modify g _)[g]? = _
      rw [Array.getElem?_eq_getElem (by simpa using hlt), Array.getElem_modify_self, h']
      rfl
    · rw [Array.toList_setIfInBounds, ← h4, List.take_set]
/-- One object whose field is set. -/
def setX (X : List Cel) (i f : Nat) (p : Int × Int) : List Cel := X.modify i fun x => ⟨x.ty, x.v, x.L.set f p⟩
theorem setX_length (X : List Cel) (i f : Nat) (p : Int × Int) : (setX X i f p).length = X.length := by simp [setX]
theorem setX_at (X : List Cel) (i f : Nat) (p : Int × Int) (j : Nat) (hj : j < X.length) : (setX X i f p)[j]'(by rw [setX_length]; exact hj) = if i = j then ⟨X[j].ty, X[j].v, X[j].L.set f p⟩ else X[j] := by
  unfold setX; rw [List.getElem_modify]
theorem setX_v (X : List Cel) (i f : Nat) (p : Int × Int) : (setX X i f p).map (fun x => (x.ty, x.v)) = X.map (fun x => (x.ty, x.v)) := by
  apply List.ext_getElem (by simp [setX])
  intro j h1 h2
  simp only [List.getElem_map]
  have hj : j < X.length := by simpa using h2
  rw [setX_at X i f p j hj]
  split <;> rfl
theorem outC_map (X : List Cel) : outC X = (X.map (fun x => (x.ty, x.v))).flatMap fun q => [.int .i64 q.1, q.2] := by
  unfold outC; rw [List.flatMap_map]
theorem setX_outC (X : List Cel) (i f : Nat) (p : Int × Int) : outC (setX X i f p) = outC X := by rw [outC_map, setX_v, ← outC_map]
theorem setX_foot (vo : Value) (X : List Cel) (i f : Nat) (p : Int × Int) (k : Nat) : ofoot vo (setX X i f p) k ↔ ofoot vo X k := by
  have key : ∀ X : List Cel, (∃ x ∈ X, x.v.ownBlock = some k) ↔ ∃ q ∈ X.map (fun x => (x.ty, x.v)), q.2.ownBlock = some k := by
    intro X
    constructor
    · rintro ⟨x, hx, h⟩; exact ⟨_, List.mem_map_of_mem hx, h⟩
    · rintro ⟨q, hq, h⟩; obtain ⟨x, hx, rfl⟩ := List.mem_map.1 hq; exact ⟨x, hx, h⟩
  unfold ofoot; rw [key, setX_v, ← key]
theorem Objs.set {w : World} {B : Nat} {vo : Value} {X : List Cel} (h : Objs w B vo X) (i f : Nat) (hi : i < X.length) (hf : f < X[i].L.length) {b c : Nat} (hv : X[i].v = .slice (some ⟨b, 0, none⟩) X[i].L.length c) (p : Int × Int) :
    Objs ((w.setCell ⟨b, f * 2, none⟩ (.int .i64 p.1)).setCell ⟨b, f * 2 + 1, none⟩ (.int .i64 p.2)) B vo (setX X i f p) := by
  have hmem := List.getElem_mem hi
  have hob : X[i].v.ownBlock = some b := by rw [hv]; rfl
  have hkeep : ∀ k, k ≠ b → ((w.setCell ⟨b, f * 2, none⟩ (.int .i64 p.1)).setCell ⟨b, f * 2 + 1, none⟩ (.int .i64 p.2)).heap[k]? = w.heap[k]? := fun k hk => by
    rw [Below.heap_setCell _ _ _ _ hk, Below.heap_setCell _ _ _ _ hk]
  have hap := List.pairwise_iff_getElem.1 h.apart
  refine ⟨?_, ?_, ?_⟩
  · rw [setX_length, setX_outC]
    refine owns_block h.out fun k e => hkeep k fun hk => ?_
    rcases (h.each _ hmem).2 with h1 | h1
    · rw [hob] at h1; cases h1
    · rw [hob, e, hk] at h1; exact h1 rfl
  · intro y hy
    obtain ⟨j, hj, rfl⟩ := List.getElem_of_mem hy
    have hj' : j < X.length := by rw [setX_length] at hj; exact hj
    rw [setX_at X i f p j hj']
    by_cases hij : i = j
    · subst hij
      rw [if_pos rfl]
      refine ⟨?_, (h.each _ hmem).2⟩
      have ho := (h.each _ hmem).1
      rw [hv] at ho ⊢
      show World.ownsRow _ _ _ _ _ (X[i].L.set f p).length (valC (X[i].L.set f p))
      rw [List.length_set, valC_set _ _ hf]
      exact owns_set (owns_set ho (f * 2) (by rw [valC_length]; omega) _) (f * 2 + 1) (by rw [List.length_set, valC_length]; omega) _
    · rw [if_neg hij]
      have hj2 := h.each _ (List.getElem_mem hj')
      refine ⟨owns_block hj2.1 fun k e => hkeep k fun hk => ?_, hj2.2⟩
      subst hk
      rcases Nat.lt_or_gt_of_ne hij with hlt | hlt
      · rcases hap i j hi hj' hlt with h1 | h1
        · rw [hob] at h1; cases h1
        · exact h1 (by rw [hob, e])
      · rcases hap j i hj' hi hlt with h1 | h1
        · rw [e] at h1; cases h1
        · exact h1 (by rw [hob, e])
  · rw [List.pairwise_iff_getElem]
    intro a d ha hd had
    have ha' : a < X.length := by rw [setX_length] at ha; exact ha
    have hd' : d < X.length := by rw [setX_length] at hd; exact hd
    have e : ∀ j (hj : j < X.length), ((setX X i f p)[j]'(by rw [setX_length]; exact hj)).v = X[j].v := fun j hj => by
      rw [setX_at X i f p j hj]; split <;> rfl
    rw [e a ha', e d hd']
    exact hap a d ha' hd' had
theorem St.set {T : TypeId} {w : World} {B g : Nat} {vo : Value} {X : List Cel} (h : St T w B g vo X) (i f : Nat) (hi : i < X.length) (hf : f < X[i].L.length) {b c : Nat} (hv : X[i].v = .slice (some ⟨b, 0, none⟩) X[i].L.length c) (p : Int × Int) :
    St T ((w.setCell ⟨b, f * 2, none⟩ (.int .i64 p.1)).setCell ⟨b, f * 2 + 1, none⟩ (.int .i64 p.2)) B g vo (setX X i f p) ∧ foot g vo X b := by
  have hb : ofoot vo X b := .inr ⟨_, List.getElem_mem hi, by rw [hv]; rfl⟩
  refine ⟨⟨h.ge, ?_, h.objs.set i f hi hf hv p, fun hk => h.far ((setX_foot _ _ _ _ _ _).1 hk)⟩, .inr hb⟩
  have hne : g ≠ b := fun e => h.far (e ▸ hb)
  rw [Below.heap_setCell _ _ _ _ hne, Below.heap_setCell _ _ _ _ hne]
  exact h.ptr
theorem St.drew {T : TypeId} {w : World} {B g : Nat} {vo : Value} {X : List Cel} (h : St T w B g vo X) : St T w.drew B g vo X := h.keep fun _ _ => rfl
theorem St.undrew {T : TypeId} {w : World} {B g : Nat} {vo : Value} {X : List Cel} (h : St T w.drew B g vo X) : St T w B g vo X := h.keep fun _ _ => rfl
theorem St.new {T : TypeId} {w : World} {B g : Nat} (h : w.heap[g]? = some (.cells #[.slice none 0 0] T (0, 0))) (hB : B ≤ g) : St T w B g (.slice none 0 0) [] :=
  ⟨hB, h, ⟨World.ownsRow_nil _ _ _ _, (fun x hx => by cases hx), List.Pairwise.nil⟩, (fun hk => by rcases hk with hk | ⟨x, hx, _⟩ <;> first | cases hk | cases hx)⟩
def SetPost (T : TypeId) (w : World) (B g : Nat) (vo : Value) (X : List Cel) (i f : Nat) (p : Int × Int) (e : Ending) (w' : World) : Prop :=
  e = .returned (.int .i64 0) ∧ St T w' B g vo (setX X i f p) ∧ Keep (foot g vo X) w w'
set_option maxRecDepth 100000 in
set_option maxHeartbeats 1600000 in
theorem stSet_yes {w : World} {B g : Nat} {vo : Value} {X : List Cel} (h : St 54 w B g vo X) (i f : Nat) (hi : i < X.length) (hf : f < X[i].L.length) (p q : Int) :
    Calls Try.prog 12 #[.pointer (some ⟨g, 0, none⟩), .int .i64 i, .int .i64 f, .agg #[.int .i64 p, .int .i64 q]] w (SetPost 54 w B g vo X i f (p, q)) := by
  have hb0 : Below w.heap.size w (w.alloc (.cells #[.int .i64 p, .int .i64 q] 30)) := (Below.refl _ _).alloc (Nat.le_refl _) _
  have hK : Keep (foot g vo X) w (w.alloc (.cells #[.int .i64 p, .int .i64 q] 30)) := Keep.of_below hb0
  have h1 := h.below hb0
  have t0 : (w.alloc (.cells #[.int .i64 p, .int .i64 q] 30)).cell? ⟨w.heap.size, 0, none⟩ = some (.int .i64 p) := by rw [cell_of_row _ _ _ _ _ (0, 0) (heap_alloc_new w _)]; rfl
  have t1 : (w.alloc (.cells #[.int .i64 p, .int .i64 q] 30)).cell? ⟨w.heap.size, 1, none⟩ = some (.int .i64 q) := by rw [cell_of_row _ _ _ _ _ (0, 0) (heap_alloc_new w _)]; rfl
  have hlt0 : w.heap.size < (w.alloc (.cells #[.int .i64 p, .int .i64 q] 30)).heap.size := by simp
  have hw0 : ∀ k, foot g vo X k → k < w.heap.size := fun k hk => (h.lt hk).2
  clear h hb0
  have hgo : ∀ w1 : World, St 54 w1 B g vo X → Keep (foot g vo X) w w1 → w1.cell? ⟨w.heap.size, 0, none⟩ = some (.int .i64 p) → w1.cell? ⟨w.heap.size, 1, none⟩ = some (.int .i64 q) → w.heap.size < w1.heap.size → w.alloc (.cells #[.int .i64 p, .int .i64 q] 30) = w1 →
      Calls Try.prog 12 #[.pointer (some ⟨g, 0, none⟩), .int .i64 i, .int .i64 f, .agg #[.int .i64 p, .int .i64 q]] w (SetPost 54 w B g vo X i f (p, q)) := by
    intro w1 h1 hK t0 t1 hlt0 hw1
    have HH := Lib.hid (stHas_yes h1 i f hi hf)
    obtain ⟨ao, c, hvo, hc1, hc2⟩ := owns_val h1.objs.out
    obtain ⟨c0, f0⟩ := h1.cell
    rw [hvo] at c0
    have hat := h1.objs
    rw [hvo] at hat
    obtain ⟨b, rfl, hb1, hb2, c1, c2, _⟩ := hat.at i hi
    obtain ⟨ao2, cc, hv, hv1, hv2⟩ := h1.objs.vat i hi
    obtain ⟨b2, rfl, hbb1, hbb2, d1, d2, e1, e2⟩ := h1.objs.field i hi hv f hf
    obtain ⟨hset, hfb⟩ := h1.set i f hi hf hv (p, q)
    have hset := hset.drew
    have HK2 : Hid (Keep (foot g vo X) w ((w1.setCell ⟨b2, f * 2, none⟩ (.int .i64 p)).setCell ⟨b2, f * 2 + 1, none⟩ (.int .i64 q)).drew) := Lib.hid ((hK.setCell (fun _ => hfb) _).setCell (fun _ => hfb) _).drew
    have HS2 := Lib.hid hset
    have hbw : b2 < w.heap.size := hw0 _ hfb
    have hne : w.heap.size ≠ b2 := by omega
    rw [hv] at c2
    clear hat hset hfb hv h1 hK
    have Hw1 := Lib.hid hw1
    have Hw0 := Lib.hid hw0
    clear hw1 hvo hw0
    generalize X[i].L[f] = z at *
    generalize X[i].L.length = m at *
    generalize X[i].ty = ty at *
    generalize X.length = n at *
    have g0 : (0 : Int) ≤ (i : Int) := by omega
    have g1 : (i : Int) < (n : Int) := by omega
    have g2 : (0 : Int) ≤ (f : Int) := by omega
    have g3 : (f : Int) < (m : Int) := by omega
    go_enter Try.func12, Try.ntmps12
    go_wp2_with (go_at_call 23; rw [Hw1.out]; refine HH.out.mono ?_; rintro e w' ⟨rfl, rfl⟩)
    go_region
    all_goals
      go_wp2_with fail
      go_ret
      exact ⟨rfl, HS2.out, HK2.out⟩
  exact hgo _ h1 hK t0 t1 hlt0 rfl
theorem stSet_no {w : World} {B g : Nat} {vo : Value} {X : List Cel} (h : St 54 w B g vo X) (i f : Int) (hno : ∀ (i' f' : Nat) (hi : i' < X.length), i = i' → f = f' → ¬ f' < X[i'].L.length) (p q : Int) :
    Calls Try.prog 12 #[.pointer (some ⟨g, 0, none⟩), .int .i64 i, .int .i64 f, .agg #[.int .i64 p, .int .i64 q]] w fun e w' => e = .returned (.int .i64 3) ∧ Below w.heap.size w w' := by
  have hb : Below w.heap.size w (w.alloc (.cells #[.int .i64 p, .int .i64 q] 30)) := (Below.refl _ _).alloc (Nat.le_refl _) _
  have HH := Lib.hid (stHas_no (h.below hb) i f hno)
  clear hno hb
  go_enter Try.func12, Try.ntmps12
  go_wp2_with (go_at_call 23; refine HH.out.mono ?_; rintro e w' ⟨rfl, rfl⟩)
  go_ret
  exact ⟨rfl, (Below.refl _ w).alloc (Nat.le_refl _) _⟩
set_option maxRecDepth 100000 in
set_option maxHeartbeats 1600000 in
theorem refSet_yes {w : World} {B g : Nat} {vo : Value} {X : List Cel} (h : St 28 w B g vo X) (i f : Nat) (hi : i < X.length) (hf : f < X[i].L.length) (p q : Int) :
    Calls Try.prog 13 #[.pointer (some ⟨g, 0, none⟩), .int .i64 i, .int .i64 f, .agg #[.int .i64 p, .int .i64 q]] w (SetPost 28 w B g vo X i f (p, q)) := by
  have hb0 : Below w.heap.size w (w.alloc (.cells #[.int .i64 p, .int .i64 q] 30)) := (Below.refl _ _).alloc (Nat.le_refl _) _
  have hK : Keep (foot g vo X) w (w.alloc (.cells #[.int .i64 p, .int .i64 q] 30)) := Keep.of_below hb0
  have h1 := h.below hb0
  have t0 : (w.alloc (.cells #[.int .i64 p, .int .i64 q] 30)).cell? ⟨w.heap.size, 0, none⟩ = some (.int .i64 p) := by rw [cell_of_row _ _ _ _ _ (0, 0) (heap_alloc_new w _)]; rfl
  have t1 : (w.alloc (.cells #[.int .i64 p, .int .i64 q] 30)).cell? ⟨w.heap.size, 1, none⟩ = some (.int .i64 q) := by rw [cell_of_row _ _ _ _ _ (0, 0) (heap_alloc_new w _)]; rfl
  have hlt0 : w.heap.size < (w.alloc (.cells #[.int .i64 p, .int .i64 q] 30)).heap.size := by simp
  have hw0 : ∀ k, foot g vo X k → k < w.heap.size := fun k hk => (h.lt hk).2
  clear h hb0
  have hgo : ∀ w1 : World, St 28 w1 B g vo X → Keep (foot g vo X) w w1 → w1.cell? ⟨w.heap.size, 0, none⟩ = some (.int .i64 p) → w1.cell? ⟨w.heap.size, 1, none⟩ = some (.int .i64 q) → w.heap.size < w1.heap.size → w.alloc (.cells #[.int .i64 p, .int .i64 q] 30) = w1 →
      Calls Try.prog 13 #[.pointer (some ⟨g, 0, none⟩), .int .i64 i, .int .i64 f, .agg #[.int .i64 p, .int .i64 q]] w (SetPost 28 w B g vo X i f (p, q)) := by
    intro w1 h1 hK t0 t1 hlt0 hw1
    have HH := Lib.hid (refThere_yes h1 i f hi hf)
    obtain ⟨ao, c, hvo, hc1, hc2⟩ := owns_val h1.objs.out
    obtain ⟨c0, f0⟩ := h1.cell
    rw [hvo] at c0
    have hat := h1.objs
    rw [hvo] at hat
    obtain ⟨b, rfl, hb1, hb2, c1, c2, _⟩ := hat.at i hi
    obtain ⟨ao2, cc, hv, hv1, hv2⟩ := h1.objs.vat i hi
    obtain ⟨b2, rfl, hbb1, hbb2, d1, d2, e1, e2⟩ := h1.objs.field i hi hv f hf
    obtain ⟨hset, hfb⟩ := h1.set i f hi hf hv (p, q)
    have hset := hset.drew
    have HK2 : Hid (Keep (foot g vo X) w ((w1.setCell ⟨b2, f * 2, none⟩ (.int .i64 p)).setCell ⟨b2, f * 2 + 1, none⟩ (.int .i64 q)).drew) := Lib.hid ((hK.setCell (fun _ => hfb) _).setCell (fun _ => hfb) _).drew
    have HS2 := Lib.hid hset
    have hbw : b2 < w.heap.size := hw0 _ hfb
    have hne : w.heap.size ≠ b2 := by omega
    rw [hv] at c2
    clear hat hset hfb hv h1 hK
    have Hw1 := Lib.hid hw1
    have Hw0 := Lib.hid hw0
    clear hw1 hvo hw0
    generalize X[i].L[f] = z at *
    generalize X[i].L.length = m at *
    generalize X[i].ty = ty at *
    generalize X.length = n at *
    have g0 : (0 : Int) ≤ (i : Int) := by omega
    have g1 : (i : Int) < (n : Int) := by omega
    have g2 : (0 : Int) ≤ (f : Int) := by omega
    have g3 : (f : Int) < (m : Int) := by omega
    go_enter Try.func13, Try.ntmps13
    go_wp2_with (go_at_call 24; rw [Hw1.out]; refine HH.out.mono ?_; rintro e w' ⟨rfl, rfl⟩)
    go_region
    all_goals
      go_wp2_with fail
      go_ret
      exact ⟨rfl, HS2.out, HK2.out⟩
  exact hgo _ h1 hK t0 t1 hlt0 rfl
theorem refSet_no {w : World} {B g : Nat} {vo : Value} {X : List Cel} (h : St 28 w B g vo X) (i f : Int) (hno : ∀ (i' f' : Nat) (hi : i' < X.length), i = i' → f = f' → ¬ f' < X[i'].L.length) (p q : Int) :
    Calls Try.prog 13 #[.pointer (some ⟨g, 0, none⟩), .int .i64 i, .int .i64 f, .agg #[.int .i64 p, .int .i64 q]] w fun e w' => e = .returned (.int .i64 3) ∧ Below w.heap.size w w' := by
  have hb : Below w.heap.size w (w.alloc (.cells #[.int .i64 p, .int .i64 q] 30)) := (Below.refl _ _).alloc (Nat.le_refl _) _
  have HH := Lib.hid (refThere_no (h.below hb) i f hno)
  clear hno hb
  go_enter Try.func13, Try.ntmps13
  go_wp2_with (go_at_call 24; refine HH.out.mono ?_; rintro e w' ⟨rfl, rfl⟩)
  go_ret
  exact ⟨rfl, (Below.refl _ w).alloc (Nat.le_refl _) _⟩
theorem stNew_any (w : World) (B : Nat) (hB : B ≤ w.heap.size) : Calls Try.prog 6 #[] w fun e w' => e = .returned (.pointer (some ⟨w.heap.size, 0, none⟩)) ∧ St 54 w' B w.heap.size (.slice none 0 0) [] ∧ Below w.heap.size w w' ∧ w.heap.size < w'.heap.size := by
  go_enter Try.func6, Try.ntmps6
  go_wp2_with fail
  go_ret
  refine ⟨rfl, St.new (heap_alloc_new w _) hB, (Below.refl _ _).alloc (Nat.le_refl _) _, by simp⟩
theorem among4_lt (n : Int) : 0 ≤ wrap64 ((IntKind.u64.wrap n).tmod 4) ∧ wrap64 ((IntKind.u64.wrap n).tmod 4) < 4 := by
  have h0 : 0 ≤ IntKind.u64.wrap n := by simp [IntKind.wrap, IntKind.bits, IntKind.signed]; omega
  generalize IntKind.u64.wrap n = m at *
  rw [Int.tmod_eq_emod_of_nonneg h0]
  unfold wrap64
  omega
set_option maxRecDepth 100000 in
theorem among4_any (n : Int) (w : World) (hn : -9223372036854775808 ≤ n ∧ n ≤ 9223372036854775807) : Calls Try.prog 7 #[.int .i64 n, .int .i64 4] w fun e w' => ∃ k : Int, e = .returned (.int .i64 k) ∧ 0 ≤ k ∧ k < 4 ∧ w = w' := by
  have hB := among4_lt n
  go_enter Try.func7, Try.ntmps7
  go_wp2_with fail
  go_ret
  exact ⟨_, rfl, hB.1, hB.2, rfl⟩
end Go.Proofs.Ytfmhdmgkbaicbaa
