/-
  follow.Of: what it answers, and what its walk needs.
-/
import Derived.Test.YtimgnbacgdmiiaaFolD
namespace Go.Proofs.Ytimgnbacgdmiiaa
open Go.RowKit PK Go.Maps Go.WideMaps
set_option linter.unusedVariables false
set_option linter.unusedSimpArgs false
attribute [local go_sem ↓] append_appM

theorem FSt.lift {W : World} {k : Int} {N s0 s1 gl gs gc ge kk g n1 : Nat} {lv : Value} {L : List Sd} {X : List (Value × List Tx)} {P : Nat → Prop} (h : FSt W k N s0 gl gs gc ge kk g n1 lv L X P) (h1 : s0 ≤ s1) (h2 : s1 ≤ W.heap.size) (hP : ∀ q, P q → q < s1) : FSt W k N s1 gl gs gc ge kk g n1 lv L X (fun _ => False) := by
  obtain ⟨l1, l2, l3, l4, l5, l6, l7⟩ := h.lt
  exact ⟨h.lx, h.sx, h.cx, h.ex, h.kx, h.sd, ⟨by omega, by omega, by omega, by omega, by omega, by omega, h2⟩, h.ne, ⟨fun q hq => ⟨by have := (h.lo.1 q hq).1; omega, (h.lo.1 q hq).2⟩, fun x hx h0 q hq => ⟨by have := (h.lo.2 x hx h0 q hq).1; omega, (h.lo.2 x hx h0 q hq).2⟩⟩, h.out, h.len, h.each, fun x hx q e => ⟨(h.ap x hx q e).1, .inl ((h.ap x hx q e).2.elim (fun h3 => by omega) (hP q))⟩⟩
/-- The end's text. -/
def endT (k : Int) : Tx := List.replicate k.toNat 0
theorem endT_len {k : Int} (hk : 0 ≤ k) : ((endT k).length : Int) = k := by unfold endT; rw [List.length_replicate]; omega
/-- Sets that may be of rules, each row of which has not too many beginnings. -/
def GoodSt (b : Bn) (S : Sts) : Prop := InvS b b.look 600 S ∧ Closed b b.look S ∧ ∀ p ∈ b.l, ¬ OverR b.look 600 S p.right
/-- What follow.Of answers. -/
def FolP (w : World) (b : Bn) (e : Ending) (w' : World) : Prop :=
  ((bmay b ≠ 0 ∧ e = .returned (.tuple #[.slice none 0 0, .int .i64 (bmay b)])) ∨ (bmay b = 0 ∧ ((∃ g F S, e = .returned (.tuple #[.slice (some ⟨g, 0, none⟩) b.of.length b.of.length, .int .i64 0]) ∧ GoodSt b S ∧ ¬ OverSt b b.look S ∧ InvF (stAll b.look S b.l) b.look 600 (endT b.look) b.of.length F ∧ ClosedF (stAll b.look S b.l) b.look (endT b.look) F ∧ SetsR w' g b.of.length b.of.length F) ∨ (e = .returned (.tuple #[.slice none 0 0, .int .i64 15]) ∧ ((∃ S, Sound b b.look S ∧ Over b b.look 600 S) ∨ ∃ S, GoodSt b S ∧ (OverSt b b.look S ∨ ∃ F, SoundF (stAll b.look S b.l) b.look (endT b.look) b.of.length F ∧ OverF (stAll b.look S b.l) b.look 600 F)))))) ∧ Below w.heap.size w w'
theorem stAll_mem {k : Int} {S : Sts} {l : List Pr} {t : Tri} (h : t ∈ stAll k S l) : ∃ p ∈ l, ∃ (i : Nat) (s : Sy), p.right[i]? = some s ∧ s.tok = false ∧ t = (p.left, s.n, rowS k S (p.right.drop (i + 1))) := by
  unfold stAll at h
  obtain ⟨p, hp, h⟩ := List.mem_flatMap.1 h
  unfold stPr at h
  obtain ⟨i, _, h⟩ := List.mem_flatMap.1 h
  unfold stOne at h
  cases e : p.right[i]? with
  | none => rw [e] at h; cases h
  | some s =>
    rw [e] at h
    simp only at h
    cases ht : s.tok with
    | true => rw [ht] at h; simp at h
    | false =>
      rw [ht] at h
      simp only [Bool.false_eq_true, if_false, List.mem_singleton] at h
      exact ⟨p, hp, i, s, e, ht, h⟩
theorem mem_stAll {k : Int} {S : Sts} {l : List Pr} {p : Pr} (hp : p ∈ l) {i : Nat} {s : Sy} (h1 : p.right[i]? = some s) (h2 : s.tok = false) : (p.left, s.n, rowS k S (p.right.drop (i + 1))) ∈ stAll k S l := by
  unfold stAll
  refine List.mem_flatMap.2 ⟨p, hp, ?_⟩
  unfold stPr
  refine List.mem_flatMap.2 ⟨i, List.mem_range.2 (List.getElem?_eq_some_iff.1 h1).1, ?_⟩
  unfold stOne
  rw [h1]
  simp [h2]
theorem stand_ok {b : Bn} {k : Int} {S : Sts} (hk : 1 ≤ k ∧ k ≤ 4) (h0 : bmay b = 0) (hS : SOk k S) (hno : ¬ OverSt b k S) : StandOk (stAll k S b.l) k (endT k) b.of.length := by
  obtain ⟨z1, z2, z3, z4, z5, z6, z7, z8, z9, z10⟩ := bmay_zero h0
  refine ⟨fun t ht => ?_, hk, ⟨z1, z2⟩, fun t ht => ?_⟩
  · obtain ⟨p, hp, i, s, h1, h2, rfl⟩ := stAll_mem ht
    exact ⟨prOk_left (z6 p hp), prOk_sym (z6 p hp) (List.mem_of_getElem? h1) h2⟩
  · obtain ⟨p, hp, i, s, h1, h2, rfl⟩ := stAll_mem ht
    refine ⟨?_, rowS_le (by omega) _ _, ?_⟩
    · show IsSet (rowS k S (p.right.drop (i + 1)))
      exact rowS_set _ _ _
    · show (rowS k S (p.right.drop (i + 1))).length ≤ 600
      rcases List.eq_nil_or_concat (p.right.drop (i + 1)) with e | ⟨r', s', e⟩
      · rw [e]; show ([[]] : List Tx).length ≤ 600; simp
      · have h3 : ¬ OverR k 600 S (p.right.drop (i + 1)) := fun h => hno ⟨p, hp, i, s, h1, h2, h⟩
        rw [e] at h3 ⊢
        rcases Nat.lt_or_ge 600 (rowS k S (r'.concat s')).length with h4 | h4
        · exact absurd ⟨r'.length, by simp, by rw [List.take_of_length_le (by simp)]; exact h4⟩ h3
        · exact h4
/-- Rows of numbers below n. -/
def AskN (n : Nat) (F : Int → Option (Value × List Int)) : Prop := ∀ k v l, F k = some (v, l) → ∀ x ∈ l, ∃ q : Nat, q < n ∧ x = (q : Int)
theorem AskN.push {n : Nat} {F : Int → Option (Value × List Int)} (h : AskN n F) {k : Int} {v : Value} {l : List Int} (hr : HasRow F k v l) (v' : Value) (q : Nat) (hq : q < n) : AskN n (fun j => if j = k then some (v', l ++ [(q : Int)]) else F j) := by
  intro k' u m h1 x hx
  by_cases e : k' = k
  · subst e
    simp only [if_true, Option.some.injEq, Prod.mk.injEq] at h1
    obtain ⟨_, rfl⟩ := h1
    rcases List.mem_append.1 hx with hx | hx
    · rcases hr with hr | ⟨_, _, rfl⟩
      · exact h k' v l hr x hx
      · cases hx
    · exact ⟨q, hq, List.mem_singleton.1 hx⟩
  · simp only [if_neg e] at h1
    exact h k' u m h1 x hx
def AskT (T : List Tri) (F : Int → Option (Value × List Int)) (i : Nat) : Prop := ∀ j, j < i → ∀ t, T[j]? = some t → AskG F (j : Int) t.1
theorem AskT.push {T : List Tri} {F : Int → Option (Value × List Int)} {i : Nat} (h : AskT T F i) {t : Tri} (ht : T[i]? = some t) {v : Value} {l : List Int} (hr : HasRow F t.1 v l) (v' : Value) : AskT T (fun j => if j = t.1 then some (v', l ++ [(i : Int)]) else F j) (i + 1) := fun j hj u hu => by
  rcases Nat.lt_succ_iff_lt_or_eq.1 hj with h1 | rfl
  · exact AskG.push hr v' i (h j h1 u hu)
  · rw [ht] at hu; cases hu
    exact AskG.new v' _
theorem owns_oneT (w : World) (t : Tx) : (w.alloc (.cells #[.string ⟨t.toArray⟩] 9)).ownsRow w.heap.size 9 1 (.slice (some ⟨w.heap.size, 0, none⟩) 1 1) 1 (svt [t]) :=
  ⟨by simp [svt], .inr ⟨w.heap.size, 1, #[.string ⟨t.toArray⟩], rfl, Nat.le_refl _, heap_alloc_new w _, Nat.le_refl _, by unfold maxLen; omega, rfl, rfl⟩⟩
theorem alloc3 (w : World) (u v x : Value) (T1 T2 T3 : TypeId) : ∃ W, W = ((w.alloc (.cells #[u] T1)).alloc (.cells #[v] T2)).alloc (.cells #[x] T3) ∧ W.heap.size = w.heap.size + 3 ∧ W.heap[w.heap.size]? = some (.cells #[u] T1 (0, 0)) ∧ W.cell? ⟨w.heap.size + 1, 0, none⟩ = some v ∧ W.cell? ⟨w.heap.size + 2, 0, none⟩ = some x ∧ Below w.heap.size w W := by
  have h1 : (w.alloc (.cells #[u] T1)).heap.size = w.heap.size + 1 := by simp
  have h2 : ((w.alloc (.cells #[u] T1)).alloc (.cells #[v] T2)).heap.size = w.heap.size + 2 := by simp
  have b1 := (Below.refl w.heap.size w).alloc (Nat.le_refl _) (.cells #[u] T1)
  have b2 := (Below.refl _ (w.alloc (.cells #[u] T1))).alloc (Nat.le_refl _) (.cells #[v] T2)
  have b3 := (Below.refl _ ((w.alloc (.cells #[u] T1)).alloc (.cells #[v] T2))).alloc (Nat.le_refl _) (.cells #[x] T3)
  have e1 : (w.alloc (.cells #[u] T1)).heap[w.heap.size]? = some (.cells #[u] T1 (0, 0)) := Array.getElem?_push_size
  have c2 := cell_new (w.alloc (.cells #[u] T1)) #[v] T2 0 _ rfl
  have c3 := cell_new ((w.alloc (.cells #[u] T1)).alloc (.cells #[v] T2)) #[x] T3 0 _ rfl
  rw [h1] at c2 b2
  rw [h2] at c3 b3
  refine ⟨_, rfl, by simp, ?_, ?_, c3, ?_⟩
  · rw [b3.block _ (by omega), b2.block _ (by omega)]; exact e1
  · exact (b3.cell (p := ⟨w.heap.size + 1, 0, none⟩) (by show w.heap.size + 1 < _; omega)).trans c2
  · exact b1.trans ((b2.trans (b3.mono (by omega))).mono (by omega))
/-- Behind the append a key is still looked up as before. -/
theorem AskI.still {w0 wx : World} {cnt : Nat} {F : Int → Option (Value × List Int)} (h : AskI w0 wx cnt F) (hc : cnt ≤ 10000000) {k : Int} (hk : In64 k) {v : Value} {l : List Int} (hr : HasRow F k v l) (i : Int) {u : Value} {w3 : World}
    (hrun : Sem.run Try.prog (appM #[22, 22] 22 #[v, .slice (some ⟨wx.heap.size, 0, none⟩) 1 1]) (wx.alloc (.cells #[.int .i64 i] 3)).drew = .ok u w3) :
    (Instr.lookup 73 (.map (some w0.heap.size)) (.int .i64 k) false).run Try.prog w3 = .ok v w3 := by
  obtain ⟨hown, hlc⟩ := h.row hr
  obtain ⟨i0, hi, hz0, hz1, hz2⟩ := info_parts info_intT
  have hlt := h.lt
  have rt : Row (wx.alloc (.cells #[.int .i64 i] 3)).drew (wx.heap.size + 1) 1 (.slice (some ⟨wx.heap.size, 0, none⟩) 1 1) 1 (ints [i]) := row_cellsB wx (ints [i]) 1 1 1 _ rfl (Nat.le_refl _) (by unfold maxLen; omega)
  obtain ⟨v', w3', h1, h2, h3, h4⟩ := run_append_row (P := Try.prog) (wx.alloc (.cells #[.int .i64 i] 3)).drew 22 22 (w0.heap.size + 1) 3 i0 (.int .i64 0) 1 8 Try.underlying22 hi hz0 hz1 hz2 rfl (by decide) v l.length (ints l) (owns_drewN (hown.alloc _)) (wx.heap.size + 1) _ 1 (ints [i]) rt (ints_oneT _) (by unfold maxLen; omega) (by omega) (by simp; omega)
  have h9 := hrun.symm.trans h1
  cases h9
  have h3' : (wx.alloc (.cells #[.int .i64 i] 3)).grownBy w3 v.ownBlock := ⟨h3.os, h3.tape, h3.output, h3.size, h3.block⟩
  obtain ⟨n, hn, hm⟩ := h.map
  have hvb : ∀ b, v.ownBlock = some b → w0.heap.size + 1 ≤ b ∧ b < wx.heap.size := fun b e => hown.lt b e
  have hm3 : MapIs w3 w0.heap.size n fun k => (F k).map (·.1) := (hm.kept (World.grownBy_alloc wx _ none) (by simp)).kept h3' (fun e => by have := (hvb _ e.symm).1; omega)
  rcases hr with hr | ⟨hr, rfl, rfl⟩
  · exact hm3.look k hk v (by simp [hr])
  · exact hm3.look0 k hk (by simp [hr])
theorem FSt.sets {W : World} {k : Int} {N s0 gl gs gc ge kk g n1 : Nat} {lv : Value} {L : List Sd} {X : List (Value × List Tx)} {P : Nat → Prop} (h : FSt W k N s0 gl gs gc ge kk g n1 lv L X P) : SetsR W g N N (X.map (·.2)) := by
  obtain ⟨l1, l2, l3, l4, l5, l6, l7⟩ := h.lt
  refine ⟨by rw [List.length_map]; exact h.len, by omega, fun j hj => ?_⟩
  rw [List.length_map] at hj
  obtain ⟨g', hv, _, _, hc, _⟩ := owns_cellN h.out (by have := h.len; omega)
  simp only [Option.some.injEq, Addr.mk.injEq, and_true] at hv
  subst hv
  refine ⟨X[j].1, hc j _ (by rw [List.getElem?_map, List.getElem?_eq_getElem hj]; rfl), ?_⟩
  rw [List.getElem_map]
  exact Row.of_owns (h.each _ (List.getElem_mem hj))
end Go.Proofs.Ytimgnbacgdmiiaa
