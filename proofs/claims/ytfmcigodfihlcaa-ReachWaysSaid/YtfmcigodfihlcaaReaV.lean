/-
  Least steps, plain; rows that lie apart.
-/
import Derived.Test.YtfmcigodfihlcaaReaR
namespace Go.Proofs.Ytfmcigodfihlcaa
open Go.RowKit PK
set_option linter.unusedVariables false
set_option linter.unusedSimpArgs false
attribute [local go_sem ↓] append_appM

def noteS (S L l : List Int) : List Int := l.foldl (fun A x => if x ∈ S ∨ x ∈ A then A else A ++ [x]) L
def noteA (S : List Int) (F : Int → List Int) (l : List Int) : List Int := l.foldl (fun A x => noteS S A (F x)) []
theorem noteS_snoc (S L l : List Int) (x : Int) : noteS S L (l ++ [x]) = (if x ∈ S ∨ x ∈ noteS S L l then noteS S L l else noteS S L l ++ [x]) := by unfold noteS; rw [List.foldl_append]; rfl
theorem noteS_succ (S L l : List Int) (k : Nat) (hk : k < l.length) : noteS S L (l.take (k + 1)) = (if l[k] ∈ S ∨ l[k] ∈ noteS S L (l.take k) then noteS S L (l.take k) else noteS S L (l.take k) ++ [l[k]]) := by
  rw [List.take_succ_eq_append_getElem hk, noteS_snoc]
theorem noteA_snoc (S : List Int) (F : Int → List Int) (l : List Int) (x : Int) : noteA S F (l ++ [x]) = noteS S (noteA S F l) (F x) := by unfold noteA; rw [List.foldl_append]; rfl
theorem noteA_succ (S : List Int) (F : Int → List Int) (l : List Int) (k : Nat) (hk : k < l.length) : noteA S F (l.take (k + 1)) = noteS S (noteA S F (l.take k)) (F l[k]) := by
  rw [List.take_succ_eq_append_getElem hk, noteA_snoc]
theorem snoc_ind {α : Type} {P : List α → Prop} (h0 : P []) (h1 : ∀ l x, P l → P (l ++ [x])) (l : List α) : P l := by
  have : ∀ n, n ≤ l.length → P (l.take n) := by
    intro n
    induction n with
    | zero => intro _; exact h0
    | succ n ih => intro hn; rw [List.take_succ_eq_append_getElem (by omega)]; exact h1 _ _ (ih (by omega))
  have h := this l.length (Nat.le_refl _)
  rwa [List.take_length] at h
theorem noteS_mem (S L l : List Int) (x : Int) : x ∈ noteS S L l ↔ x ∈ L ∨ (x ∈ l ∧ x ∉ S) := by
  induction l using snoc_ind with
  | h0 => simp [noteS]
  | h1 l y ih =>
    rw [noteS_snoc]
    by_cases h : y ∈ S ∨ y ∈ noteS S L l
    · rw [if_pos h, ih, List.mem_append, List.mem_singleton]
      constructor
      · rintro (h1 | ⟨h1, h2⟩)
        · exact .inl h1
        · exact .inr ⟨.inl h1, h2⟩
      · rintro (h1 | ⟨h1 | h1, h2⟩)
        · exact .inl h1
        · exact .inr ⟨h1, h2⟩
        · subst h1
          rcases h with h | h
          · exact absurd h h2
          · exact ih.1 h
    · rw [if_neg h, List.mem_append, List.mem_singleton, ih, List.mem_append, List.mem_singleton]
      constructor
      · rintro ((h1 | ⟨h1, h2⟩) | h1)
        · exact .inl h1
        · exact .inr ⟨.inl h1, h2⟩
        · exact .inr ⟨.inr h1, by rw [h1]; exact fun h2 => h (.inl h2)⟩
      · rintro (h1 | ⟨h1 | h1, h2⟩)
        · exact .inl (.inl h1)
        · exact .inl (.inr ⟨h1, h2⟩)
        · exact .inr h1
theorem noteS_nodup (S L l : List Int) (h : L.Nodup) : (noteS S L l).Nodup := by
  induction l using snoc_ind with
  | h0 => exact h
  | h1 l y ih =>
    rw [noteS_snoc]
    by_cases h1 : y ∈ S ∨ y ∈ noteS S L l
    · rw [if_pos h1]; exact ih
    · rw [if_neg h1, List.nodup_append]
      refine ⟨ih, by simp, fun a ha b hb => ?_⟩
      rw [List.mem_singleton] at hb; subst hb
      rintro rfl; exact h1 (.inr ha)
theorem noteA_mem (S : List Int) (F : Int → List Int) (l : List Int) (x : Int) : x ∈ noteA S F l ↔ (∃ y ∈ l, x ∈ F y) ∧ x ∉ S := by
  induction l using snoc_ind with
  | h0 => simp [noteA]
  | h1 l y ih =>
    rw [noteA_snoc, noteS_mem, ih]
    constructor
    · rintro (⟨⟨z, h1, h2⟩, h3⟩ | ⟨h1, h2⟩)
      · exact ⟨⟨z, List.mem_append_left _ h1, h2⟩, h3⟩
      · exact ⟨⟨y, by simp, h1⟩, h2⟩
    · rintro ⟨⟨z, h1, h2⟩, h3⟩
      rcases List.mem_append.1 h1 with h4 | h4
      · exact .inl ⟨⟨z, h4, h2⟩, h3⟩
      · rw [List.mem_singleton] at h4; subst h4; exact .inr ⟨h2, h3⟩
theorem noteA_nodup (S : List Int) (F : Int → List Int) (l : List Int) : (noteA S F l).Nodup := by
  induction l using snoc_ind with
  | h0 => exact List.nodup_nil
  | h1 l y ih => rw [noteA_snoc]; exact noteS_nodup _ _ _ ih
/-- What is come to in so many steps and no fewer, and what in fewer. -/
structure FI (N : Nat) (F : Int → List Int) (n : Int) (now seen : List Int) (step : Nat) : Prop where
  pos : 1 ≤ step
  sl : step ≤ seen.length + 1
  at_ : ∀ y, y ∈ now ↔ Wk F step n y ∧ ∀ t, 1 ≤ t → t < step → ¬ Wk F t n y
  by_ : ∀ y, y ∈ seen ↔ ∃ t, 1 ≤ t ∧ t < step ∧ Wk F t n y
  nd : (seen ++ now).Nodup
  rg : ∀ x ∈ seen ++ now, 0 ≤ x ∧ x < N
theorem wk_one {F : Int → List Int} {n y : Int} : Wk F 1 n y ↔ y ∈ F n := by
  constructor
  · intro h; cases h with | snoc h1 h2 => cases h1; exact h2
  · intro h; exact .snoc .nil h
theorem FI.start {N : Nat} {F : Int → List Int} {n : Int} (h1 : (F n).Nodup) (h2 : ∀ x ∈ F n, 0 ≤ x ∧ x < N) : FI N F n (F n) [] 1 :=
  ⟨Nat.le_refl _, Nat.le_refl _, fun y => by rw [wk_one]; exact ⟨fun h => ⟨h, fun t a b => by omega⟩, fun h => h.1⟩, fun y => ⟨fun h => (by cases h), fun ⟨t, a, b, _⟩ => by omega⟩, h1, h2⟩
theorem FI.next {N : Nat} {F : Int → List Int} {n : Int} {now seen : List Int} {step : Nat} (h : FI N F n now seen step) (h0 : now ≠ []) (hF : ∀ x y, y ∈ F x → 0 ≤ y ∧ y < N) : FI N F n (noteA (seen ++ now) F now) (seen ++ now) (step + 1) := by
  have hby : ∀ y, y ∈ seen ++ now ↔ ∃ t, 1 ≤ t ∧ t < step + 1 ∧ Wk F t n y := fun y => by
    rw [List.mem_append]
    constructor
    · rintro (h1 | h1)
      · obtain ⟨t, a, b, c⟩ := (h.by_ y).1 h1; exact ⟨t, a, by omega, c⟩
      · exact ⟨step, h.pos, by omega, ((h.at_ y).1 h1).1⟩
    · rintro ⟨t, a, b, c⟩
      rcases Classical.em (∃ t, 1 ≤ t ∧ t < step ∧ Wk F t n y) with h1 | h1
      · exact .inl ((h.by_ y).2 h1)
      · refine .inr ((h.at_ y).2 ⟨?_, fun s h2 h3 h4 => h1 ⟨s, h2, h3, h4⟩⟩)
        rcases Nat.lt_or_ge t step with h2 | h2
        · exact absurd ⟨t, a, h2, c⟩ h1
        · obtain rfl : t = step := by omega
          exact c
  refine ⟨by omega, ?_, fun y => ?_, hby, ?_, fun x hx => ?_⟩
  · rw [List.length_append]; have := h.sl; have := List.length_pos_iff.2 h0; omega
  · rw [noteA_mem]
    constructor
    · rintro ⟨⟨x, h1, h2⟩, h3⟩
      exact ⟨.snoc ((h.at_ x).1 h1).1 h2, fun t a b c => h3 ((hby y).2 ⟨t, a, b, c⟩)⟩
    · rintro ⟨h1, h2⟩
      refine ⟨?_, fun h3 => ?_⟩
      · cases h1 with
        | @snoc _ _ x _ h3 h4 => exact ⟨x, (h.at_ x).2 ⟨h3, fun t a b c => h2 (t + 1) (by omega) (by omega) (.snoc c h4)⟩, h4⟩
      · obtain ⟨t, a, b, c⟩ := (hby y).1 h3
        exact h2 t a b c
  · rw [List.nodup_append]
    refine ⟨h.nd, noteA_nodup _ _ _, fun a ha b hb => ?_⟩
    rintro rfl
    exact ((noteA_mem _ _ _ _).1 hb).2 ha
  · rcases List.mem_append.1 hx with h1 | h1
    · exact h.rg x h1
    · obtain ⟨⟨y, _, h2⟩, _⟩ := (noteA_mem _ _ _ _).1 h1
      exact hF y x h2
/-- What the document's Far answers. -/
def FarS (F : Int → List Int) (n m : Int) (s : Nat) : Prop := (s = 0 ∧ ∀ t, 1 ≤ t → ¬ Wk F t n m) ∨ (1 ≤ s ∧ Wk F s n m ∧ ∀ t, 1 ≤ t → t < s → ¬ Wk F t n m)
theorem FI.found {N : Nat} {F : Int → List Int} {n m : Int} {now seen : List Int} {step : Nat} (h : FI N F n now seen step) (hm : m ∈ now) : FarS F n m step :=
  .inr ⟨h.pos, ((h.at_ m).1 hm).1, ((h.at_ m).1 hm).2⟩
theorem FI.none {N : Nat} {F : Int → List Int} {n m : Int} {seen : List Int} {step : Nat} (h : FI N F n [] seen step) (hm : m ∉ seen) : FarS F n m 0 := by
  have key : ∀ k y, Wk F (step + k) n y → ∃ t, 1 ≤ t ∧ t < step ∧ Wk F t n y := by
    have base : ∀ y, Wk F step n y → ∃ t, 1 ≤ t ∧ t < step ∧ Wk F t n y := fun y hy => by
      rcases Classical.em (∃ t, 1 ≤ t ∧ t < step ∧ Wk F t n y) with h1 | h1
      · exact h1
      · exact absurd ((h.at_ y).2 ⟨hy, fun s a b c => h1 ⟨s, a, b, c⟩⟩) (by simp)
    intro k
    induction k with
    | zero => exact base
    | succ k ih =>
      intro y hy
      rw [← Nat.add_assoc] at hy
      cases hy with
      | snoc h1 h2 =>
        obtain ⟨t, a, b, c⟩ := ih _ h1
        rcases Nat.lt_or_ge (t + 1) step with h3 | h3
        · exact ⟨t + 1, by omega, h3, .snoc c h2⟩
        · obtain rfl : step = t + 1 := by omega
          exact base y (.snoc c h2)
  refine .inl ⟨rfl, fun t ht hw => hm ((h.by_ m).2 ?_)⟩
  rcases Nat.lt_or_ge t step with h1 | h1
  · exact ⟨t, ht, h1, hw⟩
  · obtain ⟨k, rfl⟩ : ∃ k, t = step + k := ⟨t - step, by omega⟩
    exact key k m hw
theorem FarS.uniq {F : Int → List Int} {n : Int} {W : List Int} {s t : Nat} (h : WayOk F n W s) (k : FarS F n n t) : s = t := by
  rcases k with ⟨rfl, h1⟩ | ⟨h1, h2, h3⟩
  · exact absurd h.wk (h1 s h.pos)
  · rcases Nat.lt_trichotomy s t with h4 | h4 | h4
    · exact absurd h.wk (h3 s h.pos h4)
    · exact h4
    · exact absurd h2 (h.least t h1 h4)
def ApartV (u v : Value) : Prop := ∀ g, u.ownBlock = some g → v.ownBlock ≠ some g
theorem ApartV.symm {u v : Value} (h : ApartV u v) : ApartV v u := fun g h1 h2 => h g h2 h1
/-- Three rows of one's own, apart. -/
structure R3 (n0 : Nat) (w : World) (nv sv xv : Value) (now seen nx : List Int) : Prop where
  n : w.ownsRow n0 3 1 nv now.length (ints now)
  s : w.ownsRow n0 3 1 sv seen.length (ints seen)
  x : w.ownsRow n0 3 1 xv nx.length (ints nx)
  ns : ApartV nv sv
  nx : ApartV nv xv
  sx : ApartV sv xv
theorem R3.keep {n0 : Nat} {w w' : World} {nv sv xv : Value} {now seen nx : List Int} (h : R3 n0 w nv sv xv now seen nx) (hb : Below w.heap.size w w') : R3 n0 w' nv sv xv now seen nx :=
  ⟨owns_belowP h.n hb, owns_belowP h.s hb, owns_belowP h.x hb, h.ns, h.nx, h.sx⟩
theorem R3.made {n0 : Nat} {w : World} {nv sv : Value} {now seen : List Int} (hn : n0 ≤ w.heap.size) (h1 : w.ownsRow n0 3 1 nv now.length (ints now)) (h2 : w.ownsRow n0 3 1 sv seen.length (ints seen)) (h3 : ApartV nv sv) : R3 n0 (w.alloc (.cells #[] 3)) nv sv (.slice (some ⟨w.heap.size, 0, none⟩) 0 0) now seen [] := by
  refine ⟨h1.alloc _, h2.alloc _, World.ownsRow_made (base := n0) (e := 3) (size := 1) w #[] 0 hn (Nat.zero_le _) rfl, h3, fun g hg he => ?_, fun g hg he => ?_⟩
  · have := (h1.lt g hg).2; have e : w.heap.size = g := Option.some.inj he; omega
  · have := (h2.lt g hg).2; have e : w.heap.size = g := Option.some.inj he; omega
theorem R3.push {n0 : Nat} {w : World} {nv sv xv : Value} {now seen nx : List Int} (hn : n0 ≤ w.heap.size) (h : R3 n0 w nv sv xv now seen nx) (z : Int) (hl : nx.length + 1 ≤ 10000000) :
    ∃ a c w3, Sem.run Try.prog (appM #[22, 22] 22 #[xv, .slice (some ⟨w.heap.size, 0, none⟩) 1 1]) (w.alloc (.cells #[.int .i64 z] 3)) = .ok (.slice a (nx.length + 1) c) w3 ∧ R3 n0 w3 nv sv (.slice a (nx.length + 1) c) now seen (nx ++ [z]) ∧ Below n0 w w3 ∧
      (∀ k, k < w.heap.size → xv.ownBlock ≠ some k → w3.heap[k]? = w.heap[k]?) ∧ ((Value.slice a (nx.length + 1) c).ownBlock = xv.ownBlock ∨ ∃ k, (Value.slice a (nx.length + 1) c).ownBlock = some k ∧ w.heap.size ≤ k) := by
  obtain ⟨a, c, w3, h1, h2, h3, h4, h5⟩ := own_push2 hn h.x z hl
  have hap : ∀ u, ApartV u xv → (∀ g, u.ownBlock = some g → g < w.heap.size) → ApartV u (.slice a (nx.length + 1) c) := fun u hu hlt g hg he => by
    rcases h5 with h6 | ⟨k, h6, h7⟩
    · rw [h6] at he; exact hu g hg he
    · rw [h6] at he; have e := Option.some.inj he; have := hlt g hg; omega
  exact ⟨a, c, w3, h1, ⟨owns_blockN h.n fun g hg => h4 g (h.n.lt g hg).2 (h.nx g hg), owns_blockN h.s fun g hg => h4 g (h.s.lt g hg).2 (h.sx g hg), h2, h.ns, hap _ h.nx fun g hg => (h.n.lt g hg).2, hap _ h.sx fun g hg => (h.s.lt g hg).2⟩, h3, h4, h5⟩
theorem R3.join {n0 : Nat} {w : World} {nv sv xv : Value} {now seen nx : List Int} (hn : n0 ≤ w.heap.size) (h : R3 n0 w nv sv xv now seen nx) (hl : seen.length + now.length ≤ 10000000) :
    ∃ a c w3, Sem.run Try.prog (appM #[22, 22] 22 #[sv, nv]) w = .ok (.slice a (seen.length + now.length) c) w3 ∧ R3 n0 w3 nv (.slice a (seen.length + now.length) c) xv now (seen ++ now) nx ∧ Below n0 w w3 := by
  obtain ⟨i0, hi0, hz0, hz1, hz2⟩ := info_parts info_intT
  obtain ⟨v', w2, h1, h2, h3, h4⟩ := run_append_row (P := Try.prog) w 22 22 n0 3 i0 (.int .i64 0) 1 8 Try.underlying22 hi0 hz0 hz1 hz2 rfl (by decide) sv seen.length (ints seen) h.s w.heap.size nv now.length (ints now) (Row.of_owns h.n) (ints_oneT _) (by unfold maxLen; omega) (by omega) hn
  have h2' : w2.ownsRow n0 3 1 v' (seen.length + now.length) (ints (seen ++ now)) := by simpa [ints] using h2
  obtain ⟨a, c, rfl, _, _⟩ := owns_valP h2'
  have hkeep : ∀ k, k < w.heap.size → sv.ownBlock ≠ some k → w2.heap[k]? = w.heap[k]? := fun k hk hne => h3.block k hk (fun e => hne e.symm)
  have hap : ∀ u, ApartV u sv → (∀ g, u.ownBlock = some g → g < w.heap.size) → ApartV u (.slice a (seen.length + now.length) c) := fun u hu hlt g hg he => by
    rcases h4 with h6 | h6
    · rw [h6] at he; exact hu g hg he
    · rw [h6] at he; have e := Option.some.inj he; have := hlt g hg; omega
  exact ⟨a, c, w2, h1, ⟨owns_blockN h.n fun g hg => hkeep g (h.n.lt g hg).2 (h.ns g hg), by rw [List.length_append]; exact h2', owns_blockN h.x fun g hg => hkeep g (h.x.lt g hg).2 (h.sx.symm g hg), hap _ h.ns fun g hg => (h.n.lt g hg).2, h.nx, (hap _ h.sx.symm fun g hg => (h.x.lt g hg).2).symm⟩, (Below.refl n0 w).grown h3 hn fun k e => (h.s.lt k e).1⟩
end Go.Proofs.Ytfmcigodfihlcaa
