/-
  Walks, and the search for a shortest way back, plain.
-/
import Derived.Test.YtfmcigodfihlcaaReaM
namespace Go.Proofs.Ytfmcigodfihlcaa
open Go.RowKit PK
set_option linter.unusedVariables false
set_option linter.unusedSimpArgs false

/-- Walks of so many steps. -/
inductive Wk (F : Int → List Int) : Nat → Int → Int → Prop
  | nil {x : Int} : Wk F 0 x x
  | snoc {k : Nat} {x y z : Int} : Wk F k x y → z ∈ F y → Wk F (k + 1) x z
theorem Wk.rc {F : Int → List Int} {n : Int} : ∀ {k : Nat} {m : Int}, Wk F (k + 1) n m → Rc F (F n) m := by
  intro k
  induction k with
  | zero => intro m h; cases h with | snoc h1 h2 => cases h1; exact .base h2
  | succ k ih => intro m h; cases h with | snoc h1 h2 => exact .step (ih h1) h2
theorem Rc.wk {F : Int → List Int} {n m : Int} (h : Rc F (F n) m) : ∃ k, Wk F (k + 1) n m := by
  induction h with
  | base h1 => exact ⟨0, .snoc .nil h1⟩
  | step _ h1 ih => obtain ⟨k, hk⟩ := ih; exact ⟨k + 1, .snoc hk h1⟩
theorem Wk.append {F : Int → List Int} {a b : Nat} {x y z : Int} (h : Wk F a x y) (k : Wk F b y z) : Wk F (a + b) x z := by
  induction k with
  | nil => exact h
  | snoc _ h2 ih => exact .snoc (ih h) h2
/-- Each member leads to the next one. -/
def Trail (F : Int → List Int) (W : List Int) : Prop := ∀ i a b, W[i]? = some a → W[i + 1]? = some b → b ∈ F a
theorem Trail.snoc {F : Int → List Int} {W : List Int} {x y : Int} (h : Trail F W) (hl : W.getLast? = some x) (hy : y ∈ F x) : Trail F (W ++ [y]) := by
  intro i a b ha hb
  rw [List.getLast?_eq_getElem?] at hl
  have hne : W ≠ [] := fun e => by subst e; simp at hl
  have hpos := List.length_pos_iff.2 hne
  have h1 : i + 1 < (W ++ [y]).length := (List.getElem?_eq_some_iff.1 hb).1
  rw [List.length_append] at h1
  simp only [List.length_singleton] at h1
  rw [List.getElem?_append_left (by omega)] at ha
  rcases Nat.lt_or_ge (i + 1) W.length with h2 | h2
  · rw [List.getElem?_append_left h2] at hb; exact h i a b ha hb
  · obtain rfl : i = W.length - 1 := by omega
    rw [ha] at hl
    rw [List.getElem?_append_right (by omega)] at hb
    have e : W.length - 1 + 1 - W.length = 0 := by omega
    rw [e] at hb
    cases hb; cases hl; exact hy
theorem Trail.wk {F : Int → List Int} {W : List Int} (h : Trail F W) {i : Nat} {x : Int} (hx : W[i]? = some x) : ∀ (k : Nat) (y : Int), W[i + k]? = some y → Wk F k x y := by
  intro k
  induction k with
  | zero => intro y hy; rw [Nat.add_zero, hx] at hy; cases hy; exact .nil
  | succ k ih =>
    intro y hy
    have hlt : i + k < W.length := by have := (List.getElem?_eq_some_iff.1 hy).1; omega
    exact .snoc (ih _ (List.getElem?_eq_getElem hlt)) (h (i + k) _ _ (List.getElem?_eq_getElem hlt) hy)
/-- A way from n to n of s steps, as short as can be. -/
structure WayOk (F : Int → List Int) (n : Int) (W : List Int) (s : Nat) : Prop where
  len : W.length = s + 1
  pos : 1 ≤ s
  fst : W[0]? = some n
  lst : W[s]? = some n
  tr : Trail F W
  least : ∀ t, 1 ≤ t → t < s → ¬ Wk F t n n
theorem WayOk.own {F : Int → List Int} {n : Int} {W : List Int} {s : Nat} (h : WayOk F n W s) {i : Nat} {x : Int} (hx : W[i]? = some x) : Rc F (F x) x := by
  have hi : i < W.length := (List.getElem?_eq_some_iff.1 hx).1
  have hl := h.len
  have h1 : Wk F i n x := h.tr.wk h.fst i x (by rw [Nat.zero_add]; exact hx)
  have e0 : i + (s - i) = s := by omega
  have h2 : Wk F (s - i) x n := h.tr.wk hx (s - i) n (by rw [e0]; exact h.lst)
  have h3 := h2.append h1
  have e : s - i + i = (s - 1) + 1 := by have := h.pos; omega
  rw [e] at h3
  exact h3.rc
theorem WayOk.wk {F : Int → List Int} {n : Int} {W : List Int} {s : Nat} (h : WayOk F n W s) : Wk F s n n := h.tr.wk h.fst s n (by rw [Nat.zero_add]; exact h.lst)
/-- Whence one came, back to n. -/
inductive Bk (f : Int → Option Int) (n : Int) : Int → List Int → Prop
  | nil : Bk f n n []
  | cons {x y : Int} {P : List Int} : x ≠ n → f x = some y → Bk f n y P → Bk f n x (x :: P)
/-- What holds within the search. -/
structure BI (N : Nat) (F : Int → List Int) (n : Int) (L : List Int) (D : List Nat) (f : Int → Option Int) (i : Nat) (pre : List Int) : Prop where
  len : D.length = L.length
  n0 : L[0]? = some n ∧ D[0]? = some 0
  nd : L.Nodup
  rg : ∀ x ∈ L, 0 ≤ x ∧ x < N
  has : ∀ x, (f x).isSome = true ↔ x ∈ L ∧ x ≠ n
  back : ∀ (j : Nat) x d, L[j]? = some x → D[j]? = some d → 1 ≤ j → ∃ (p : Nat) (y : Int) (e : Nat), p < j ∧ L[p]? = some y ∧ D[p]? = some e ∧ f x = some y ∧ x ∈ F y ∧ d = e + 1
  mono : ∀ (j k : Nat) d e, j ≤ k → D[j]? = some d → D[k]? = some e → d ≤ e
  near : ∀ (k : Nat) d e, D[i]? = some d → D[k]? = some e → e ≤ d + 1
  done : ∀ (j : Nat) x d, j < i → L[j]? = some x → D[j]? = some d → ∀ y ∈ F x, y ≠ n ∧ ∃ (q : Nat) (e : Nat), L[q]? = some y ∧ D[q]? = some e ∧ e ≤ d + 1
  part : ∀ x d, L[i]? = some x → D[i]? = some d → ∀ y ∈ pre, y ≠ n ∧ ∃ (q : Nat) (e : Nat), L[q]? = some y ∧ D[q]? = some e ∧ e ≤ d + 1
  le : i ≤ L.length
theorem BI.start {N : Nat} {F : Int → List Int} {n : Int} (h : 0 ≤ n ∧ n < N) : BI N F n [n] [0] (fun _ => none) 0 [] where
  len := rfl
  n0 := ⟨rfl, rfl⟩
  nd := by simp
  rg := fun x hx => by rw [List.mem_singleton] at hx; subst hx; exact h
  has := fun x => by simp
  back := fun j x d hx _ hj => by
    have := (List.getElem?_eq_some_iff.1 hx).1
    simp at this; omega
  mono := fun j k d e hjk hd he => by
    have h1 := (List.getElem?_eq_some_iff.1 he).1
    simp at h1
    obtain rfl : k = 0 := by omega
    obtain rfl : j = 0 := by omega
    rw [hd] at he; cases he; exact Nat.le_refl _
  near := fun k d e hd he => by
    have h1 := (List.getElem?_eq_some_iff.1 he).1
    simp at h1
    obtain rfl : k = 0 := by omega
    rw [hd] at he; cases he; omega
  done := fun j x d hj => by omega
  part := fun x d _ _ y hy => by cases hy
  le := Nat.zero_le _
theorem BI.depth {N : Nat} {F : Int → List Int} {n : Int} {L : List Int} {D : List Nat} {f : Int → Option Int} {i : Nat} {pre : List Int} (h : BI N F n L D f i pre) {j : Nat} {x : Int} (hx : L[j]? = some x) : ∃ d, D[j]? = some d := by
  have := (List.getElem?_eq_some_iff.1 hx).1
  exact ⟨_, List.getElem?_eq_getElem (by rw [h.len]; exact this)⟩
theorem BI.skip {N : Nat} {F : Int → List Int} {n : Int} {L : List Int} {D : List Nat} {f : Int → Option Int} {i : Nat} {pre : List Int} (h : BI N F n L D f i pre) (m : Int) (hm : m ≠ n) (hin : m ∈ L) : BI N F n L D f i (pre ++ [m]) :=
  ⟨h.len, h.n0, h.nd, h.rg, h.has, h.back, h.mono, h.near, h.done, fun x d hx hd y hy => by
      rcases List.mem_append.1 hy with h1 | h1
      · exact h.part x d hx hd y h1
      · rw [List.mem_singleton] at h1; subst h1
        obtain ⟨q, hq⟩ := List.getElem?_of_mem hin
        obtain ⟨e, he⟩ := h.depth hq
        exact ⟨hm, q, e, hq, he, h.near q d e hd he⟩, h.le⟩
theorem app_old {α : Type} {l : List α} {a x : α} {j : Nat} (h : l[j]? = some x) : (l ++ [a])[j]? = some x := by
  rw [List.getElem?_append_left (List.getElem?_eq_some_iff.1 h).1]; exact h
theorem app_cases {α : Type} {l : List α} {a x : α} {j : Nat} (h : (l ++ [a])[j]? = some x) : l[j]? = some x ∨ (j = l.length ∧ x = a) := by
  rcases Nat.lt_or_ge j l.length with h1 | h1
  · rw [List.getElem?_append_left h1] at h; exact .inl h
  · have h2 := (List.getElem?_eq_some_iff.1 h).1
    simp at h2
    obtain rfl : j = l.length := by omega
    rw [List.getElem?_append_right (Nat.le_refl _), Nat.sub_self] at h
    cases h; exact .inr ⟨rfl, rfl⟩
theorem BI.push {N : Nat} {F : Int → List Int} {n : Int} {L : List Int} {D : List Nat} {f : Int → Option Int} {i : Nat} {pre : List Int} (h : BI N F n L D f i pre) (m x : Int) (d : Nat) (hx : L[i]? = some x) (hd : D[i]? = some d) (hm : m ≠ n) (hin : m ∉ L) (hF : m ∈ F x) (hmr : 0 ≤ m ∧ m < N) :
    BI N F n (L ++ [m]) (D ++ [d + 1]) (fun j => if j = m then some x else f j) i (pre ++ [m]) := by
  have hil := (List.getElem?_eq_some_iff.1 hx).1
  have hold : ∀ y, y ≠ m → (if y = m then some x else f y) = f y := fun y hy => if_neg hy
  refine ⟨by simp [h.len], ⟨app_old h.n0.1, app_old h.n0.2⟩, ?_, ?_, fun y => ?_, fun j y e hy he hj => ?_, fun j k e e' hjk hj hk => ?_, fun k e e' he he' => ?_, fun j y e hj hy he z hz => ?_, fun y e hy he z hz => ?_, by simp; omega⟩
  · rw [List.nodup_append]
    exact ⟨h.nd, by simp, fun a ha b hb => by rw [List.mem_singleton] at hb; subst hb; rintro rfl; exact hin ha⟩
  · intro y hy
    rcases List.mem_append.1 hy with h1 | h1
    · exact h.rg y h1
    · rw [List.mem_singleton] at h1; subst h1; exact hmr
  · by_cases e : y = m
    · subst e
      rw [if_pos rfl]; simp [hm]
    · rw [if_neg e, h.has y, List.mem_append, List.mem_singleton]
      exact ⟨fun h1 => ⟨.inl h1.1, h1.2⟩, fun h1 => ⟨h1.1.resolve_right e, h1.2⟩⟩
  · rcases app_cases hy with h1 | ⟨h1, h2⟩
    · have hjl := (List.getElem?_eq_some_iff.1 h1).1
      have he1 : D[j]? = some e := by
        rcases app_cases he with h3 | ⟨h3, _⟩
        · exact h3
        · have := h.len; omega
      obtain ⟨p, z, e2, a1, a2, a3, a4, a5, a6⟩ := h.back j y e h1 he1 hj
      refine ⟨p, z, e2, a1, app_old a2, app_old a3, ?_, a5, a6⟩
      rw [if_neg]
      · exact a4
      · rintro rfl; exact hin (List.mem_of_getElem? h1)
    · have h3 : e = d + 1 := by
        rcases app_cases he with h3 | ⟨_, h3⟩
        · have := (List.getElem?_eq_some_iff.1 h3).1
          have := h.len; omega
        · exact h3
      exact ⟨i, x, d, by omega, app_old hx, app_old hd, by rw [h2, if_pos rfl], by rw [h2]; exact hF, h3⟩
  · rcases app_cases hk with h1 | ⟨h1, h2⟩
    · rcases app_cases hj with h3 | ⟨h3, h4⟩
      · exact h.mono j k e e' hjk h3 h1
      · have := (List.getElem?_eq_some_iff.1 h1).1; omega
    · rcases app_cases hj with h3 | ⟨h3, h4⟩
      · rw [h2]; exact h.near j d e hd h3
      · omega
  · have he1 : D[i]? = some e := by
      rcases app_cases he with h3 | ⟨h3, _⟩
      · exact h3
      · have := h.len; omega
    have hed : e = d := by rw [hd] at he1; exact (Option.some.inj he1).symm
    rcases app_cases he' with h1 | ⟨h1, h2⟩
    · exact h.near k e e' he1 h1
    · omega
  · have hjl : j < L.length := by omega
    have h1 : L[j]? = some y := by
      rcases app_cases hy with h1 | ⟨h1, _⟩
      · exact h1
      · omega
    have h2 : D[j]? = some e := by
      rcases app_cases he with h3 | ⟨h3, _⟩
      · exact h3
      · have := h.len; omega
    obtain ⟨a1, q, e2, a2, a3, a4⟩ := h.done j y e hj h1 h2 z hz
    exact ⟨a1, q, e2, app_old a2, app_old a3, a4⟩
  · have h1 : L[i]? = some y := by
      rcases app_cases hy with h1 | ⟨h1, _⟩
      · exact h1
      · omega
    have h2 : D[i]? = some e := by
      rcases app_cases he with h3 | ⟨h3, _⟩
      · exact h3
      · have := h.len; omega
    have hed : e = d := by rw [hd] at h2; exact (Option.some.inj h2).symm
    rcases List.mem_append.1 hz with h3 | h3
    · obtain ⟨a1, q, e2, a2, a3, a4⟩ := h.part y e h1 h2 z h3
      exact ⟨a1, q, e2, app_old a2, app_old a3, a4⟩
    · rw [List.mem_singleton] at h3; subst h3
      refine ⟨hm, L.length, d + 1, by simp, ?_, by omega⟩
      rw [← h.len]; simp
theorem BI.next {N : Nat} {F : Int → List Int} {n : Int} {L : List Int} {D : List Nat} {f : Int → Option Int} {i : Nat} {x : Int} (hx : L[i]? = some x) (h : BI N F n L D f i (F x)) : BI N F n L D f (i + 1) [] := by
  have hil := (List.getElem?_eq_some_iff.1 hx).1
  obtain ⟨d, hd⟩ := h.depth hx
  refine ⟨h.len, h.n0, h.nd, h.rg, h.has, h.back, h.mono, fun k e e' he he' => ?_, fun j y e hj hy he z hz => ?_, fun y e _ _ z hz => (by cases hz), hil⟩
  · have h1 := h.near k d e' hd he'
    have h2 := h.mono i (i + 1) d e (by omega) hd he
    omega
  · rcases Nat.lt_or_ge j i with h1 | h1
    · exact h.done j y e h1 hy he z hz
    · obtain rfl : j = i := by omega
      rw [hx] at hy; cases hy
      exact h.part x e hx he z hz
theorem BI.path {N : Nat} {F : Int → List Int} {n : Int} {L : List Int} {D : List Nat} {f : Int → Option Int} {i : Nat} {pre : List Int} (h : BI N F n L D f i pre) : ∀ (j : Nat) x d, L[j]? = some x → D[j]? = some d → ∃ P, Bk f n x P ∧ P.length = d ∧ Trail F (n :: P.reverse) ∧ (n :: P.reverse).getLast? = some x := by
  intro j
  induction j using Nat.strongRecOn with
  | _ j ih =>
    intro x d hx hd
    rcases Nat.eq_zero_or_pos j with rfl | hj
    · rw [h.n0.1] at hx; rw [h.n0.2] at hd; cases hx; cases hd
      refine ⟨[], .nil, rfl, fun i a b ha hb => ?_, rfl⟩
      have := (List.getElem?_eq_some_iff.1 hb).1
      simp at this
    · obtain ⟨p, y, e, a1, a2, a3, a4, a5, a6⟩ := h.back j x d hx hd hj
      obtain ⟨P, b1, b2, b3, b4⟩ := ih p a1 y e a2 a3
      have hxn : x ≠ n := ((h.has x).1 (by rw [a4]; rfl)).2
      refine ⟨x :: P, .cons hxn a4 b1, by simp [b2, a6], ?_, ?_⟩
      · rw [List.reverse_cons, ← List.cons_append]; exact b3.snoc b4 a5
      · rw [List.reverse_cons, ← List.cons_append, List.getLast?_append]; rfl
theorem BI.before {N : Nat} {F : Int → List Int} {n : Int} {L : List Int} {D : List Nat} {f : Int → Option Int} {i : Nat} {pre : List Int} (h : BI N F n L D f i pre) (d : Nat) (hd : D[i]? = some d) : ∀ (t : Nat) (y : Int), t ≤ d → Wk F t n y → (∃ (q : Nat) (e : Nat), L[q]? = some y ∧ D[q]? = some e ∧ e ≤ t) ∧ (1 ≤ t → y ≠ n) := by
  intro t
  induction t with
  | zero => intro y _ hw; cases hw; exact ⟨⟨0, 0, h.n0.1, h.n0.2, Nat.le_refl _⟩, fun h => by omega⟩
  | succ t ih =>
    intro y ht hw
    cases hw with
    | snoc h1 h2 =>
      obtain ⟨⟨q, e, a1, a2, a3⟩, _⟩ := ih _ (by omega) h1
      have hqi : q < i := by
        rcases Nat.lt_or_ge q i with h3 | h3
        · exact h3
        · have := h.mono i q d e h3 hd a2; omega
      obtain ⟨b1, q2, e2, b2, b3, b4⟩ := h.done q _ e hqi a1 a2 y h2
      exact ⟨⟨q2, e2, b2, b3, by omega⟩, fun _ => b1⟩
theorem BI.none {N : Nat} {F : Int → List Int} {n : Int} {L : List Int} {D : List Nat} {f : Int → Option Int} {i : Nat} {pre : List Int} (h : BI N F n L D f i pre) (hi : L.length ≤ i) : ∀ (t : Nat) (y : Int), Wk F t n y → y ∈ L ∧ (1 ≤ t → y ≠ n) := by
  intro t
  induction t with
  | zero => intro y hw; cases hw; exact ⟨List.mem_of_getElem? h.n0.1, fun h => by omega⟩
  | succ t ih =>
    intro y hw
    cases hw with
    | snoc h1 h2 =>
      obtain ⟨a1, _⟩ := ih _ h1
      obtain ⟨q, hq⟩ := List.getElem?_of_mem a1
      obtain ⟨e, he⟩ := h.depth hq
      have hql := (List.getElem?_eq_some_iff.1 hq).1
      obtain ⟨b1, q2, e2, b2, b3, b4⟩ := h.done q _ e (by omega) hq he y h2
      exact ⟨List.mem_of_getElem? b2, fun _ => b1⟩
theorem BI.never {N : Nat} {F : Int → List Int} {n : Int} {L : List Int} {D : List Nat} {f : Int → Option Int} {i : Nat} {pre : List Int} (h : BI N F n L D f i pre) (hi : L.length ≤ i) : ¬ Rc F (F n) n := fun hr => by
  obtain ⟨k, hk⟩ := hr.wk
  exact (h.none hi (k + 1) n hk).2 (by omega) rfl
/-- The way that is told. -/
theorem BI.found {N : Nat} {F : Int → List Int} {n : Int} {L : List Int} {D : List Nat} {f : Int → Option Int} {i : Nat} {pre : List Int} (h : BI N F n L D f i pre) {x : Int} (hx : L[i]? = some x) (hF : n ∈ F x) : ∃ P s, Bk f n x P ∧ P.length ≤ N ∧ WayOk F n (n :: P.reverse ++ [n]) s := by
  obtain ⟨d, hd⟩ := h.depth hx
  obtain ⟨P, b1, b2, b3, b4⟩ := h.path i x d hx hd
  have hdl : ∀ (j : Nat) e, D[j]? = some e → e ≤ j := by
    intro j
    induction j using Nat.strongRecOn with
    | _ j ih =>
      intro e he
      rcases Nat.eq_zero_or_pos j with rfl | hj
      · rw [h.n0.2] at he; cases he; exact Nat.le_refl _
      · have hjl := (List.getElem?_eq_some_iff.1 he).1
        obtain ⟨p, y, e2, a1, a2, a3, _, _, a6⟩ := h.back j _ e (List.getElem?_eq_getElem (by rw [← h.len]; exact hjl)) he hj
        have := ih p a1 e2 a3
        omega
  have hdi := hdl i d hd
  have hil := (List.getElem?_eq_some_iff.1 hx).1
  have hN := nodup_le h.nd h.rg
  refine ⟨P, d + 1, b1, by omega, ⟨by simp [b2], by omega, rfl, ?_, b3.snoc b4 hF, fun t h1 h2 hw => (h.before d hd t n (by omega) hw).2 h1 rfl⟩⟩
  rw [List.getElem?_append_right (by simp [b2])]
  simp [b2]
end Go.Proofs.Ytfmcigodfihlcaa
