/-
  Trees of a depth, plain: where a tree's nodes stand; that such nodes are a trie; what a text chooses; the beginnings of its texts.
-/
import Derived.Test.YtbmaappambmhoaaTriM
import Derived.Test.YtbmaappambmhoaaTriB
import Derived.Test.YtbmaappambmhoaaTriH
namespace Go.Proofs.Ytbmaappambmhoaa
open Go.RowKit PK
set_option linter.unusedVariables false

theorem flats_app {T : Type} (fl : Nat → T → List Nd) (sz : T → Nat) (a b : List (UInt8 × T)) (s : Nat) : flats fl sz s (a ++ b) = flats fl sz s a ++ flats fl sz (s + sizes sz a) b := by
  induction a generalizing s with
  | nil => simp [flats, sizes]
  | cons q r ih => simp only [List.cons_append, flats, ih, List.append_assoc]; simp [sizes, Nat.add_assoc]
theorem starts_at {T : Type} (sz : T → Nat) (ks : List (UInt8 × T)) (s j : Nat) (hj : j < ks.length) : (starts sz s ks)[j]? = some ((s + sizes sz (ks.take j) : Nat) : Int) := by
  induction ks generalizing s j with
  | nil => simp at hj
  | cons q r ih =>
    cases j with
    | zero => simp [starts, sizes]
    | succ j => simp only [starts, List.getElem?_cons_succ, List.take_succ_cons]; rw [ih (s + sz q.2) j (by simpa using hj)]; simp [sizes, Nat.add_assoc]
/-- At place i of N stand a tree's nodes. -/
def SubN (N : List Nd) (i n : Nat) (T : Tr n) : Prop := ∃ A C, N = A ++ (flat n i T ++ C) ∧ A.length = i
theorem sub_all (n : Nat) (T : Tr n) : SubN (flat n 0 T) 0 n T := ⟨[], [], by simp, rfl⟩
theorem sub_leaf {N : List Nd} {i : Nat} {x : Nat} (h : SubN N i 0 (show Tr 0 from (x : Nat))) : N[i]? = some ⟨(x : Nat), [], []⟩ := by
  obtain ⟨A, C, rfl, rfl⟩ := h
  rw [List.getElem?_append_right (Nat.le_refl _), Nat.sub_self]; rfl
theorem sub_node {N : List Nd} {i n : Nat} {ks : List (UInt8 × Tr n)} (h : SubN N i (n + 1) ks) : N[i]? = some ⟨-1, tokL ks, starts (tsize n) (i + 1) ks⟩ := by
  obtain ⟨A, C, rfl, rfl⟩ := h
  rw [List.getElem?_append_right (Nat.le_refl _), Nat.sub_self]; rfl
theorem sub_kid {N : List Nd} {i n : Nat} {ks : List (UInt8 × Tr n)} (h : SubN N i (n + 1) ks) (pre post : List (UInt8 × Tr n)) (q : UInt8 × Tr n) (hk : ks = pre ++ q :: post) : SubN N (i + 1 + sizes (tsize n) pre) n q.2 := by
  obtain ⟨A, C, rfl, rfl⟩ := h
  subst hk
  refine ⟨A ++ (⟨-1, tokL (pre ++ q :: post), starts (tsize n) (A.length + 1) (pre ++ q :: post)⟩ :: flats (flat n) (tsize n) (A.length + 1) pre), flats (flat n) (tsize n) (A.length + 1 + sizes (tsize n) pre + tsize n q.2) post ++ C, ?_, ?_⟩
  · simp only [flat, flats_app, flats, List.append_assoc, List.cons_append]
  · rw [List.length_append, List.length_cons, flats_len _ _ (flatT_len n)]; omega
/-- A tree is not bare. -/
def NE : (n : Nat) → Tr n → Prop
  | 0, _ => True
  | _ + 1, ks => (show List _ from ks) ≠ []
/-- A tree's tokens rise; a leaf's number is small. -/
def Up : (n : Nat) → Tr n → Prop
  | 0, x => (show Nat from x) < 20000
  | n + 1, ks => (show List (UInt8 × Tr n) from ks).Pairwise (fun a b => a.1 < b.1) ∧ ∀ p ∈ (show List (UInt8 × Tr n) from ks), Up n p.2 ∧ NE n p.2
theorem kidsB_up {T : Type} (sub : Int → Option Int) (sz : T → Nat) (ks : List (UInt8 × T)) : ∀ (last : Option Int) (s : Nat), ks.Pairwise (fun a b => a.1 < b.1) → (∀ l, last = some l → ∀ p ∈ ks, l < (p.1.toNat : Int)) →
    (∀ pre q post, ks = pre ++ q :: post → sub ((s + sizes sz pre : Nat) : Int) = some ((s + sizes sz pre + sz q.2 : Nat) : Int)) → kidsB sub last (tokL ks) (starts sz s ks) s = some ((s + sizes sz ks : Nat) : Int) := by
  induction ks with
  | nil => intro last s _ _ _; cases last <;> simp [tokL, kidsB, sizes]
  | cons q r ih =>
    intro last s hp hl hs
    obtain ⟨hp1, hp2⟩ := List.pairwise_cons.1 hp
    have hq := q.1.toNat_lt
    have h0 := hs [] q r rfl
    simp only [sizes, List.map_nil, List.sum_nil, Nat.add_zero] at h0
    simp only [tokL, List.map_cons, starts]
    rw [kidsB]
    rw [if_neg]
    · rw [h0, Option.bind_some]
      have := ih (some (q.1.toNat : Int)) (s + sz q.2) hp2 (fun l hl p hp => by cases hl; exact_mod_cast hp1 p hp) (fun pre p post e => by
        have := hs (q :: pre) p post (by rw [e]; rfl)
        simp only [sizes, List.map_cons, List.sum_cons] at this ⊢
        rw [← Nat.add_assoc] at this; exact this)
      simp only [tokL] at this
      rw [List.tail_cons, this]
      simp [sizes, Nat.add_assoc]
    · simp only [List.head?_cons, ne_eq, not_true_eq_false, or_false]
      rintro (h | h | ⟨l, h, h'⟩)
      · omega
      · omega
      · have := hl l h q List.mem_cons_self; omega
theorem belowB_sub (N : List Nd) (n : Nat) : ∀ (i : Nat) (root : Bool) (T : Tr n), SubN N i n T → Up n T → (root = true ∨ NE n T) → belowB N root n i = some ((i + tsize n T : Nat) : Int) := by
  induction n with
  | zero =>
    intro i root T h hu _
    have h1 := sub_leaf (x := T) h
    obtain ⟨hi, h2⟩ := List.getElem?_eq_some_iff.1 h1
    obtain ⟨x, hx⟩ : ∃ x : Nat, x = T := ⟨T, rfl⟩
    have hu' : x < 20000 := by subst hx; exact hu
    rw [belowB_leaf N root i hi, if_pos]
    · rfl
    · rw [h2, ← hx]
      unfold leafB
      rw [decide_eq_true (show (0 : Int) ≤ (x : Int) by omega), decide_eq_true (show (x : Int) < 20000 by omega)]; rfl
  | succ n ih =>
    intro i root T h hu hr
    obtain ⟨ks, hks⟩ : ∃ ks : List (UInt8 × Tr n), ks = T := ⟨T, rfl⟩
    subst hks
    have h1 := sub_node (ks := ks) h
    obtain ⟨hi, h2⟩ := List.getElem?_eq_some_iff.1 h1
    have hlen : (tokL ks).length = (starts (tsize n) (i + 1) ks).length := by rw [tokL_len, starts_len]
    rw [belowB_step N root n i hi, h2, if_neg]
    · have h3 := kidsB_up (belowB N false n) (tsize n) ks none (i + 1) hu.1 (fun l hl => by cases hl) (fun pre q post e => by
        have := (hu.2 q (by show q ∈ ks; rw [e]; simp))
        exact ih _ false q.2 (sub_kid h pre post q e) this.1 (.inr this.2))
      rw [h3]
      have e2 : tsize (n + 1) ks = 1 + sizes (tsize n) ks := rfl
      rw [e2, Nat.add_assoc]
    · rintro (h3 | h3 | ⟨h3, h4⟩)
      · exact h3 rfl
      · exact h3 hlen
      · rcases hr with hr | hr
        · rw [hr] at h4; cases h4
        · have h5 : (tokL ks).length = 0 := congrArg List.length h3
          rw [tokL_len] at h5
          exact hr (List.length_eq_zero_iff.1 h5)
theorem may_flat (K : Nat) (T : Tr K) (h1 : 1 ≤ K) (h4 : K ≤ 4) (hu : Up K T) (hs : tsize K T ≤ 20000) : mayB18 K (flat K 0 T) = true := by
  unfold mayB18
  have h := belowB_sub (flat K 0 T) K 0 true T (sub_all K T) hu (.inl rfl)
  have hl := flatT_len K 0 T
  rw [Int.toNat_natCast]
  simp only [Bool.and_eq_true, decide_eq_true_eq]
  refine ⟨⟨⟨by omega, by omega⟩, by rw [hl]; exact hs⟩, ?_⟩
  have h' : belowB (flat K 0 T) true K 0 = some ((0 + tsize K T : Nat) : Int) := h
  rw [h', hl, Nat.zero_add]
/-- The leaf to which a text leads. -/
def chooseT : (n : Nat) → Tr n → Tx → Option Nat
  | 0, x, [] => some (show Nat from x)
  | 0, _, _ :: _ => none
  | _ + 1, _, [] => none
  | n + 1, ks, b :: s => ((show List (UInt8 × Tr n) from ks).find? fun p => p.1 == b).bind fun p => chooseT n p.2 s
/-- A tree's beginnings, in order. -/
def pres : (n : Nat) → Tx → Tr n → List Tx
  | 0, p, _ => [p]
  | n + 1, p, ks => p :: (show List (UInt8 × Tr n) from ks).flatMap fun q => pres n (p ++ [q.1]) q.2
theorem pres_len (n : Nat) : ∀ (p : Tx) (T : Tr n), (pres n p T).length = tsize n T := by
  induction n with
  | zero => intro p T; rfl
  | succ n ih =>
    intro p T
    obtain ⟨ks, hks⟩ : ∃ ks : List (UInt8 × Tr n), ks = T := ⟨T, rfl⟩
    subst hks
    show (p :: ks.flatMap fun q => pres n (p ++ [q.1]) q.2).length = 1 + sizes (tsize n) ks
    rw [List.length_cons, List.length_flatMap]
    simp only [ih, sizes]; omega
theorem pres_pre (n : Nat) : ∀ (p : Tx) (T : Tr n), ∀ z ∈ pres n p T, ∃ r, z = p ++ r := by
  induction n with
  | zero => intro p T z hz; simp only [pres, List.mem_singleton] at hz; exact ⟨[], by simp [hz]⟩
  | succ n ih =>
    intro p T z hz
    rcases List.mem_cons.1 hz with rfl | hz
    · exact ⟨[], by simp⟩
    · obtain ⟨q, _, hz⟩ := List.mem_flatMap.1 hz
      obtain ⟨r, rfl⟩ := ih _ _ z hz
      exact ⟨[q.1] ++ r, by simp⟩
theorem lt_app (p : Tx) : ∀ (a b : UInt8) (r s : Tx), a < b → p ++ ([a] ++ r) < p ++ ([b] ++ s) := by
  induction p with
  | nil => intro a b r s h; exact List.cons_lt_cons_iff.2 (.inl h)
  | cons c p ih => intro a b r s h; exact List.cons_lt_cons_iff.2 (.inr ⟨rfl, ih a b r s h⟩)
theorem lt_pre (p : Tx) : ∀ (a : UInt8) (r : Tx), p < p ++ ([a] ++ r) := by
  induction p with
  | nil => intro a r; exact List.nil_lt_cons _ _
  | cons c p ih => intro a r; exact List.cons_lt_cons_iff.2 (.inr ⟨rfl, ih a r⟩)
theorem pres_set (n : Nat) : ∀ (p : Tx) (T : Tr n), Up n T → IsSet (pres n p T) := by
  induction n with
  | zero => intro p T _; exact List.pairwise_singleton _ _
  | succ n ih =>
    intro p T hu
    refine List.pairwise_cons.2 ⟨fun z hz => ?_, ?_⟩
    · obtain ⟨q, _, hz⟩ := List.mem_flatMap.1 hz
      obtain ⟨r, rfl⟩ := pres_pre n _ _ z hz
      rw [List.append_assoc]; exact lt_pre p _ _
    · rw [List.pairwise_flatMap]
      refine ⟨fun q hq => ih _ _ (hu.2 q hq).1, ?_⟩
      refine List.Pairwise.imp ?_ hu.1
      intro a b hab x hx y hy
      obtain ⟨r, rfl⟩ := pres_pre n _ _ x hx
      obtain ⟨s, rfl⟩ := pres_pre n _ _ y hy
      rw [List.append_assoc, List.append_assoc]; exact lt_app p _ _ _ _ hab
/-- Each leaf has the number that W tells of its text. -/
def LeafOK (W : Tx → Int) : (n : Nat) → Tx → Tr n → Prop
  | 0, p, x => ((show Nat from x : Nat) : Int) = W p
  | n + 1, p, ks => ∀ q ∈ (show List (UInt8 × Tr n) from ks), LeafOK W n (p ++ [q.1]) q.2
theorem grp_mem {X : Type} (l : List (UInt8 × X)) (q : UInt8 × List X) (hq : q ∈ grp l) (x : X) (hx : x ∈ q.2) : (q.1, x) ∈ l := by
  have h := grp_flat l
  rw [← h]
  exact List.mem_flatMap.2 ⟨q, hq, List.mem_map.2 ⟨x, hx, rfl⟩⟩
theorem mem_grp {X : Type} (l : List (UInt8 × X)) (b : UInt8) (x : X) (h : (b, x) ∈ l) : ∃ q ∈ grp l, q.1 = b ∧ x ∈ q.2 := by
  rw [← grp_flat l] at h
  obtain ⟨q, hq, h⟩ := List.mem_flatMap.1 h
  obtain ⟨y, hy, e⟩ := List.mem_map.1 h
  cases e
  exact ⟨q, hq, rfl, hy⟩
theorem hd_mem {E : En} {n : Nat} (hl : ∀ e ∈ E, e.1.length = n + 1) {b : UInt8} {t : Tx} {x : Nat} (h : (b, (t, x)) ∈ hdE E) : (b :: t, x) ∈ E := by
  obtain ⟨e, he, e1⟩ := List.mem_map.1 h
  cases e1
  have h1 := hl e he
  obtain ⟨s, y⟩ := e
  cases s with
  | nil => simp at h1
  | cons a s => exact he
theorem mem_hd {E : En} {b : UInt8} {t : Tx} {x : Nat} (h : (b :: t, x) ∈ E) : (b, (t, x)) ∈ hdE E := List.mem_map.2 ⟨_, h, rfl⟩
theorem grp_lens {E : En} {n : Nat} (hl : ∀ e ∈ E, e.1.length = n + 1) (q : UInt8 × List (Tx × Nat)) (hq : q ∈ grp (hdE E)) : ∀ e ∈ q.2, e.1.length = n := fun e he => by
  have := hl _ (hd_mem hl (grp_mem _ q hq e he))
  simpa using this
theorem leafOK_mk (W : Tx → Int) (n : Nat) : ∀ (p : Tx) (E : En), (∀ e ∈ E, e.1.length = n ∧ ((e.2 : Nat) : Int) = W (p ++ e.1)) → (n = 0 → E ≠ []) → LeafOK W n p (mkT n E) := by
  induction n with
  | zero =>
    intro p E h hne
    cases E with
    | nil => exact absurd rfl (hne rfl)
    | cons e E =>
      obtain ⟨h1, h2⟩ := h e List.mem_cons_self
      rw [List.length_eq_zero_iff.1 h1, List.append_nil] at h2
      exact h2
  | succ n ih =>
    intro p E h _ q hq
    obtain ⟨g, hg, rfl⟩ := List.mem_map.1 hq
    refine ih _ g.2 (fun e he => ?_) (fun _ => grp_ne _ g hg)
    have h1 := hd_mem (fun e he => (h e he).1) (grp_mem _ g hg e he)
    obtain ⟨h2, h3⟩ := h _ h1
    refine ⟨by simpa using h2, ?_⟩
    rw [List.append_assoc, List.singleton_append]; exact h3
theorem grp_up (l : List (UInt8 × (Tx × Nat))) (h : l.Pairwise fun a b => a.1 :: a.2.1 < b.1 :: b.2.1) : (grp l).Pairwise (fun a b => a.1 < b.1) ∧ ∀ q ∈ grp l, q.2.Pairwise fun a b => a.1 < b.1 := by
  induction l with
  | nil => simp [grp]
  | cons a r ih =>
    obtain ⟨ha, hr⟩ := List.pairwise_cons.1 h
    obtain ⟨i1, i2⟩ := ih hr
    rw [grp]
    cases hg : grp r with
    | nil => simp
    | cons q g =>
      rw [hg] at i1 i2
      obtain ⟨j1, j2⟩ := List.pairwise_cons.1 i1
      have hq : ∀ x ∈ q.2, a.1 :: a.2.1 < q.1 :: x.1 := fun x hx => ha _ (grp_mem r q (by rw [hg]; exact List.mem_cons_self) x hx)
      simp only
      by_cases e : a.1 = q.1
      · rw [if_pos e]
        refine ⟨List.pairwise_cons.2 ⟨fun b hb => by rw [e]; exact j1 b hb, j2⟩, fun s hs => ?_⟩
        rcases List.mem_cons.1 hs with rfl | hs
        · refine List.pairwise_cons.2 ⟨fun x hx => ?_, i2 q List.mem_cons_self⟩
          have h1 := hq x hx
          rw [e, List.cons_lt_cons_iff] at h1
          rcases h1 with h1 | h1
          · exact absurd h1 (UInt8.lt_irrefl _)
          · exact h1.2
        · exact i2 s (List.mem_cons_of_mem _ hs)
      · rw [if_neg e]
        have hlt : a.1 < q.1 := by
          obtain ⟨x, hx⟩ := List.exists_mem_of_ne_nil _ (grp_ne r q (by rw [hg]; exact List.mem_cons_self))
          have h1 := hq x hx
          rw [List.cons_lt_cons_iff] at h1
          rcases h1 with h1 | h1
          · exact h1
          · exact absurd h1.1 e
        refine ⟨List.pairwise_cons.2 ⟨fun b hb => ?_, i1⟩, fun s hs => ?_⟩
        · rcases List.mem_cons.1 hb with rfl | hb
          · exact hlt
          · exact UInt8.lt_trans hlt (j1 b hb)
        · rcases List.mem_cons.1 hs with rfl | hs
          · simp
          · exact i2 s hs
theorem up_mk (n : Nat) : ∀ (E : En), (∀ e ∈ E, e.1.length = n ∧ e.2 < 20000) → E.Pairwise (fun a b => a.1 < b.1) → (n = 0 → E ≠ []) → Up n (mkT n E) := by
  induction n with
  | zero =>
    intro E h _ hne
    cases E with
    | nil => exact absurd rfl (hne rfl)
    | cons e E => exact (h e List.mem_cons_self).2
  | succ n ih =>
    intro E h hp _
    have hl : ∀ e ∈ E, e.1.length = n + 1 := fun e he => (h e he).1
    have hpw : (hdE E).Pairwise fun a b => a.1 :: a.2.1 < b.1 :: b.2.1 := by
      unfold hdE
      rw [List.pairwise_map]
      refine hp.imp_of_mem ?_
      intro a b ha hb hab
      have e1 : a.1.headD 0 :: a.1.tail = a.1 := by have := hl a ha; cases h : a.1 with
        | nil => rw [h] at this; simp at this
        | cons => rfl
      have e2 : b.1.headD 0 :: b.1.tail = b.1 := by have := hl b hb; cases h : b.1 with
        | nil => rw [h] at this; simp at this
        | cons => rfl
      show a.1.headD 0 :: a.1.tail < b.1.headD 0 :: b.1.tail
      rw [e1, e2]; exact hab
    obtain ⟨g1, g2⟩ := grp_up _ hpw
    refine ⟨?_, fun q hq => ?_⟩
    · show ((grp (hdE E)).map fun p => (p.1, mkT n p.2)).Pairwise _
      rw [List.pairwise_map]; exact g1
    · obtain ⟨s, hs, rfl⟩ := List.mem_map.1 hq
      refine ⟨ih s.2 (fun e he => ⟨grp_lens hl s hs e he, (h _ (hd_mem hl (grp_mem _ s hs e he))).2⟩) (g2 s hs) (fun _ => grp_ne _ s hs), ?_⟩
      cases n with
      | zero => trivial
      | succ n =>
        intro e
        have h3 : (grp (hdE s.2)).map (fun p => (p.1, mkT n p.2)) = [] := e
        have h4 := grp_flat (hdE s.2)
        rw [List.map_eq_nil_iff.1 h3] at h4
        have h5 := congrArg List.length h4
        rw [hdE_len] at h5
        exact grp_ne _ s hs (List.length_eq_zero_iff.1 h5.symm)
theorem pres_mem (n : Nat) : ∀ (p : Tx) (E : En), (∀ e ∈ E, e.1.length = n) → ∀ z, z ∈ pres n p (mkT n E) ↔ z = p ∨ ∃ e ∈ E, ∃ m, 1 ≤ m ∧ m ≤ n ∧ z = p ++ e.1.take m := by
  induction n with
  | zero =>
    intro p E h z
    simp only [pres, List.mem_singleton]
    exact ⟨fun h => .inl h, fun h => h.elim id fun ⟨_, _, m, h1, h2, _⟩ => by omega⟩
  | succ n ih =>
    intro p E h z
    show z ∈ p :: ((grp (hdE E)).map fun q => (q.1, mkT n q.2)).flatMap (fun q => pres n (p ++ [q.1]) q.2) ↔ _
    rw [List.mem_cons, List.mem_flatMap]
    constructor
    · rintro (hz | ⟨q, hq, hz⟩)
      · exact .inl hz
      · obtain ⟨s, hs, rfl⟩ := List.mem_map.1 hq
        rcases (ih _ s.2 (grp_lens h s hs) z).1 hz with rfl | ⟨e, he, m, h1, h2, rfl⟩
        · obtain ⟨x, hx⟩ := List.exists_mem_of_ne_nil _ (grp_ne _ s hs)
          exact .inr ⟨_, hd_mem h (grp_mem _ s hs x hx), 1, Nat.le_refl _, by omega, by simp⟩
        · exact .inr ⟨_, hd_mem h (grp_mem _ s hs e he), m + 1, by omega, by omega, by simp⟩
    · rintro (hz | ⟨⟨t, x⟩, he, m, h1, h2, rfl⟩)
      · exact .inl hz
      · have hlen := h _ he
        cases t with
        | nil => simp at hlen
        | cons b t =>
          obtain ⟨s, hs, rfl, hx⟩ := mem_grp _ b _ (mem_hd he)
          refine .inr ⟨(s.1, mkT n s.2), List.mem_map.2 ⟨s, hs, rfl⟩, (ih _ s.2 (grp_lens h s hs) _).2 ?_⟩
          cases m with
          | zero => omega
          | succ m =>
            cases m with
            | zero => exact .inl (by simp)
            | succ m => exact .inr ⟨_, hx, m + 1, by omega, by omega, by simp⟩
end Go.Proofs.Ytbmaappambmhoaa
