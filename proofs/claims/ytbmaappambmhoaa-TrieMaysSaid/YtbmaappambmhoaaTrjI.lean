/-
  What may be a trie is a tree's nodes, plain.
  A trie of a trie's sets is that trie, plain.
  Of what is no trie nothing is told.
  base.Ints.
  A list of raw nodes that came in (TrieMays).
  A node with rows of its own is put behind the others.
  TrieMays: the trie that is put together.
  TrieMays: its walk, from the trie that was put together.
-/
import Derived.Test.YtbmaappambmhoaaTriU
import Derived.Test.YtbmaappambmhoaaTrjF
import Derived.Test.YtbmaappambmhoaaTrjG
import Derived.Test.YtbmaappambmhoaaSlC
import Derived.Test.YtbmaappambmhoaaTriP
import Derived.Test.YtbmaappambmhoaaPackO
import Derived.Deep.RegionWith
import Derived.Test.YtbmaappambmhoaaRegT
namespace Go.Proofs.Ytbmaappambmhoaa
open Go.RowKit PK
set_option linter.unusedVariables false

/-- At place i of N stand a tree's nodes: said by what is left there. -/
theorem subN_of {N : List Nd} {i n : Nat} {T : Tr n} {C : List Nd} (h : N.drop i = flat n i T ++ C) (hi : i ≤ N.length) : SubN N i n T :=
  ⟨N.take i, C, by rw [← h, List.take_append_drop], by rw [List.length_take]; omega⟩
theorem subN_drop {N : List Nd} {i n : Nat} {T : Tr n} (h : SubN N i n T) : ∃ C, N.drop i = flat n i T ++ C := by
  obtain ⟨A, C, rfl, rfl⟩ := h
  exact ⟨C, by rw [List.drop_left]⟩
theorem kidsB_conv (N : List Nd) (n : Nat) (sub : Int → Option Int) (hsub : ∀ (s : Nat) (j : Int), sub s = some j → ∃ T : Tr n, SubN N s n T ∧ Up n T ∧ NE n T ∧ j = ((s + tsize n T : Nat) : Int)) (ts : List Int) : ∀ (ks : List Int) (last : Option Int) (s : Nat) (j : Int), ts.length = ks.length → s ≤ N.length → kidsB sub last ts ks s = some j →
    ∃ L : List (UInt8 × Tr n), tokL L = ts ∧ starts (tsize n) s L = ks ∧ L.Pairwise (fun a b => a.1 < b.1) ∧ (∀ l, last = some l → ∀ p ∈ L, l < (p.1.toNat : Int)) ∧ (∀ p ∈ L, Up n p.2 ∧ NE n p.2) ∧ j = ((s + sizes (tsize n) L : Nat) : Int) ∧ ∃ C, N.drop s = flats (flat n) (tsize n) s L ++ C := by
  induction ts with
  | nil =>
    intro ks last s j hl hs h
    cases ks with
    | cons => simp at hl
    | nil =>
      cases last <;> simp only [kidsB, Option.some.injEq] at h <;> subst h <;> exact ⟨[], rfl, rfl, List.Pairwise.nil, (fun _ _ p hp => by cases hp), (fun p hp => by cases hp), by simp [sizes], N.drop s, rfl⟩
  | cons t ts ih =>
    intro ks last s j hl hs h
    cases ks with
    | nil => simp at hl
    | cons k ks =>
      rw [kidsB] at h
      split at h
      · cases h
      · rename_i hc
        simp only [List.head?_cons, ne_eq, Option.some.injEq, not_or, Decidable.not_not] at hc
        obtain ⟨c1, c2, c3, c4⟩ := hc
        cases hsb : sub s with
        | none => rw [hsb] at h; cases h
        | some e =>
          rw [hsb, Option.bind_some] at h
          obtain ⟨T, t1, t2, t3, rfl⟩ := hsub s e hsb
          obtain ⟨C1, hC1⟩ := subN_drop t1
          have hle := sub_le t1
          obtain ⟨L, l1, l2, l3, l4, l5, l6, C, l7⟩ := ih ks (some t) (s + tsize n T) j (by simpa using hl) hle h
          obtain ⟨b, hb⟩ : ∃ b : UInt8, (b.toNat : Int) = t := ⟨UInt8.ofNat t.toNat, by rw [UInt8.toNat_ofNat']; omega⟩
          refine ⟨(b, T) :: L, ?_, ?_, ?_, ?_, ?_, ?_, C, ?_⟩
          · show (b.toNat : Int) :: tokL L = t :: ts
            rw [l1, hb]
          · show (s : Int) :: starts (tsize n) (s + tsize n T) L = k :: ks
            rw [l2, c4]
          · refine List.pairwise_cons.2 ⟨fun p hp => ?_, l3⟩
            have := l4 t rfl p hp
            rw [← hb] at this
            exact UInt8.lt_iff_toNat_lt.2 (by exact_mod_cast this)
          · intro l hl2 p hp
            rcases List.mem_cons.1 hp with rfl | hp
            · show l < (b.toNat : Int)
              rw [hb]
              rcases Int.lt_or_le l t with h5 | h5
              · exact h5
              · exact absurd ⟨l, hl2, h5⟩ c3
            · have h6 := l4 t rfl p hp
              rcases Int.lt_or_le l t with h5 | h5
              · omega
              · exact absurd ⟨l, hl2, h5⟩ c3
          · intro p hp
            rcases List.mem_cons.1 hp with rfl | hp
            · exact ⟨t2, t3⟩
            · exact l5 p hp
          · rw [l6]; simp [sizes, Nat.add_assoc]
          · show N.drop s = (flat n s T ++ flats (flat n) (tsize n) (s + tsize n T) L) ++ C
            rw [List.append_assoc, ← l7, hC1]
            congr 1
            have h8 : N.drop (s + tsize n T) = (N.drop s).drop (tsize n T) := by rw [List.drop_drop]
            rw [h8, hC1, List.drop_left' (flatT_len n s T)]
theorem belowB_conv (N : List Nd) (n : Nat) : ∀ (i : Nat) (root : Bool) (j : Int), belowB N root n i = some j → ∃ T : Tr n, SubN N i n T ∧ Up n T ∧ (root = false → NE n T) ∧ j = ((i + tsize n T : Nat) : Int) := by
  induction n with
  | zero =>
    intro i root j h
    rcases Nat.lt_or_ge i N.length with hi | hi
    · rw [belowB_leaf N root i hi] at h
      split at h
      · rename_i hl
        unfold leafB at hl
        simp only [Bool.and_eq_true, decide_eq_true_eq, beq_iff_eq] at hl
        obtain ⟨⟨⟨h1, h2⟩, h3⟩, h4⟩ := hl
        have e3 : N[i].toks = [] := List.length_eq_zero_iff.1 (by omega)
        have e4 : N[i].kids = [] := List.length_eq_zero_iff.1 (by omega)
        refine ⟨(show Nat from N[i].leaf.toNat), subN_of (C := N.drop (i + 1)) ?_ (by omega), ?_, fun _ => trivial, ?_⟩
        · rw [List.drop_eq_getElem_cons hi]
          show _ = [(⟨((N[i].leaf.toNat : Nat) : Int), [], []⟩ : Nd)] ++ _
          have e5 : N[i] = ⟨((N[i].leaf.toNat : Nat) : Int), [], []⟩ := by
            rw [Int.toNat_of_nonneg h1, ← e3]
            cases hN : N[i] with
            | mk a b c => rw [hN] at e3 e4; simp only at e3 e4; simp [e3, e4]
          rw [← e5]; rfl
        · show N[i].leaf.toNat < 20000
          omega
        · cases h; rfl
      · cases h
    · rw [belowB_out N root 0 i hi] at h; cases h
  | succ n ih =>
    intro i root j h
    rcases Nat.lt_or_ge i N.length with hi | hi
    · rw [belowB_step N root n i hi] at h
      split at h
      · cases h
      · rename_i hc
        simp only [ne_eq, not_or, Decidable.not_not, not_and] at hc
        obtain ⟨c1, c2, c3⟩ := hc
        obtain ⟨L, l1, l2, l3, _, l5, l6, C, l7⟩ := kidsB_conv N n (belowB N false n) (fun s j hs => by
          obtain ⟨T, a, b, c, d⟩ := ih s false j hs
          exact ⟨T, a, b, c rfl, d⟩) N[i].toks N[i].kids none (i + 1) j c2 (by omega) h
        refine ⟨L, subN_of (C := C) ?_ (by omega), ⟨l3, l5⟩, fun hr hL => ?_, ?_⟩
        · rw [List.drop_eq_getElem_cons hi, l7]
          show _ = (⟨-1, tokL L, starts (tsize n) (i + 1) L⟩ :: flats (flat n) (tsize n) (i + 1) L) ++ C
          rw [l1, l2]
          have e5 : N[i] = ⟨-1, N[i].toks, N[i].kids⟩ := by
            rw [← c1]
          rw [← e5]; rfl
        · have hL' : L = [] := hL
          rw [hL'] at l1
          exact c3 l1.symm hr
        · rw [l6]
          show _ = ((i + (1 + sizes (tsize n) L) : Nat) : Int)
          omega
    · rw [belowB_out N root (n + 1) i hi] at h; cases h
/-- What may be a trie is a tree's nodes. -/
theorem may_conv (K : Int) (N : List Nd) (h : mayB18 K N = true) : ∃ (k : Nat) (T : Tr k), K = (k : Int) ∧ 1 ≤ k ∧ k ≤ 4 ∧ N = flat k 0 T ∧ Up k T ∧ tsize k T ≤ 20000 := by
  unfold mayB18 at h
  simp only [Bool.and_eq_true, decide_eq_true_eq] at h
  obtain ⟨⟨⟨h1, h2⟩, h3⟩, h4⟩ := h
  obtain ⟨k, rfl⟩ : ∃ k : Nat, K = (k : Int) := ⟨K.toNat, by omega⟩
  rw [Int.toNat_natCast] at h4
  obtain ⟨T, ⟨A, C, hN, hA⟩, hu, _, hj⟩ := belowB_conv N k 0 true _ h4
  have hA' : A = [] := List.length_eq_zero_iff.1 hA
  subst hA'
  have hlen := congrArg List.length hN
  rw [List.nil_append, List.length_append, flatT_len] at hlen
  have hC : C = [] := List.length_eq_zero_iff.1 (by omega)
  subst hC
  exact ⟨k, T, rfl, by omega, by omega, by simpa using hN, hu, by omega⟩
end Go.Proofs.Ytbmaappambmhoaa
namespace Go.Proofs.Ytbmaappambmhoaa
open Go.RowKit PK
set_option linter.unusedVariables false
set_option linter.unusedSimpArgs false

theorem ents_pre (n : Nat) : ∀ (p : Tx) (T : Tr n), ents n p T = (ents n [] T).map fun e => (p ++ e.1, e.2) := by
  induction n with
  | zero => intro p T; simp [ents]
  | succ n ih =>
    intro p T
    obtain ⟨ks, hks⟩ : ∃ ks : List (UInt8 × Tr n), ks = T := ⟨T, rfl⟩
    subst hks
    show ks.flatMap (fun q => ents n (p ++ [q.1]) q.2) = (ks.flatMap fun q => ents n ([] ++ [q.1]) q.2).map _
    rw [List.map_flatMap]
    congr 1
    funext q
    rw [ih (p ++ [q.1]), ih ([] ++ [q.1]), List.map_map]
    apply List.map_congr_left
    intro e _
    simp
theorem ents_lens (n : Nat) : ∀ (T : Tr n), ∀ e ∈ ents n [] T, e.1.length = n := by
  induction n with
  | zero => intro T e he; simp only [ents, List.mem_singleton] at he; subst he; rfl
  | succ n ih =>
    intro T e he
    obtain ⟨q, _, he⟩ := List.mem_flatMap.1 he
    rw [ents_pre] at he
    obtain ⟨f, hf, rfl⟩ := List.mem_map.1 he
    have := ih q.2 f hf
    simp; omega
theorem ents_ne (n : Nat) : ∀ (T : Tr n), Up n T → NE n T → ents n [] T ≠ [] := by
  induction n with
  | zero => intro T _ _ h; simp [ents] at h
  | succ n ih =>
    intro T hu hne h
    obtain ⟨q, hq⟩ := List.exists_mem_of_ne_nil _ hne
    have h1 := ih q.2 (hu.2 q hq).1 (hu.2 q hq).2
    obtain ⟨e, he⟩ := List.exists_mem_of_ne_nil _ h1
    have h2 : (([] ++ [q.1]) ++ e.1, e.2) ∈ ents (n + 1) [] T := List.mem_flatMap.2 ⟨q, hq, by rw [ents_pre]; exact List.mem_map.2 ⟨e, he, rfl⟩⟩
    rw [h] at h2; cases h2
theorem ents_up (n : Nat) : ∀ (T : Tr n), Up n T → (ents n [] T).Pairwise fun a b => a.1 < b.1 := by
  induction n with
  | zero => intro T _; exact List.pairwise_singleton _ _
  | succ n ih =>
    intro T hu
    show ((show List (UInt8 × Tr n) from T).flatMap fun q => ents n ([] ++ [q.1]) q.2).Pairwise _
    rw [List.pairwise_flatMap]
    refine ⟨fun q hq => ?_, ?_⟩
    · rw [ents_pre, List.pairwise_map]
      refine (ih q.2 (hu.2 q hq).1).imp fun {a b} h => ?_
      exact List.cons_lt_cons_iff.2 (.inr ⟨rfl, h⟩)
    · refine List.Pairwise.imp ?_ hu.1
      intro a b hab x hx y hy
      rw [ents_pre] at hx hy
      obtain ⟨e, _, rfl⟩ := List.mem_map.1 hx
      obtain ⟨f, _, rfl⟩ := List.mem_map.1 hy
      exact List.cons_lt_cons_iff.2 (.inl hab)
theorem grp_flatMap {X Y : Type} (ks : List (UInt8 × X)) (f : X → List Y) (hp : ks.Pairwise fun a b => a.1 < b.1) (hne : ∀ q ∈ ks, f q.2 ≠ []) : grp (ks.flatMap fun q => (f q.2).map fun y => (q.1, y)) = ks.map fun q => (q.1, f q.2) := by
  induction ks with
  | nil => rfl
  | cons q r ih =>
    obtain ⟨h1, h2⟩ := List.pairwise_cons.1 hp
    have h3 := ih h2 fun x hx => hne x (List.mem_cons_of_mem _ hx)
    rw [List.flatMap_cons, grp_run q.1 _ _ (by simpa using hne q List.mem_cons_self) (by intro p hp; obtain ⟨y, _, rfl⟩ := List.mem_map.1 hp; rfl) (fun p hp => by
      have hm := List.mem_of_head? hp
      obtain ⟨x, hx, hm⟩ := List.mem_flatMap.1 hm
      obtain ⟨y, _, rfl⟩ := List.mem_map.1 hm
      intro e
      have := h1 x hx
      rw [show x.1 = q.1 from e] at this
      exact UInt8.lt_irrefl _ this), h3, List.map_cons, List.map_map]
    simp [Function.comp_def]
theorem mk_ents (n : Nat) : ∀ (T : Tr n), Up n T → mkT n (ents n [] T) = T := by
  induction n with
  | zero => intro T _; rfl
  | succ n ih =>
    intro T hu
    obtain ⟨ks, hks⟩ : ∃ ks : List (UInt8 × Tr n), ks = T := ⟨T, rfl⟩
    subst hks
    have h1 : hdE (ents (n + 1) [] ks) = ks.flatMap fun q => (ents n [] q.2).map fun e => (q.1, e) := by
      show (ks.flatMap fun q => ents n ([] ++ [q.1]) q.2).map _ = _
      rw [List.map_flatMap]
      congr 1
      funext q
      rw [ents_pre, List.map_map]
      apply List.map_congr_left
      intro e _
      simp
    show (grp (hdE (ents (n + 1) [] ks))).map (fun p => (p.1, mkT n p.2)) = ks
    rw [h1, grp_flatMap ks (fun t => ents n [] t) hu.1 (fun q hq => ents_ne n q.2 (hu.2 q hq).1 (hu.2 q hq).2), List.map_map]
    have h2 : ∀ q ∈ ks, ((fun p => (p.1, mkT n p.2)) ∘ fun q : UInt8 × Tr n => (q.1, ents n [] q.2)) q = q := fun q hq => by
      show (q.1, mkT n (ents n [] q.2)) = q
      rw [ih q.2 (hu.2 q hq).1]
    rw [List.map_congr_left h2]
    exact List.map_id' ks
/-- A trie's sets: none of their texts is in two of them, and the trie of them has the same texts. -/
theorem back_math (K : Nat) (E : En) (h1 : 1 ≤ K) (h4 : K ≤ 4) (hl : ∀ e ∈ E, e.1.length = K) (hp : E.Pairwise fun a b => a.1 < b.1) : errI K (addAll [] E) = 0 ∧ entS (addAll [] E) = E := by
  have hat : ∀ i (hi : i < (addAll [] E).length) (t : Tx), t ∈ (addAll [] E)[i] ↔ (t, i) ∈ E := fun i hi t => by
    have h := addAll_at E [] i
    rw [List.getElem?_eq_getElem hi, Option.getD_some] at h
    rw [h]
    simp only [List.getElem?_nil, Option.getD_none, List.nil_append, List.mem_map, List.mem_filter, decide_eq_true_eq]
    constructor
    · rintro ⟨e, ⟨he, rfl⟩, rfl⟩; exact he
    · intro h2; exact ⟨_, ⟨h2, rfl⟩, rfl⟩
  have huniq : ∀ t i j, (t, i) ∈ E → (t, j) ∈ E → i = j := fun t i j h2 h3 => by
    obtain ⟨a, ha, ea⟩ := List.getElem_of_mem h2
    obtain ⟨b, hb, eb⟩ := List.getElem_of_mem h3
    have hpw := List.pairwise_iff_getElem.1 hp
    rcases Nat.lt_trichotomy a b with h5 | h5 | h5
    · have := hpw a b ha hb h5; rw [ea, eb] at this; exact absurd this (tx_irrefl _)
    · subst h5; rw [ea] at eb; exact congrArg Prod.snd eb
    · have := hpw b a hb ha h5; rw [ea, eb] at this; exact absurd this (tx_irrefl _)
  have hge := (addAll_ge E []).2
  have hwh : ∀ e ∈ E, whichI (addAll [] E) e.1 = (e.2 : Nat) := fun e he =>
    whichI_at _ _ e.2 (hge e he) ((hat e.2 (hge e he) e.1).2 he) fun j hj hji hm => by
      have := huniq e.1 j e.2 ((hat j hj e.1).1 hm) he; omega
  have hflat : ∀ t, t ∈ (addAll [] E).flatten ↔ ∃ x, (t, x) ∈ E := fun t => by
    rw [List.mem_flatten]
    constructor
    · rintro ⟨l, hl2, ht⟩
      obtain ⟨i, hi, rfl⟩ := List.getElem_of_mem hl2
      exact ⟨i, (hat i hi t).1 ht⟩
    · rintro ⟨x, hx⟩
      exact ⟨_, List.getElem_mem (hge _ hx), (hat x (hge _ hx) t).2 hx⟩
  constructor
  · refine errI_ok (by omega) (good_of fun i hi j hj => ?_) fun i hi j hj hji => ?_
    · have := hl _ ((hat i hi _).1 (List.getElem_mem hj))
      exact_mod_cast this
    · rw [List.eq_nil_iff_forall_not_mem]
      intro t ht
      unfold meetL at ht
      rw [toSet_mem, List.mem_filter] at ht
      have := huniq t i j ((hat i hi t).1 ht.1) ((hat j hj t).1 (of_decide_eq_true ht.2))
      omega
  · have hset : toSet (addAll [] E).flatten = E.map (·.1) := set_ext (toSet_set _) (by unfold IsSet; rw [List.pairwise_map]; exact hp) fun t => by
      rw [toSet_mem, hflat, List.mem_map]
      exact ⟨fun ⟨x, hx⟩ => ⟨_, hx, rfl⟩, fun ⟨e, he, h⟩ => ⟨e.2, by rw [← h]; exact he⟩⟩
    unfold entS
    rw [hset, List.map_map]
    have h6 : ∀ e ∈ E, ((fun t => (t, (whichI (addAll [] E) t).toNat)) ∘ fun e : Tx × Nat => e.1) e = e := fun e he => by
      show (e.1, (whichI (addAll [] E) e.1).toNat) = e
      rw [hwh e he, Int.toNat_natCast]
    rw [List.map_congr_left h6]
    exact List.map_id' E
end Go.Proofs.Ytbmaappambmhoaa
namespace Go.Proofs.Ytbmaappambmhoaa
open Go.RowKit PK
set_option linter.unusedVariables false
set_option linter.unusedSimpArgs false

set_option maxHeartbeats 2000000 in
set_option maxRecDepth 100000 in
theorem sets_not (K : Int) (v : Value) (N : List Nd) (B : Nat) (w : World) (hB : B ≤ w.heap.size) (r : NR w B v N) (hN : N.length ≤ 20000) (hmay : mayB18 K N = false) : Calls Try.prog 35 #[.agg #[.int .i64 K, v]] w (SetsPost w []) := by
  obtain ⟨ao, c, rfl, hc1, hc2⟩ := r.val
  have hb := (Below.refl w.heap.size w).alloc (Nat.le_refl _) (.cells #[.int .i64 K, .slice ao N.length c] 41)
  have hm := triMay_any (.slice ao N.length c) N K B (w.alloc (.cells #[.int .i64 K, .slice ao N.length c] 41)) (Nat.le_trans hB hb.size) (r.below (hb.mono hB)) hN
  rw [hmay] at hm
  have Hm := Lib.hid hm; have Hb := Lib.hid hb
  clear hm hb r hc1 hc2 hN hB hmay
  go_enter Try.func35, Try.ntmps35
  go_wp2_with fail
  refine (Hm.out).mono ?_
  rintro e w2 ⟨rfl, b2⟩
  have Hb2 := Lib.hid (Hb.out.trans (b2.mono Hb.out.size))
  clear b2
  go_wp2_with fail
  go_ret
  exact ⟨_, rfl, rr_nil _ _, Hb2.out⟩
set_option maxHeartbeats 2000000 in
set_option maxRecDepth 100000 in
theorem heads_not (K : Int) (v : Value) (N : List Nd) (B : Nat) (w : World) (hB : B ≤ w.heap.size) (r : NR w B v N) (hN : N.length ≤ 20000) (hmay : mayB18 K N = false) : Calls Try.prog 36 #[.agg #[.int .i64 K, v]] w (OwnI w []) := by
  obtain ⟨ao, c, rfl, hc1, hc2⟩ := r.val
  have hb := (Below.refl w.heap.size w).alloc (Nat.le_refl _) (.cells #[.int .i64 K, .slice ao N.length c] 41)
  have hm := triMay_any (.slice ao N.length c) N K B (w.alloc (.cells #[.int .i64 K, .slice ao N.length c] 41)) (Nat.le_trans hB hb.size) (r.below (hb.mono hB)) hN
  rw [hmay] at hm
  have Hm := Lib.hid hm; have Hb := Lib.hid hb
  clear hm hb r hc1 hc2 hN hB hmay
  go_enter Try.func36, Try.ntmps36
  go_wp2_with fail
  refine (Hm.out).mono ?_
  rintro e w2 ⟨rfl, b2⟩
  have Hb2 := Lib.hid (Hb.out.trans (b2.mono Hb.out.size))
  clear b2
  go_wp2_with fail
  go_ret
  exact ⟨_, rfl, World.ownsRow_nil _ _ _ _, Hb2.out⟩
set_option maxHeartbeats 2000000 in
set_option maxRecDepth 100000 in
theorem choose_not (K : Int) (v : Value) (N : List Nd) (s : Tx) (B : Nat) (w : World) (hB : B ≤ w.heap.size) (r : NR w B v N) (hN : N.length ≤ 20000) (hmay : mayB18 K N = false) (hs : s.length ≤ maxLen) : Calls Try.prog 34 #[.agg #[.int .i64 K, v], .string ⟨s.toArray⟩] w fun e w' => e = .returned (.int .i64 (-1)) ∧ Below w.heap.size w w' := by
  obtain ⟨ao, c, rfl, hc1, hc2⟩ := r.val
  have hb := (Below.refl w.heap.size w).alloc (Nat.le_refl _) (.cells #[.int .i64 K, .slice ao N.length c] 41)
  have hm := triMay_any (.slice ao N.length c) N K B (w.alloc (.cells #[.int .i64 K, .slice ao N.length c] 41)) (Nat.le_trans hB hb.size) (r.below (hb.mono hB)) hN
  rw [hmay] at hm
  have Hm := Lib.hid hm; have Hb := Lib.hid hb
  have hss := tx_size s
  unfold maxLen at hs
  generalize (⟨s.toArray⟩ : ByteArray) = sb at *
  rw [← hss] at hs
  clear hm hb hss r hc1 hc2 hN hB hmay
  by_cases h0 : (sb.size : Int) = K
  · subst h0
    go_enter Try.func34, Try.ntmps34
    go_wp2_with fail
    refine (Hm.out).mono ?_
    rintro e w2 ⟨rfl, b2⟩
    have Hb2 := Lib.hid (Hb.out.trans (b2.mono Hb.out.size))
    clear b2
    go_wp2_with fail
    go_ret
    exact ⟨rfl, Hb2.out⟩
  · have hne : ((sb.size : Int) == K) = false := by rw [beq_eq_false_iff_ne]; exact h0
    go_enter Try.func34, Try.ntmps34
    go_wp2_with fail
    go_ret
    exact ⟨rfl, Hb.out⟩
end Go.Proofs.Ytbmaappambmhoaa
namespace Go.Proofs.Ytbmaappambmhoaa
open Go.RowKit PK
set_option linter.unusedVariables false
set_option linter.unusedSimpArgs false
attribute [local go_sem ↓] append_appM

set_option maxHeartbeats 1000000 in
set_option maxRecDepth 100000 in
theorem baseInts_any (v : Value) (l : List Int) (B : Nat) (w : World) (hB : B ≤ w.heap.size) (r : Row w B 1 v l.length (ints l)) (hl : l.length ≤ 100000) :
    Calls Try.prog 38 #[v] w (OwnI w l) := by
  obtain ⟨ao, c, rfl, hc1, hc2⟩ := r.val
  obtain ⟨i0, hi, hz0, hz1, hz2⟩ := info_parts info_intT
  have hbel := (Below.refl w.heap.size w).alloc (Nat.le_refl _) (.cells #[] 3)
  have hown0 := World.ownsRow_made (base := w.heap.size) (e := 3) (size := 1) w #[] 0 (Nat.le_refl _) (Nat.zero_le _) rfl
  obtain ⟨v', w', e1, e2, e3, e4⟩ := run_append_row (P := Try.prog) (w.alloc (.cells #[] 3)) 33 33 w.heap.size 3 i0 (.int .i64 0) 1 8 Try.underlying33 hi hz0 hz1 hz2 rfl (by decide) _ 0 [] hown0 B (.slice ao l.length c) l.length (ints l) (r.below (hbel.mono hB)) (ints_oneT l) (by unfold maxLen; omega) (by omega) hbel.size
  have happ := (show Sem.run Try.prog (appM _ _ _) _ = _ from e1)
  have HB := Lib.hid (hbel.grown e3 hbel.size (fun g hg => (hown0.lt g hg).1))
  have Ho : Hid (w'.ownsRow w.heap.size 3 1 v' l.length (ints l)) := Lib.hid (by simpa using e2)
  clear e1 e2 e3 e4 hown0 hbel r hi hz0 hz1 hz2 hc1 hc2
  go_enter Try.func38, Try.ntmps38
  go_wp2_with fail
  go_ret
  exact ⟨_, rfl, Ho.out, HB.out⟩

end Go.Proofs.Ytbmaappambmhoaa
namespace Go.Proofs.Ytbmaappambmhoaa
open Go.RowKit PK
set_option linter.unusedVariables false
set_option linter.unusedSimpArgs false

section
variable {H : Type} {enc : TypeId × Value → H} {w : World} {base : Nat} {spare : Nat → Bool} {held : Bool}
def I64l (l : List Int) : Prop := ∀ n ∈ l, -9223372036854775808 ≤ n ∧ n ≤ 9223372036854775807
set_option maxRecDepth 100000 in
theorem raw_of {n : Nat} {c : List Value} {y : DataW H × List MemPlace} (h : DataW.trod enc Try.prog w base spare held n 57 c = some y) (hl : c.length = 3) :
    ∃ (x : Nd) (tv kv : Value), c = [.int .i64 x.leaf, tv, kv] ∧ Row w w.heap.size 1 tv x.toks.length (ints x.toks) ∧ Row w w.heap.size 1 kv x.kids.length (ints x.kids) ∧ (-9223372036854775808 ≤ x.leaf ∧ x.leaf ≤ 9223372036854775807) ∧ I64l x.toks ∧ I64l x.kids := by
  obtain ⟨xs, n', _, _, _, hx, hf⟩ := DataW.trod_struct Try.underlying57 h
  match c, hl with
  | [c0, c1, c2], _ =>
    have h0 := hf 0 _ rfl; have h1 := hf 1 _ rfl; have h2 := hf 2 _ rfl
    obtain ⟨y0, e0⟩ : ∃ y, xs[0]? = some y := ⟨_, List.getElem?_eq_getElem (by rw [hx]; decide)⟩; rw [e0] at h0
    obtain ⟨y1, e1⟩ : ∃ y, xs[1]? = some y := ⟨_, List.getElem?_eq_getElem (by rw [hx]; decide)⟩; rw [e1] at h1
    obtain ⟨y2, e2⟩ : ∃ y, xs[2]? = some y := ⟨_, List.getElem?_eq_getElem (by rw [hx]; decide)⟩; rw [e2] at h2
    have h0' : DataW.trod enc Try.prog w base spare held n' 3 [c0] = some y0 := h0
    have h1' : DataW.trod enc Try.prog w base spare held n' 33 [c1] = some y1 := h1
    have h2' : DataW.trod enc Try.prog w base spare held n' 33 [c2] = some y2 := h2
    obtain ⟨d, hd, _, wd⟩ := DataW.trod_int Try.underlying3 h0'
    simp only [List.cons.injEq, and_true] at hd
    subst hd
    have hok : ∀ (cc : Value) (yy : DataW H × List MemPlace), DataW.trod enc Try.prog w base spare held n' 33 [cc] = some yy → ∃ l : List Int, Row w w.heap.size 1 cc l.length (ints l) ∧ I64l l := fun cc yy hh => by
      have hk : ∃ a len cap, cc = .slice a len cap := by
        rcases DataW.trod_slice Try.underlying33 hh with ⟨hc, _⟩ | ⟨a, len, cap, _, _, _, _, hc, _⟩
        · simp only [List.cons.injEq, and_true] at hc; exact ⟨_, _, _, hc⟩
        · simp only [List.cons.injEq, and_true] at hc; exact ⟨_, _, _, hc⟩
      obtain ⟨l, hr, hw⟩ := Row.of_ints (v := cc) Try.underlying33 Try.underlying3 (by kernel_rfl) hk ⟨n', by obtain ⟨a, len, cap, rfl⟩ := hk; exact hh⟩
      exact ⟨l, hr, fun m hm => i64_of_wfT (hw m hm)⟩
    obtain ⟨l1, r1, i1⟩ := hok c1 y1 h1'
    obtain ⟨l2, r2, i2⟩ := hok c2 y2 h2'
    exact ⟨⟨d, l1, l2⟩, c1, c2, rfl, r1, r2, i64_of_wfT wd, i1, i2⟩
end
theorem rawBuild (w : World) : ∀ xs : List (List Value), (∀ c ∈ xs, c.length = 3 ∧ ∃ (x : Nd) (tv kv : Value), c = [.int .i64 x.leaf, tv, kv] ∧ Row w w.heap.size 1 tv x.toks.length (ints x.toks) ∧ Row w w.heap.size 1 kv x.kids.length (ints x.kids) ∧ (-9223372036854775808 ≤ x.leaf ∧ x.leaf ≤ 9223372036854775807) ∧ I64l x.toks ∧ I64l x.kids) →
    ∃ N : List Nd, N.length = xs.length ∧ (∀ i (hi : i < N.length), ∃ t k, xs[i]? = some [.int .i64 N[i].leaf, t, k] ∧ Row w w.heap.size 1 t N[i].toks.length (ints N[i].toks) ∧ Row w w.heap.size 1 k N[i].kids.length (ints N[i].kids)) ∧ ∀ x ∈ N, (-9223372036854775808 ≤ x.leaf ∧ x.leaf ≤ 9223372036854775807) ∧ I64l x.toks ∧ I64l x.kids := by
  intro xs
  induction xs with
  | nil => intro _; exact ⟨[], rfl, (fun i hi => by simp at hi), (fun x hx => by cases hx)⟩
  | cons c r ih =>
    intro h
    obtain ⟨N, h1, h2, h3⟩ := ih fun d hd => h d (List.mem_cons_of_mem _ hd)
    obtain ⟨_, x, tv, kv, rfl, q1, q2, q3, q4, q5⟩ := h c List.mem_cons_self
    refine ⟨x :: N, by simp [h1], fun i hi => ?_, fun z hz => ?_⟩
    · cases i with
      | zero => exact ⟨tv, kv, by simp, q1, q2⟩
      | succ i =>
        obtain ⟨t, k, a, b, c⟩ := h2 i (by simpa using hi)
        exact ⟨t, k, by simpa using a, by simpa using b, by simpa using c⟩
    · rcases List.mem_cons.1 hz with rfl | hz
      · exact ⟨q3, q4, q5⟩
      · exact h3 z hz
set_option maxRecDepth 100000 in
/-- A []Raw argument: as nodes. -/
theorem rawOf {H : Type} {enc : TypeId × Value → H} {w : World} {base : Nat} {spare : Nat → Bool} {held : Bool} {v : Value} {d : DataW H} {p : List MemPlace}
    (hok : ∃ a len cap, v = .slice a len cap) (h : DataW.Trod enc Try.prog w base spare held 55 v d p) :
    ∃ N : List Nd, NR w w.heap.size v N ∧ ∀ x ∈ N, (-9223372036854775808 ≤ x.leaf ∧ x.leaf ≤ 9223372036854775807) ∧ I64l x.toks ∧ I64l x.kids := by
  obtain ⟨xs, hrow, hel⟩ := rowOfElems Try.underlying55 (size := 3) (by kernel_rfl) (by decide) hok h
  obtain ⟨N, h1, h2, h3⟩ := rawBuild w xs fun c hc => by
    obtain ⟨hl, n, y, hf⟩ := hel c hc
    obtain ⟨x, tv, kv, q⟩ := raw_of hf hl
    exact ⟨hl, x, tv, kv, q⟩
  exact ⟨N, ⟨xs, by rw [h1]; exact hrow, h1.symm, fun c hc => (hel c hc).1, h2⟩, h3⟩
end Go.Proofs.Ytbmaappambmhoaa
namespace Go.Proofs.Ytbmaappambmhoaa
open Go.RowKit PK
set_option linter.unusedVariables false
set_option linter.unusedSimpArgs false

theorem Nds.grow2 {w w2 : World} {B : Nat} {vo v' : Value} {X : List Cn} (h : Nds w B vo X) (o : Obj) (hg : (w.alloc o).grownBy w2 vo.ownBlock) (x : Cn) (h1 : w.ownsRow B 3 1 x.tv x.toks.length (ints x.toks)) (h2 : w.ownsRow B 3 1 x.kv x.kids.length (ints x.kids))
    (hap : Apart ((vo :: blkN X) ++ [x.tv, x.kv])) (hown : w2.ownsRow B 59 3 v' (X.length + 1) (outN (X ++ [x]))) (hat : v'.ownBlock = vo.ownBlock ∨ v'.ownBlock = some (w.heap.size + 1)) : Nds w2 B v' (X ++ [x]) := by
  have hlt : ∀ u ∈ (vo :: blkN X) ++ [x.tv, x.kv], ∀ k, u.ownBlock = some k → k < w.heap.size := fun u hu k hk => by
    rcases List.mem_append.1 hu with hu | hu
    · exact (h.lt hu hk).2
    · simp only [List.mem_cons, List.not_mem_nil, or_false] at hu
      rcases hu with rfl | rfl
      · exact (h1.lt k hk).2
      · exact (h2.lt k hk).2
  have hpw : ∀ u ∈ blkN X ++ [x.tv, x.kv], vo.ownBlock = none ∨ vo.ownBlock ≠ u.ownBlock := (List.pairwise_cons.1 (show Apart (vo :: (blkN X ++ [x.tv, x.kv])) from hap)).1
  have hsame : ∀ u ∈ blkN X ++ [x.tv, x.kv], ∀ k, u.ownBlock = some k → w2.heap[k]? = w.heap[k]? := fun u hu k hk => by
    have hl := hlt u (List.mem_cons_of_mem _ hu) k hk
    rw [hg.block k (by simp; omega) (fun e => ?_), Below.heap_alloc _ _ _ hl]
    rcases apart_symm (hpw u hu) with h3 | h3
    · rw [hk] at h3; cases h3
    · rw [hk] at h3; exact h3 e
  refine ⟨by rw [List.length_append]; exact hown, fun y hy => ?_, ?_⟩
  · rcases List.mem_append.1 hy with hy | hy
    · have := h.each y hy
      exact ⟨owns_blockN this.1 fun k e => hsame _ (List.mem_append_left _ ((blkN_mem X _).2 ⟨y, hy, .inl rfl⟩)) k e, owns_blockN this.2 fun k e => hsame _ (List.mem_append_left _ ((blkN_mem X _).2 ⟨y, hy, .inr rfl⟩)) k e⟩
    · simp only [List.mem_singleton] at hy
      subst hy
      exact ⟨owns_blockN h1 fun k e => hsame _ (List.mem_append_right _ (by simp)) k e, owns_blockN h2 fun k e => hsame _ (List.mem_append_right _ (by simp)) k e⟩
  · have h3 : Apart (((vo :: blkN X) ++ [x.tv, x.kv]).set 0 v') := apart_set hap 0 vo v' (w.heap.size + 1) rfl (fun u hu j hj => by have := hlt u hu j hj; omega) hat
    rw [List.cons_append, List.set_cons_zero] at h3
    rw [blkN_snoc]; exact h3
/-- Two new rows are apart from all that is older, and from each other. -/
theorem apart_two {w : World} {B B1 B2 : Nat} {vo a b : Value} {X : List Cn} (h : Nds w B vo X) (ha : ∀ k, a.ownBlock = some k → w.heap.size ≤ k ∧ k < B1) (hb : ∀ k, b.ownBlock = some k → B1 ≤ k) (hw : w.heap.size ≤ B1) : Apart ((vo :: blkN X) ++ [a, b]) := by
  unfold Apart
  rw [List.pairwise_append]
  refine ⟨h.apart, ?_, fun x hx y hy => ?_⟩
  · refine List.pairwise_cons.2 ⟨fun y hy => ?_, List.pairwise_singleton _ _⟩
    rw [List.mem_singleton.1 hy]
    cases e : a.ownBlock with
    | none => exact .inl rfl
    | some k => right; intro e2; have := (ha k e).2; have := hb k e2.symm; omega
  · cases e : x.ownBlock with
    | none => exact .inl rfl
    | some k =>
      right; intro e2
      have h1 := (h.lt hx e).2
      simp only [List.mem_cons, List.not_mem_nil, or_false] at hy
      rcases hy with rfl | rfl
      · have := (ha k e2.symm).1; omega
      · have := hb k e2.symm; omega
end Go.Proofs.Ytbmaappambmhoaa
namespace Go.Proofs.Ytbmaappambmhoaa
open Go.RowKit PK
set_option linter.unusedVariables false
set_option linter.unusedSimpArgs false

/-- A trie in a variable of its own, its nodes' rows its own. -/
structure TSt (w wr : World) (k : Int) (vo : Value) (X : List Cn) : Prop where
  ptr : wr.heap[w.heap.size]? = some (.cells #[.int .i64 k, vo] 41 (0, 0))
  nds : Nds wr (w.heap.size + 1) vo X
  bel : Below w.heap.size w wr
theorem TSt.made (w : World) (k : Int) : TSt w (w.alloc (.cells #[.int .i64 k, .slice none 0 0] 41)) k (.slice none 0 0) [] :=
  ⟨heap_alloc_new w _, ⟨World.ownsRow_nil _ _ _ _, (fun x hx => by cases hx), List.pairwise_singleton _ _⟩, (Below.refl _ w).alloc (Nat.le_refl _) _⟩
theorem TSt.lt {w a : World} {k : Int} {vo : Value} {X : List Cn} (h : TSt w a k vo X) : w.heap.size < a.heap.size := (Array.getElem?_eq_some_iff.1 h.ptr).1
theorem TSt.keep {w a b : World} {k : Int} {vo : Value} {X : List Cn} (h : TSt w a k vo X) (hb : Below a.heap.size a b) : TSt w b k vo X :=
  ⟨(hb.block _ h.lt).trans h.ptr, h.nds.below hb, h.bel.trans (hb.mono h.bel.size)⟩
theorem TSt.cell {w a : World} {k : Int} {vo : Value} {X : List Cn} (h : TSt w a k vo X) : a.cell? ⟨w.heap.size, 0, none⟩ = some (.int .i64 k) ∧ a.cell? ⟨w.heap.size, 1, none⟩ = some vo := by
  constructor <;> (rw [cell_of_row a w.heap.size _ _ _ (0, 0) h.ptr]; rfl)
theorem TSt.push {w w0 w5 w6 : World} {k : Int} {vo : Value} {X : List Cn} (h : TSt w w0 k vo X) (hl : X.length + 1 ≤ 1000000) (leaf : Int) (tv kv : Value) (toks kids : List Int)
    (o1 : w5.ownsRow w0.heap.size 3 1 tv toks.length (ints toks)) (b1 : Below w0.heap.size w0 w5) (o2 : w6.ownsRow w5.heap.size 3 1 kv kids.length (ints kids)) (b2 : Below w5.heap.size w5 w6) :
    ∃ ao c w7, Sem.run Try.prog (appM #[39, 39] 39 #[vo, .slice (some ⟨w6.heap.size, 0, none⟩) 1 1]) (w6.alloc (.cells #[.int .i64 leaf, tv, kv] 59)) = .ok (.slice ao (X.length + 1) c) w7 ∧
      w7.cell? ⟨w.heap.size, 1, none⟩ = some vo ∧ w7.frozen? ⟨w.heap.size, 1, none⟩ = false ∧ w.heap.size < w7.heap.size ∧ Below w.heap.size w w7 ∧
      TSt w (w7.setCell ⟨w.heap.size, 1, none⟩ (.slice ao (X.length + 1) c)) k (.slice ao (X.length + 1) c) (X ++ [⟨leaf, tv, kv, toks, kids⟩]) := by
  have h6 : TSt w w6 k vo X := h.keep (b1.trans (b2.mono b1.size))
  have hlt := h.lt
  have o1' := owns_baseP (owns_belowP o1 b2) (show w.heap.size + 1 ≤ _ by omega)
  have o2' := owns_baseP o2 (show w.heap.size + 1 ≤ _ by have := b1.size; omega)
  have hap := apart_two (B1 := w5.heap.size) (B2 := 0) (a := tv) (b := kv) h.nds (fun j hj => o1.lt j hj) (fun j hj => (o2.lt j hj).1) b1.size
  obtain ⟨i0, hi, hz0, hz1, hz2⟩ := info_parts info_node
  have hone : ∀ u ∈ [Value.int .i64 leaf, tv, kv], u.oneCell' = true := by
    obtain ⟨_, _, rfl, _, _⟩ := owns_valP o1
    obtain ⟨_, _, rfl, _, _⟩ := owns_valP o2
    intro u hu; simp only [List.mem_cons, List.not_mem_nil, or_false] at hu; rcases hu with rfl | rfl | rfl <;> rfl
  have rt : Row (w6.alloc (.cells #[.int .i64 leaf, tv, kv] 59)) (w6.heap.size + 1) 3 (.slice (some ⟨w6.heap.size, 0, none⟩) 1 1) 1 [.int .i64 leaf, tv, kv] := row_cellsB w6 [.int .i64 leaf, tv, kv] 3 1 1 _ rfl (Nat.le_refl _) (by unfold maxLen; omega)
  obtain ⟨v', w7, h1, h2, h3, h4⟩ := run_append_row (P := Try.prog) (w6.alloc (.cells #[.int .i64 leaf, tv, kv] 59)) 39 39 (w.heap.size + 1) 59 i0 (.agg #[.int .i64 0, .slice none 0 0, .slice none 0 0]) 3 56 Try.underlying39 hi hz0 hz1 hz2 rfl (by decide) vo X.length (outN X) (h6.nds.out.alloc _) (w6.heap.size + 1) _ 1 [.int .i64 leaf, tv, kv] rt hone (by unfold maxLen; omega) (by omega) (by have := h6.lt; simp; omega)
  obtain ⟨ao, c, rfl, hc1, hc2⟩ := owns_valP h2
  rw [World.size_alloc] at h4
  have h6l := h6.lt
  have hg0 : w7.heap[w.heap.size]? = w6.heap[w.heap.size]? := by
    rw [h3.block w.heap.size (by simp; omega) (fun e => ?_), Below.heap_alloc _ _ _ h6l]
    have := (h6.nds.out.lt w.heap.size e.symm).1; omega
  have hptr := hg0.trans h6.ptr
  have hs3 := h3.size
  rw [World.size_alloc] at hs3
  have hnds := h6.nds.grow2 _ h3 ⟨leaf, tv, kv, toks, kids⟩ o1' o2' hap (by rw [outN_snoc]; exact h2) h4
  have hb7 : Below w.heap.size w w7 := (h6.bel.alloc h6.bel.size _).grown h3 (by simp; omega) (fun j hj => by have := (h6.nds.out.lt j hj).1; omega)
  refine ⟨ao, c, w7, h1, by rw [cell_of_row w7 w.heap.size _ _ _ (0, 0) hptr]; rfl, by simp [World.frozen?, hptr], by omega, hb7, ptr_set hptr 1 _, ?_, hb7.setCell (p := ⟨w.heap.size, 1, none⟩) (Nat.le_refl _) _⟩
  refine hnds.keep fun j ⟨u, hu, hj⟩ => Below.heap_setCell _ _ _ _ fun e => ?_
  have e' : j = w.heap.size := e
  have := (hnds.lt hu hj).1; omega
/-- A node's rows cut short. -/
def cutNd (x : Nd) : Nd := ⟨x.leaf, x.toks.take 20, x.kids.take 20⟩
def cutN (N : List Nd) : List Nd := (N.take 40).map cutNd
theorem cutN_succ (N : List Nd) (i : Nat) (h : i < N.length) : (N.take (i + 1)).map cutNd = (N.take i).map cutNd ++ [cutNd N[i]] := by
  rw [List.take_succ_eq_append_getElem h, List.map_append]; rfl
end Go.Proofs.Ytbmaappambmhoaa
namespace Go.Proofs.Ytbmaappambmhoaa
open Go.RowKit PK
set_option linter.unusedVariables false
set_option linter.unusedSimpArgs false
attribute [local go_sem ↓] append_appM

theorem ints_take (l : List Int) (k : Nat) : (ints l).take (k * 1) = ints (l.take k) := by simp [ints, List.map_take]
theorem flat_len1 (K : Nat) (T : Tr K) : 1 ≤ (flat K 0 T).length := by
  cases K with
  | zero => exact Nat.le_refl _
  | succ n => show 1 ≤ (_ :: _ : List Nd).length; simp
theorem ents_le (n : Nat) : ∀ (p : Tx) (T : Tr n), (ents n p T).length ≤ tsize n T := by
  induction n with
  | zero => intro p T; exact Nat.le_refl _
  | succ n ih =>
    intro p T
    obtain ⟨ks, hks⟩ : ∃ ks : List (UInt8 × Tr n), ks = T := ⟨T, rfl⟩
    subst hks
    show (ks.flatMap fun q => ents n (p ++ [q.1]) q.2).length ≤ 1 + sizes (tsize n) ks
    have : ∀ L : List (UInt8 × Tr n), (L.flatMap fun q => ents n (p ++ [q.1]) q.2).length ≤ sizes (tsize n) L := by
      intro L
      induction L with
      | nil => exact Nat.le_refl _
      | cons q r ih2 =>
        rw [List.flatMap_cons, List.length_append]
        have := ih (p ++ [q.1]) q.2
        show _ ≤ tsize n q.2 + sizes (tsize n) r
        omega
    have := this ks
    omega
/-- What holds of the sets of a trie of at most 40 nodes. -/
theorem sets_lim (K : Nat) (T : Tr K) (h4 : K ≤ 4) (hn : tsize K T ≤ 40) :
    (∀ l ∈ addAll [] (ents K [] T), l.length ≤ 50) ∧ (∀ l ∈ addAll [] (ents K [] T), ∀ x ∈ l, x.length ≤ 1000) := by
  have hat : ∀ i (hi : i < (addAll [] (ents K [] T)).length), (addAll [] (ents K [] T))[i] = ((ents K [] T).filter fun e => decide (e.2 = i)).map (·.1) := fun i hi => by
    have h := addAll_at (ents K [] T) [] i
    rw [List.getElem?_eq_getElem hi, Option.getD_some] at h
    rw [h]; simp
  have hE := ents_le K [] T
  refine ⟨fun l hl => ?_, fun l hl x hx => ?_⟩
  · obtain ⟨i, hi, rfl⟩ := List.getElem_of_mem hl
    rw [hat i hi, List.length_map]
    have := List.length_filter_le (fun e : Tx × Nat => decide (e.2 = i)) (ents K [] T)
    omega
  · obtain ⟨i, hi, rfl⟩ := List.getElem_of_mem hl
    rw [hat i hi] at hx
    obtain ⟨e, he, rfl⟩ := List.mem_map.1 hx
    have := ents_lens K T e (List.mem_filter.1 he).1
    omega
theorem modify_flat (a : Tx) : ∀ (L : List (List Tx)) (i : Nat), i < L.length → (L.modify i (· ++ [a])).flatten.length = L.flatten.length + 1 := by
  intro L
  induction L with
  | nil => intro i h; simp at h
  | cons l r ih =>
    intro i h
    cases i with
    | zero => simp; omega
    | succ i =>
      have := ih i (by simpa using h)
      simp only [List.modify_succ_cons, List.flatten_cons, List.length_append] at this ⊢
      omega
theorem addE_flat (C : List (List Tx)) (e : Tx × Nat) : (addE C e).flatten.length = C.flatten.length + 1 := by
  unfold addE
  rw [modify_flat e.1 _ _ (by rw [extE_len]; omega)]
  have : (extE C e.2).flatten = C.flatten := by unfold extE; simp
  rw [this]
theorem addAll_flat (E : List (Tx × Nat)) : ∀ C : List (List Tx), (addAll C E).flatten.length = C.flatten.length + E.length := by
  induction E with
  | nil => intro C; simp [addAll]
  | cons e E ih =>
    intro C
    have h1 : addAll C (e :: E) = addAll (addE C e) E := rfl
    rw [h1, ih, addE_flat, List.length_cons]; omega
/-- A trie that may be, at most 40 nodes: its sets make it again. -/
theorem mays_math (K : Nat) (T : Tr K) (h1 : 1 ≤ K) (h4 : K ≤ 4) (hu : Up K T) (s : Tx) :
    errI K (addAll [] (ents K [] T)) = 0 ∧ mkT K (entS (addAll [] (ents K [] T))) = T ∧ chooseI K T s = whichI (addAll [] (ents K [] T)) s := by
  obtain ⟨b1, b2⟩ := back_math K (ents K [] T) h1 h4 (ents_lens K T) (ents_up K T hu)
  have b3 : mkT K (entS (addAll [] (ents K [] T))) = T := by rw [b2]; exact mk_ents K T hu
  obtain ⟨K', hK, _, _, hbad⟩ := errI_zero b1
  have e : K' = K := by omega
  subst e
  have b4 := (sets_math K' _ h1 hbad b1 s).1
  rw [b3] at b4
  exact ⟨b1, b3, b4⟩
theorem same_self (v1 v2 : Value) (a : List Int) (B1 B2 : Nat) (w : World) (hB1 : B1 ≤ w.heap.size) (hB2 : B2 ≤ w.heap.size) (r1 : Row w B1 1 v1 a.length (ints a)) (r2 : Row w B2 1 v2 a.length (ints a)) :
    Calls Try.prog 24 #[v1, v2] w (BoolB w true) := by
  have h := sameInts_any v1 v2 a a B1 B2 w hB1 hB2 r1 r2
  rw [decide_eq_true (rfl : a = a)] at h
  exact h

set_option maxHeartbeats 4000000 in
set_option maxRecDepth 100000 in
theorem trieMays_walk (k : Int) (v : Value) (N : List Nd) (s : Tx) (w : World) (r : NR w w.heap.size v N) (hk : -9223372036854775808 ≤ k ∧ k ≤ 9223372036854775807) (hx : ∀ x ∈ N, -9223372036854775808 ≤ x.leaf ∧ x.leaf ≤ 9223372036854775807) (hs : s.length ≤ maxLen) :
    Calls Try.prog 8 #[.int .i64 k, v, .string ⟨s.toArray⟩] w (BoolB w true) := by
  obtain ⟨ao, c, rfl, hc1, hc2⟩ := r.val
  have Hss := Lib.hid hs
  obtain ⟨sb, hsb⟩ : ∃ sb : ByteArray, sb = ⟨s.toArray⟩ := ⟨_, rfl⟩
  rw [← hsb]
  have Hsb := Lib.hid hsb
  have R := Lib.hid r
  have Hx := Lib.hid hx
  obtain ⟨nl, hnl⟩ : ∃ nl, nl = N.length := ⟨_, rfl⟩
  have Hnl := Lib.hid hnl
  rw [← hnl] at R hc1 ⊢
  unfold maxLen at hc2
  have hnl63 : nl ≤ 9223372036854775807 := by omega
  have HS0 := Lib.hid (TSt.made w k)
  have Hk := Lib.hid hk
  clear r hs hsb hnl hx hc1 hc2 hk
  go_enter Try.func8, Try.ntmps8
  go_wp2_with fail
  go_loopw [8] (fun iv wr => ∃ (i : Nat) (vo : Value) (X : List Cn), i ≤ nl ∧ i ≤ 40 ∧ iv = .int .i64 i ∧ Hid (X.length = i) ∧ Hid (ndsOf X = (N.take i).map cutNd) ∧ Hid (TSt w wr k vo X)) (fun iv _ => nl - (intOf iv).toNat)
  case atStart => exact ⟨0, _, [], Nat.zero_le _, Nat.zero_le _, rfl, Lib.hid rfl, Lib.hid rfl, HS0⟩
  case round =>
    obtain ⟨i, vo, X, hi, hi40, rfl, HX, HN, HS⟩ := hrel
    obtain ⟨vc, d, rfl, hd1, hd2⟩ := owns_valP HS.out.nds.out
    rw [HX.out] at HS
    clear hd1 hd2 HS0
    by_cases hlt : i < nl ∧ i < 40
    · obtain ⟨hlt, h40⟩ := hlt
      have hlt' : i < N.length := by have := Hnl.out; omega
      obtain ⟨b, off, a1, c1, a2, c2, hao, hb, e0, e1, e2, rk1, rk2, k1, k2, k3, k4⟩ := R.out.get i hlt'
      subst hao
      have Hst := Lib.hid (cutN_succ N i hlt')
      have Hlf := Lib.hid (Hx.out _ (List.getElem_mem hlt'))
      generalize N[i] = x at *
      obtain ⟨cc0, cc1⟩ := HS.out.cell
      have hl1 : (x.toks.take 20).length = min x.toks.length 20 := by rw [List.length_take, Nat.min_comm]
      have hl2 : (x.kids.take 20).length = min x.kids.length 20 := by rw [List.length_take, Nat.min_comm]
      have r1 := rk1.take (x.toks.take 20).length (by omega)
      have r2 := rk2.take (x.kids.take 20).length (by omega)
      have er1 : (ints x.toks).take ((x.toks.take 20).length * 1) = ints (x.toks.take 20) := by
        rw [ints_take, hl1, Nat.min_comm, ← List.take_take, List.take_length]
      have er2 : (ints x.kids).take ((x.kids.take 20).length * 1) = ints (x.kids.take 20) := by
        rw [ints_take, hl2, Nat.min_comm, ← List.take_take, List.take_length]
      rw [er1] at r1
      rw [er2] at r2
      have Hcut : Hid (cutNd x = ⟨x.leaf, x.toks.take 20, x.kids.take 20⟩) := Lib.hid rfl
      have m1 : min (x.toks.length : Int) 20 = ((x.toks.take 20).length : Int) := by omega
      have m2 : min (x.kids.length : Int) 20 = ((x.kids.take 20).length : Int) := by omega
      have m3 : (x.toks.take 20).length ≤ 20 := by omega
      have m4 : (x.kids.take 20).length ≤ 20 := by omega
      generalize x.toks.take 20 = l1 at *
      generalize x.kids.take 20 = l2 at *
      obtain ⟨t1, ht1⟩ : ∃ t1, x.toks.length = t1 := ⟨_, rfl⟩
      obtain ⟨t2, ht2⟩ : ∃ t2, x.kids.length = t2 := ⟨_, rfl⟩
      rw [ht1] at e1 k1 m1 hl1
      rw [ht2] at e2 k3 m2 hl2
      obtain ⟨lf, hlf⟩ : ∃ lf, x.leaf = lf := ⟨_, rfl⟩
      rw [hlf] at e0 Hcut Hlf
      have n1 : (l1.length : Int) ≤ (c1 : Int) := by omega
      have n2 : (l2.length : Int) ≤ (c2 : Int) := by omega
      have n3 : (0 : Int) ≤ (l1.length : Int) := by omega
      have n4 : (0 : Int) ≤ (l2.length : Int) := by omega
      have n5 : (i : Int) < (nl : Int) := by omega
      have n6 : (0 : Int) ≤ (i : Int) := by omega
      have n7 : (i : Int) < 40 := by omega
      have H1 := Lib.hid (baseInts_any (.slice a1 l1.length c1) l1 w.heap.size wr.drew (by have := HS.out.bel.size; exact this) (r1.below HS.out.bel.drew) (by omega))
      have HR2 := Lib.hid (And.intro r2 m4)
      have Hraw : Hid (∀ W, Below w.heap.size w W → W.cell? ⟨b, off + i * 3, none⟩ = some (.int .i64 lf) ∧ W.cell? ⟨b, off + i * 3 + 1, none⟩ = some (.slice a1 t1 c1) ∧ W.cell? ⟨b, off + i * 3 + 2, none⟩ = some (.slice a2 t2 c2)) := Lib.hid fun W hW =>
        ⟨(hW.cell (p := ⟨b, off + i * 3, none⟩) hb).trans e0, (hW.cell (p := ⟨b, off + i * 3 + 1, none⟩) hb).trans e1, (hW.cell (p := ⟨b, off + i * 3 + 2, none⟩) hb).trans e2⟩
      have Hcel : Hid (∀ W, Below wr.heap.size wr W → W.cell? ⟨w.heap.size, 1, none⟩ = some (.slice vc i d) ∧ W.cell? ⟨b, off + i * 3, none⟩ = some (.int .i64 lf) ∧ W.cell? ⟨b, off + i * 3 + 1, none⟩ = some (.slice a1 t1 c1) ∧ W.cell? ⟨b, off + i * 3 + 2, none⟩ = some (.slice a2 t2 c2)) := Lib.hid fun W hW =>
        ⟨(hW.cell (p := ⟨w.heap.size, 1, none⟩) HS.out.lt).trans cc1, Hraw.out W (HS.out.bel.trans (hW.mono HS.out.bel.size))⟩
      have HSd := Lib.hid (HS.out.keep (Below.refl _ wr).drew)
      have Hlt := Lib.hid (And.intro hlt h40)
      clear cc0 cc1 e0 e1 e2 rk1 rk2 r1 r2 er1 er2 hl1 hl2 k1 k2 k3 k4 m3 m4 ht1 ht2 hlf hb hlt' hi hi40
      obtain ⟨g0, g1, g2, g3⟩ := Hcel.out wr.drew (Below.refl _ wr).drew
      go_upto_region 5 with fail
      clear n7 hnl63 hlt h40
      refine wp_region_ord 39 [(0, true), (1, true), (2, true), (3, true), (4, true), (5, true), (6, true), (7, true), (8, true), (9, true), (10, true), (11, true), (12, true), (13, true), (14, true), (15, true), (16, true), (17, true), (18, true), (19, true), (21, true), (22, true), (23, true), (24, true), (25, true), (26, true), (27, true), (28, true), (29, true), (30, true), (31, true), (32, true), (33, true), (20, false), (34, false), (35, true), (36, false), (37, false), (38, true), (39, false)] (fun w' => w'.cell? ⟨w.heap.size, 1, none⟩ = some (.slice vc i d) ∧ w'.cell? ⟨b, off + i * 3, none⟩ = some (.int .i64 lf) ∧ w'.cell? ⟨b, off + i * 3 + 1, none⟩ = some (.slice a1 t1 c1) ∧ w'.cell? ⟨b, off + i * 3 + 2, none⟩ = some (.slice a2 t2 c2)) (by kernel_rfl) (by kernel_rfl) ⟨g0, g1, g2, g3⟩ ?_
      simp only [ordL, List.getElem?_toArray, List.getElem?_cons_succ, List.getElem?_cons_zero]
      clear g0 g1 g2 g3
      iterate 33 (
        refine ordW_read (v := ?_) (by rfl) ?_ (fun _ _ _ h => h) ?_
        rotate_left
        focus (intro w' hS; obtain ⟨s0, s1, s2, s3⟩ := hS; go_simp; try with_reducible rfl)
        try simp only [Act.put, List.setIfInBounds_toArray, List.set_cons_zero, List.set_cons_succ])
      refine ordW_do (by rfl) (fun K' HK => ?_)
      go_simp
      refine (H1.out).mono ?_
      rintro e w5 ⟨v5, rfl, own5, b5⟩
      obtain ⟨z5, d5, rfl, _, _⟩ := owns_valP own5
      have Own5 := Lib.hid (And.intro own5 b5)
      have b5' : Below wr.heap.size wr w5 := (Below.refl _ wr).drew.trans b5
      have HB5 := Lib.hid b5'
      have H2 := Lib.hid (baseInts_any (.slice a2 l2.length c2) l2 w.heap.size w5 (Nat.le_trans HS.out.bel.size b5'.size) (HR2.out.1.below (HS.out.bel.trans (b5'.mono HS.out.bel.size))) (by have := HR2.out.2; omega))
      refine HK.out _ _ (fun _ => Hcel.out w5 b5') ?_
      clear HK K' own5 b5 b5'
      try simp only [Act.put, List.setIfInBounds_toArray, List.set_cons_zero, List.set_cons_succ]
      refine ordW_do (by rfl) (fun K' HK => ?_)
      go_simp
      refine (H2.out).mono ?_
      rintro e w6 ⟨v6, rfl, own6, b6⟩
      obtain ⟨a7, c7, w7, happ, d1, f1, k7, bel7, ts7⟩ := HSd.out.push (by rw [HX.out]; have := Hlt.out.2; omega) lf _ _ l1 l2 Own5.out.1 Own5.out.2 own6 b6
      obtain ⟨z6, d6, rfl, _, _⟩ := owns_valP own6
      rw [HX.out] at happ ts7
      have TS7 := Lib.hid ts7
      have bx6 := HB5.out.trans (b6.mono HB5.out.size)
      refine HK.out _ _ (fun _ => Hcel.out w6 bx6) ?_
      clear HK K' own6 b6 ts7
      try simp only [Act.put, List.setIfInBounds_toArray, List.set_cons_zero, List.set_cons_succ]
      refine ordW_read (v := ?_) (by rfl) ?_ (fun _ _ _ h => h) ?_
      rotate_left
      focus (intro w' hS; obtain ⟨s0, s1, s2, s3⟩ := hS; go_simp; try with_reducible rfl)
      try simp only [Act.put, List.setIfInBounds_toArray, List.set_cons_zero, List.set_cons_succ]
      refine ordW_do (by rfl) (fun K' HK => ?_)
      go_simp
      refine HK.out _ _ (fun _ => Hcel.out _ (bx6.alloc bx6.size _)) ?_
      clear HK K' bx6
      try simp only [Act.put, List.setIfInBounds_toArray, List.set_cons_zero, List.set_cons_succ]
      refine ordW_do (by rfl) (fun K' HK => ?_)
      go_simp
      refine HK.out _ _ (fun _ => ⟨d1, Hraw.out w7 bel7⟩) ?_
      clear HK K'
      try simp only [Act.put, List.setIfInBounds_toArray, List.set_cons_zero, List.set_cons_succ]
      refine ordW_read (v := ?_) (by rfl) ?_ (fun _ _ _ h => h) ?_
      rotate_left
      focus (intro w' hS; obtain ⟨s0, s1, s2, s3⟩ := hS; go_simp; try with_reducible rfl)
      try simp only [Act.put, List.setIfInBounds_toArray, List.set_cons_zero, List.set_cons_succ]
      refine ordW_do (by rfl) (fun K' HK => ?_)
      go_simp
      refine HK.out _ _ (fun h => absurd rfl h) (ordW_nil ?_)
      clear HK K'
      obtain ⟨hlt, h40⟩ := Hlt.out
      go_wp2_with fail
      go_roundw
      case rel => exact ⟨i + 1, _, _, hlt, h40, by go_num, Lib.hid (by rw [List.length_append, HX.out]; rfl), Lib.hid (by rw [ndsOf_snoc, HN.out, Hst.out, Hcut.out]), TS7⟩
      case measure => simp [intOf]; omega
    · have hcut : ndsOf X = cutN N := by
        rw [HN.out]
        unfold cutN
        congr 1
        have h1 := Hnl.out
        rcases Nat.lt_or_ge i nl with h2 | h2
        · obtain rfl : i = 40 := by omega
          rfl
        · rw [List.take_of_length_le (by omega), List.take_of_length_le (by omega)]
      obtain ⟨wo, rfl⟩ : ∃ wo : World, wo = wr := ⟨_, rfl⟩
      have Hnr := Lib.hid (nr_of HS.out.nds)
      have hMl := ndsOf_len X
      rw [HX.out] at hMl
      obtain ⟨cc0, cc1⟩ := HS.out.cell
      generalize ndsOf X = M at *
      have HG : Hid (∀ W, Below wo.heap.size wo W → W.cell? ⟨w.heap.size, 0, none⟩ = some (.int .i64 k) ∧ W.cell? ⟨w.heap.size, 1, none⟩ = some (.slice vc i d) ∧ NR W wo.heap.size (.slice vc i d) M ∧ wo.heap.size ≤ W.heap.size) := Lib.hid fun W hW =>
        ⟨(hW.cell (p := ⟨w.heap.size, 0, none⟩) HS.out.lt).trans cc0, (hW.cell (p := ⟨w.heap.size, 1, none⟩) HS.out.lt).trans cc1, Hnr.out.below hW, hW.size⟩
      have HMay : Hid (∀ W, Below wo.heap.size wo W → Calls Try.prog 33 #[.agg #[.int .i64 k, .slice vc i d]] W (BoolB W (mayB18 k M))) := Lib.hid fun W hW => by
        obtain ⟨_, _, n, z⟩ := HG.out W hW
        exact triMay_any (.slice vc i d) M k wo.heap.size W z n (by omega)
      have Hbel := Lib.hid HS.out.bel
      have Hi := Lib.hid (And.intro hi hi40)
      have HMl := Lib.hid hMl
      clear hcut hMl cc0 cc1 Hnr
      have hsplit : (decide (i < nl) = true ∧ decide ((i : Int) < 40) = false) ∨ (decide (i < nl) = false) := by
        rcases Nat.lt_or_ge i nl with h1 | h1
        · exact .inl ⟨decide_eq_true (by omega), decide_eq_false (by omega)⟩
        · exact .inr (decide_eq_false (by omega))
      clear hlt hi hi40 HX HN HS hnl63
      have Hm1 := Lib.hid (HMay.out wo (Below.refl _ wo))
      obtain ⟨c0, c1, _, _⟩ := HG.out wo (Below.refl _ wo)
      rcases hsplit with ⟨q1, q2⟩ | q1
      all_goals
        by_cases hm : mayB18 k M = true
        · rw [hm] at Hm1
          obtain ⟨K, T, hK, hK1, hK4, hN, hu, hsz⟩ := may_conv k M hm
          subst hK
          obtain ⟨g1, g2, g3⟩ := mays_math K T hK1 hK4 hu s
          have hMi : tsize K T = i := by rw [← flatT_len K 0 T, ← hN]; exact HMl.out
          have hi1 : 1 ≤ i := by rw [← hMi, ← flatT_len K 0 T]; exact flat_len1 K T
          obtain ⟨lim1, lim2⟩ := sets_lim K T hK4 (by have := Hi.out.2; omega)
          have lim3 := addAll_flat (ents K [] T) []
          have lim4 := ents_le K [] T
          have Hst : Hid (∀ W, Below wo.heap.size wo W → Calls Try.prog 35 #[.agg #[.int .i64 (K : Int), .slice vc i d]] W (SetsPost W (addAll [] (ents K [] T)))) := Lib.hid fun W hW => by
            obtain ⟨_, _, n, z⟩ := HG.out W hW
            rw [hN] at n
            exact sets_any K T _ wo.heap.size W z hK1 hK4 hu hsz (by have := Hi.out.2; omega) n
          have Hch : Hid (∀ W, Below wo.heap.size wo W → Calls Try.prog 34 #[.agg #[.int .i64 (K : Int), .slice vc i d], .string sb] W fun e w' => e = .returned (.int .i64 (whichI (addAll [] (ents K [] T)) s)) ∧ Below W.heap.size W w') := Lib.hid fun W hW => by
            obtain ⟨_, _, n, z⟩ := HG.out W hW
            rw [← g3, Hsb.out]
            by_cases hsl : s.length = K
            · rw [hN] at n
              exact choose_any K T _ s wo.heap.size W z hK1 hK4 hu hsz n (by omega)
            · exact choose_off K _ _ s W ⟨_, _, _, rfl⟩ Hss.out hK4 hsl
          have q3 : decide ((K : Int) < 1) = false := decide_eq_false (by omega)
          have q4 : decide ((4 : Int) < (K : Int)) = false := decide_eq_false (by omega)
          have q5 : ((i : Int) == 0) = false := by rw [beq_eq_false_iff_ne]; omega
          have Hlim : Hid ((∀ l ∈ addAll [] (ents K [] T), l.length ≤ 50) ∧ (∀ l ∈ addAll [] (ents K [] T), ∀ x ∈ l, x.length ≤ 1000) ∧ (addAll [] (ents K [] T)).flatten.length ≤ 4000) := Lib.hid ⟨lim1, lim2, by have := Hi.out.2; simp only [List.flatten_nil, List.length_nil] at lim3; omega⟩
          have Hmk := Lib.hid (And.intro g1 g2)
          have HN := Lib.hid hN
          have HK := Lib.hid (And.intro hK1 hK4)
          clear g1 g2 g3 lim1 lim2 lim3 lim4 hN hu hsz hK1 hK4 hMi hi1 hm HMay
          go_wp2_with fail
          refine (Hm1.out).mono ?_
          rintro e w6 ⟨rfl, b6⟩
          have HB6 := Lib.hid b6
          clear c0 c1
          obtain ⟨c0, c1, _, _⟩ := HG.out w6 b6
          have Hs6 := Lib.hid (Hst.out w6 b6)
          clear b6 Hm1
          go_wp2_with fail
          refine (Hs6.out).mono ?_
          rintro e w7 ⟨v7, rfl, r7, b7⟩
          have HB7 := Lib.hid (HB6.out.trans (b7.mono HB6.out.size))
          obtain ⟨a7, d7, rfl, _, _⟩ := r7.val
          have Hr7 := Lib.hid r7
          clear c0 c1 b7 r7 Hs6
          obtain ⟨C, hC⟩ : ∃ C, C = addAll [] (ents K [] T) := ⟨_, rfl⟩
          rw [← hC] at Hr7 Hlim Hmk Hch ⊢
          clear hC
          obtain ⟨cl, hcl⟩ : ∃ cl, cl = C.length := ⟨_, rfl⟩
          rw [← hcl] at Hr7 ⊢
          have Hcl := Lib.hid hcl
          clear hcl
          by_cases hbig : cl ≤ 1000
          · have q6 : decide ((1000 : Int) < (cl : Int)) = false := decide_eq_false (by omega)
            have Hbig := Lib.hid hbig
            have H8 := Lib.hid (triMake_any (K : Int) (.slice a7 cl d7) C w7.heap.size w7 (Nat.le_refl _) Hr7.out (by have := Hcl.out; omega) Hlim.out.1 Hlim.out.2.1 Hlim.out.2.2)
            clear hbig
            go_wp2_with fail
            refine (H8.out).mono ?_
            rintro e w8 hpost
            have b8 := hpost.1
            rcases hpost.2 with ⟨hne, _⟩ | ⟨_, v8, rfl, r8⟩
            · exact absurd Hmk.out.1 hne
            rw [Int.toNat_natCast, Hmk.out.2, ← HN.out] at r8
            have HB8 := Lib.hid (HB7.out.trans (b8.mono HB7.out.size))
            have Hr8 := Lib.hid (Hr7.out.below b8)
            obtain ⟨a8, d8, rfl, _, _⟩ := r8.val
            rw [HMl.out] at r8 ⊢
            have hb9 : Below w8.heap.size w8 (w8.alloc (.cells #[.int .i64 (K : Int), .slice a8 i d8] 41)) := (Below.refl _ w8).alloc (Nat.le_refl _) _
            have hs9 : (w8.alloc (.cells #[.int .i64 (K : Int), .slice a8 i d8] 41)).heap.size = w8.heap.size + 1 := by simp
            have hg1 : (w8.alloc (.cells #[.int .i64 (K : Int), .slice a8 i d8] 41)).cell? ⟨w8.heap.size, 1, none⟩ = some (.slice a8 i d8) := cell_new w8 _ _ 1 _ rfl
            have HU : Hid (∀ W, Below (w8.alloc (.cells #[.int .i64 (K : Int), .slice a8 i d8] 41)).heap.size (w8.alloc (.cells #[.int .i64 (K : Int), .slice a8 i d8] 41)) W → W.cell? ⟨w8.heap.size, 1, none⟩ = some (.slice a8 i d8) ∧ W.cell? ⟨w.heap.size, 0, none⟩ = some (.int .i64 (K : Int)) ∧ W.cell? ⟨w.heap.size, 1, none⟩ = some (.slice vc i d) ∧ NR W w8.heap.size (.slice a8 i d8) M ∧ NR W wo.heap.size (.slice vc i d) M ∧ RR W w7.heap.size (.slice a7 cl d7) C ∧ w8.heap.size ≤ W.heap.size ∧ w7.heap.size ≤ W.heap.size ∧ Below wo.heap.size wo W) := Lib.hid fun W hW => by
              have h1 := hb9.trans (hW.mono hb9.size)
              have h2 := HB8.out.trans (h1.mono HB8.out.size)
              obtain ⟨x1, x2, x3, x4⟩ := HG.out W h2
              exact ⟨(hW.cell (p := ⟨w8.heap.size, 1, none⟩) (by show w8.heap.size < _; rw [hs9]; omega)).trans hg1, x1, x2, r8.below h1, x3, Hr8.out.below (h1.mono b8.size), h1.size, Nat.le_trans b8.size h1.size, h2⟩
            clear hb9 hs9 hg1 r8 b8 H8 Hr7 hpost
            obtain ⟨w9, hw9⟩ : ∃ w9, w9 = w8.alloc (.cells #[.int .i64 (K : Int), .slice a8 i d8] 41) := ⟨_, rfl⟩
            rw [← hw9] at HU
            go_upto_region 14 with fail
            rw [← hw9]
            clear hw9
            obtain ⟨c0, c1, c2, _, _, _, _, _, _⟩ := HU.out w9 (Below.refl _ _)
            have hi63 : i ≤ 9223372036854775807 := by have := Hi.out.2; omega
            go_wp2_with fail
            clear c0 c1 c2
            go_loopw [12] (fun jv wx => ∃ j : Nat, j ≤ i ∧ jv = .int .i64 j ∧ Hid (Below w9.heap.size w9 wx)) (fun jv _ => i - (intOf jv).toNat)
            case atStart => exact ⟨0, Nat.zero_le _, rfl, Lib.hid (Below.refl _ _)⟩
            case round =>
              obtain ⟨j, hj, rfl, HBx⟩ := hrel
              obtain ⟨c0, c1, c2, nu, nt, rr, y8, y7, hwo⟩ := HU.out wr HBx.out
              by_cases hjl : j < i
              · have hjM : j < M.length := by have := HMl.out; omega
                obtain ⟨b1, o1, a1, d1, a2, d2, hao1, hb1, e0, e1, e2, rk1, rk2, _, _, _, _⟩ := nu.get j hjM
                obtain ⟨b2, o2, a3, d3, a4, d4, hao2, hb2, f0, f1, f2, rk3, rk4, _, _, _, _⟩ := nt.get j hjM
                subst hao1 hao2
                have hji : (j : Int) < (i : Int) := by omega
                have hj0 : (0 : Int) ≤ (j : Int) := by omega
                have hb1' : b1 < wr.heap.size := Nat.lt_of_lt_of_le hb1 y8
                have hb2' : b2 < wr.heap.size := Nat.lt_of_lt_of_le hb2 hwo.size
                generalize M[j] = x at *
                have H1 := Lib.hid (same_self (.slice a1 x.toks.length d1) (.slice a3 x.toks.length d3) x.toks w8.heap.size wo.heap.size wr.drew y8 hwo.size (rk1.below ((Below.refl _ wr).drew.mono y8)) (rk3.below ((Below.refl _ wr).drew.mono hwo.size)))
                have Hrk := Lib.hid (And.intro rk2 rk4)
                have Hcel : Hid (∀ W, Below wr.heap.size wr W → W.cell? ⟨w8.heap.size, 1, none⟩ = some (.slice (some ⟨b1, o1, none⟩) i d8) ∧ W.cell? ⟨w.heap.size, 1, none⟩ = some (.slice (some ⟨b2, o2, none⟩) i d) ∧ W.cell? ⟨b1, o1 + j * 3, none⟩ = some (.int .i64 x.leaf) ∧ W.cell? ⟨b1, o1 + j * 3 + 1, none⟩ = some (.slice a1 x.toks.length d1) ∧ W.cell? ⟨b1, o1 + j * 3 + 2, none⟩ = some (.slice a2 x.kids.length d2) ∧ W.cell? ⟨b2, o2 + j * 3, none⟩ = some (.int .i64 x.leaf) ∧ W.cell? ⟨b2, o2 + j * 3 + 1, none⟩ = some (.slice a3 x.toks.length d3) ∧ W.cell? ⟨b2, o2 + j * 3 + 2, none⟩ = some (.slice a4 x.kids.length d4)) := Lib.hid fun W hW => by
                  obtain ⟨x0, x1, x2, _, _, _, _, _, _⟩ := HU.out W (HBx.out.trans (hW.mono HBx.out.size))
                  exact ⟨x0, x2, (hW.cell (p := ⟨b1, o1 + j * 3, none⟩) hb1').trans e0, (hW.cell (p := ⟨b1, o1 + j * 3 + 1, none⟩) hb1').trans e1, (hW.cell (p := ⟨b1, o1 + j * 3 + 2, none⟩) hb1').trans e2, (hW.cell (p := ⟨b2, o2 + j * 3, none⟩) hb2').trans f0, (hW.cell (p := ⟨b2, o2 + j * 3 + 1, none⟩) hb2').trans f1, (hW.cell (p := ⟨b2, o2 + j * 3 + 2, none⟩) hb2').trans f2⟩
                have Hy := Lib.hid (And.intro y8 hwo.size)
                have Hjl := Lib.hid hjl
                clear c1 nu nt rr y7 hwo e0 e1 e2 f0 f1 f2 rk1 rk2 rk3 rk4 hb1 hb2 hb1' hb2' hjM hj y8
                go_upto_region 19 with fail
                clear c0 c2 hi63 hjl hji
                have hji : (j : Int) < (i : Int) := by have := Hjl.out; omega
                obtain ⟨p0, p1, p2, p3, p4, p5, p6, p7⟩ := Hcel.out wr.drew (Below.refl _ wr).drew
                clear p0 p1 p2 p3 p4 p5 p6 p7
                refine wp_region_ord 44 [(0, true), (1, true), (2, true), (3, true), (4, true), (5, true), (6, true), (7, true), (8, true), (9, true), (10, true), (11, true), (12, true), (13, true), (14, true), (15, true), (16, true), (17, true), (18, true), (19, true), (20, true), (21, true), (22, true), (23, true), (24, true), (25, true), (26, false), (27, true), (28, true), (29, true), (30, true), (31, true), (32, true), (33, true), (34, true), (35, true), (36, true), (37, true), (38, true), (39, true), (40, true), (41, true), (42, false), (43, true), (44, false)] (fun w' => w'.cell? ⟨w8.heap.size, 1, none⟩ = some (.slice (some ⟨b1, o1, none⟩) i d8) ∧ w'.cell? ⟨w.heap.size, 1, none⟩ = some (.slice (some ⟨b2, o2, none⟩) i d) ∧ w'.cell? ⟨b1, o1 + j * 3, none⟩ = some (.int .i64 x.leaf) ∧ w'.cell? ⟨b1, o1 + j * 3 + 1, none⟩ = some (.slice a1 x.toks.length d1) ∧ w'.cell? ⟨b1, o1 + j * 3 + 2, none⟩ = some (.slice a2 x.kids.length d2) ∧ w'.cell? ⟨b2, o2 + j * 3, none⟩ = some (.int .i64 x.leaf) ∧ w'.cell? ⟨b2, o2 + j * 3 + 1, none⟩ = some (.slice a3 x.toks.length d3) ∧ w'.cell? ⟨b2, o2 + j * 3 + 2, none⟩ = some (.slice a4 x.kids.length d4)) (by kernel_rfl) (by kernel_rfl) (Hcel.out wr.drew (Below.refl _ wr).drew) ?_
                simp only [ordL, List.getElem?_toArray, List.getElem?_cons_succ, List.getElem?_cons_zero]
                iterate 26 (
                  refine ordW_read (v := ?_) (by rfl) ?_ (fun _ _ _ h => h) ?_
                  rotate_left
                  focus (intro w' hS; obtain ⟨s0, s1, s2, s3, s4, s5, s6, s7⟩ := hS; go_simp; try with_reducible rfl)
                  simp only [Act.put, List.setIfInBounds_toArray, List.set_cons_zero, List.set_cons_succ])
                refine ordW_do (by rfl) (fun K' HK => ?_)
                go_simp
                refine (H1.out).mono ?_
                rintro e w10 ⟨rfl, b10⟩
                have b10' : Below wr.heap.size wr w10 := (Below.refl _ wr).drew.trans b10
                have HB10 := Lib.hid b10'
                have H2 := Lib.hid (same_self (.slice a2 x.kids.length d2) (.slice a4 x.kids.length d4) x.kids w8.heap.size wo.heap.size w10 (Nat.le_trans Hy.out.1 b10'.size) (Nat.le_trans Hy.out.2 b10'.size) (Hrk.out.1.below (b10'.mono Hy.out.1)) (Hrk.out.2.below (b10'.mono Hy.out.2)))
                refine HK.out _ _ (fun _ => Hcel.out w10 b10') ?_
                clear HK K' b10 b10'
                try simp only [Act.put, List.setIfInBounds_toArray, List.set_cons_zero, List.set_cons_succ]
                iterate 15 (
                  refine ordW_read (v := ?_) (by rfl) ?_ (fun _ _ _ h => h) ?_
                  rotate_left
                  focus (intro w' hS; obtain ⟨s0, s1, s2, s3, s4, s5, s6, s7⟩ := hS; go_simp; try with_reducible rfl)
                  simp only [Act.put, List.setIfInBounds_toArray, List.set_cons_zero, List.set_cons_succ])
                refine ordW_do (by rfl) (fun K' HK => ?_)
                go_simp
                refine (H2.out).mono ?_
                rintro e w11 ⟨rfl, b11⟩
                have HB11 := Lib.hid (HB10.out.trans (b11.mono HB10.out.size))
                refine HK.out _ _ (fun _ => Hcel.out w11 HB11.out) ?_
                clear HK K' b11
                try simp only [Act.put, List.setIfInBounds_toArray, List.set_cons_zero, List.set_cons_succ]
                iterate 1 (
                  refine ordW_read (v := ?_) (by rfl) ?_ (fun _ _ _ h => h) ?_
                  rotate_left
                  focus (intro w' hS; obtain ⟨s0, s1, s2, s3, s4, s5, s6, s7⟩ := hS; go_simp; try with_reducible rfl)
                  simp only [Act.put, List.setIfInBounds_toArray, List.set_cons_zero, List.set_cons_succ])
                refine ordW_do (by rfl) (fun K' HK => ?_)
                go_simp
                refine HK.out _ _ (fun h => absurd rfl h) (ordW_nil ?_)
                clear HK K'
                have hjl := Hjl.out
                have HX11 := Lib.hid (HBx.out.trans (HB11.out.mono HBx.out.size))
                have hi63 : i ≤ 9223372036854775807 := by have := Hi.out.2; omega
                go_wp2_with fail
                go_roundw
                case rel => exact ⟨j + 1, hjl, by go_num, HX11⟩
                case measure => simp [intOf]; omega
              · obtain rfl : j = i := by omega
                have Hc := Lib.hid (Hch.out wr hwo)
                have Hwo := Lib.hid hwo
                clear nu nt rr y8 y7 hwo
                go_wp2_with fail
                refine (Hc.out).mono ?_
                rintro e w10 ⟨rfl, b10⟩
                have HB10 := Lib.hid (HBx.out.trans (b10.mono HBx.out.size))
                clear c0 c1 c2
                obtain ⟨c0, c1, c2, nu, nt, rr, y8, y7, hwo⟩ := HU.out w10 HB10.out
                have Hw := Lib.hid (refWhich_any (.slice a7 cl d7) C s w7.heap.size w10 y7 rr (by have := Hcl.out; have := Hbig.out; omega))
                rw [← Hsb.out] at Hw
                have Hwo10 := Lib.hid hwo
                clear nu nt rr y8 y7 hwo b10 Hc c0 c1 c2
                go_wp2_with fail
                refine (Hw.out).mono ?_
                rintro e w11 ⟨rfl, b11⟩
                have HB11 := Lib.hid (Hwo10.out.trans (b11.mono Hwo10.out.size))
                have Hwk := Lib.hid (works18_any w11)
                clear b11 Hw
                go_wp2_with fail
                refine (Hwk.out).mono ?_
                rintro e w12 ⟨rfl, b12⟩
                have HB12 := Lib.hid (HB11.out.trans (b12.mono HB11.out.size))
                clear b12 Hwk
                go_wp2_with fail
                go_ret
                exact ⟨by first | rfl | simp, Hbel.out.trans (HB12.out.mono Hbel.out.size)⟩
          · have q6 : decide ((1000 : Int) < (cl : Int)) = true := decide_eq_true (by omega)
            have Hw := Lib.hid (works18_any w7)
            clear hbig
            go_wp2_with fail
            refine (Hw.out).mono ?_
            rintro e w8 ⟨rfl, b8⟩
            have HB8 := Lib.hid (HB7.out.trans (b8.mono HB7.out.size))
            go_wp2_with fail
            go_ret
            exact ⟨rfl, Hbel.out.trans (HB8.out.mono Hbel.out.size)⟩
        · have hmf : mayB18 k M = false := by simpa using hm
          rw [hmf] at Hm1
          have Hst : Hid (∀ W, Below wo.heap.size wo W → Calls Try.prog 35 #[.agg #[.int .i64 k, .slice vc i d]] W (SetsPost W [])) := Lib.hid fun W hW => by
            obtain ⟨_, _, n, z⟩ := HG.out W hW
            exact sets_not k _ M wo.heap.size W z n (by have := HMl.out; have := Hi.out.2; omega) hmf
          have Hhd : Hid (∀ W, Below wo.heap.size wo W → Calls Try.prog 36 #[.agg #[.int .i64 k, .slice vc i d]] W (OwnI W [])) := Lib.hid fun W hW => by
            obtain ⟨_, _, n, z⟩ := HG.out W hW
            exact heads_not k _ M wo.heap.size W z n (by have := HMl.out; have := Hi.out.2; omega) hmf
          have Hch : Hid (∀ W, Below wo.heap.size wo W → Calls Try.prog 34 #[.agg #[.int .i64 k, .slice vc i d], .string sb] W fun e w' => e = .returned (.int .i64 (-1)) ∧ Below W.heap.size W w') := Lib.hid fun W hW => by
            obtain ⟨_, _, n, z⟩ := HG.out W hW
            rw [Hsb.out]
            exact choose_not k _ M s wo.heap.size W z n (by have := HMl.out; have := Hi.out.2; omega) hmf Hss.out
          clear hm hmf HMay
          go_wp2_with fail
          refine (Hm1.out).mono ?_
          rintro e w6 ⟨rfl, b6⟩
          have HB6 := Lib.hid b6
          clear c0 c1
          obtain ⟨c0, c1, _, _⟩ := HG.out w6 b6
          have H6 := Lib.hid (Hch.out w6 b6)
          clear b6 Hm1
          go_wp2_with fail
          refine (H6.out).mono ?_
          rintro e w7 ⟨rfl, b7⟩
          have HB7 := Lib.hid (HB6.out.trans (b7.mono HB6.out.size))
          clear c0 c1
          obtain ⟨c0, c1, _, _⟩ := HG.out w7 HB7.out
          have H7 := Lib.hid (Hst.out w7 HB7.out)
          clear b7 H6
          go_wp2_with fail
          refine (H7.out).mono ?_
          rintro e w8 ⟨v8, rfl, r8, b8⟩
          obtain ⟨a8, d8, rfl, _, _⟩ := r8.val
          have HB8 := Lib.hid (HB7.out.trans (b8.mono HB7.out.size))
          clear c0 c1
          obtain ⟨c0, c1, _, _⟩ := HG.out w8 HB8.out
          have H8 := Lib.hid (Hhd.out w8 HB8.out)
          clear b8 r8 H7
          go_wp2_with fail
          refine (H8.out).mono ?_
          rintro e w9 ⟨v9, rfl, own9, b9⟩
          obtain ⟨a9, d9, rfl, _, _⟩ := owns_valP own9
          have HB9 := Lib.hid (HB8.out.trans (b9.mono HB8.out.size))
          have H9 := Lib.hid (works18_any w9)
          clear b9 own9 H8 c0 c1
          go_wp2_with fail
          refine (H9.out).mono ?_
          rintro e w10 ⟨rfl, b10⟩
          have HB10 := Lib.hid (HB9.out.trans (b10.mono HB9.out.size))
          clear b10 H9
          go_wp2_with fail
          go_ret
          exact ⟨by first | rfl | simp, Hbel.out.trans (HB10.out.mono Hbel.out.size)⟩
set_option maxRecDepth 100000 in
theorem trieMays_law {H : Type} {base : Nat} (enc : TypeId × Value → H) (W : World)
    (a0 : Int) (w0 : (Lit.int .i64 a0).wf = true)
    (v1 : Value) (d1 : DataW H) (p1 : List MemPlace) (k1 : Value.okWide Try.prog W .any base 55 v1) (h1 : DataW.Trod enc Try.prog W 0 (fun _ => true) true 55 v1 d1 p1)
    (s2 : ByteArray) (w2 : s2.size ≤ maxLen) :
    Calls Try.prog 8 #[.int .i64 a0, v1, .string s2] W fun e w' => e = .returned (.bool true) ∧ Below W.heap.size W w' := by
  obtain ⟨N, r, hx⟩ := rawOf (Go.WideShapes.okWide_slice Try.underlying55 k1) h1
  have h := trieMays_walk a0 v1 N s2.data.toList W r (i64_of_wfT w0) (fun x hm => (hx x hm).1) (by rw [Array.length_toList]; exact w2)
  have e : (⟨s2.data.toList.toArray⟩ : ByteArray) = s2 := by simp
  rw [e] at h
  exact h
end Go.Proofs.Ytbmaappambmhoaa
