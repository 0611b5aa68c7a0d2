/-
  Words of at most so many tokens, plain.
  first.within: words put together, by their length.
  first.within: its walk.
  row.Of, of words of at most so many tokens.
  The look of first.grower.grow, in memory, for words.
  The look of first.grower.grow, for words.
  first.grower.grow, for words.
-/
import Derived.Test.YtimgnbacgdmiiaaFirE
import Derived.Test.YtimgnbacgdmiiaaBnfD
import Derived.Test.YtimgnbacgdmiiaaFirI
namespace Go.Proofs.Ytimgnbacgdmiiaa
open Go.RowKit PK
set_option linter.unusedVariables false
set_option linter.unusedSimpArgs false
attribute [local go_sem ↓] append_appM

/-- All words of one of a and one of b that are not longer than k. -/
def catWF (a b : List Tx) (k : Int) : List Tx := a.flatMap fun x => (b.filter fun y => decide (((x ++ y).length : Int) ≤ k)).map (x ++ ·)
def catW (a b : List Tx) (k : Int) : List Tx := toSet (catWF a b k)
theorem catWF_mem (a b : List Tx) (k : Int) (z : Tx) : z ∈ catWF a b k ↔ ∃ x ∈ a, ∃ y ∈ b, z = x ++ y ∧ ((x ++ y).length : Int) ≤ k := by
  unfold catWF
  rw [List.mem_flatMap]
  constructor
  · rintro ⟨x, hx, hz⟩
    obtain ⟨y, hy, rfl⟩ := List.mem_map.1 hz
    rw [List.mem_filter] at hy
    exact ⟨x, hx, y, hy.1, rfl, of_decide_eq_true hy.2⟩
  · rintro ⟨x, hx, y, hy, rfl, hk⟩
    exact ⟨x, hx, List.mem_map.2 ⟨y, List.mem_filter.2 ⟨hy, decide_eq_true hk⟩, rfl⟩⟩
theorem catW_mem (a b : List Tx) (k : Int) (z : Tx) : z ∈ catW a b k ↔ ∃ x ∈ a, ∃ y ∈ b, z = x ++ y ∧ ((x ++ y).length : Int) ≤ k := by
  unfold catW; rw [toSet_mem]; exact catWF_mem a b k z
theorem catW_set (a b : List Tx) (k : Int) : IsSet (catW a b k) := toSet_set _
theorem catW_le (a b : List Tx) (k : Int) : Le k (catW a b k) := fun z hz => by
  obtain ⟨x, _, y, _, rfl, h⟩ := (catW_mem a b k z).1 hz; exact h
/-- What a row stands for. -/
def rowSW (k : Int) (S : Sts) (l : List Sy) : List Tx := l.foldl (fun r s => catW r (symS S s) k) [[]]
theorem rowS_snocW (k : Int) (S : Sts) (l : List Sy) (s : Sy) : rowSW k S (l ++ [s]) = catW (rowSW k S l) (symS S s) k := by unfold rowSW; rw [List.foldl_append]; rfl
theorem rowS_succW (k : Int) (S : Sts) (l : List Sy) (i : Nat) (h : i < l.length) : rowSW k S (l.take (i + 1)) = catW (rowSW k S (l.take i)) (symS S l[i]) k := by
  rw [List.take_succ_eq_append_getElem h, rowS_snocW]
theorem rowS_setW (k : Int) (S : Sts) (l : List Sy) : IsSet (rowSW k S l) := by
  rcases List.eq_nil_or_concat l with rfl | ⟨r, s, rfl⟩
  · exact List.pairwise_singleton _ _
  · rw [List.concat_eq_append, rowS_snocW]; exact catW_set _ _ _
theorem rowS_subW {S T : Sts} (h : Sub S T) (k : Int) (l : List Sy) : ∀ x, x ∈ rowSW k S l → x ∈ rowSW k T l := by
  induction l using sym_ind with
  | h0 => exact fun x hx => hx
  | h1 l s ih =>
    intro x hx
    rw [rowS_snocW, catW_mem] at hx ⊢
    obtain ⟨a, ha, b, hb, rfl, hk⟩ := hx
    exact ⟨a, ih a ha, b, symS_sub h s b hb, rfl, hk⟩
/-- Sets do with what a row asks for. -/
theorem rowS_congrW {S T : Sts} (k : Int) (l : List Sy) (h : ∀ s ∈ l, s.tok = false → stAt S s.n = stAt T s.n) : rowSW k S l = rowSW k T l := by
  unfold rowSW
  generalize ([[]] : List Tx) = r
  induction l generalizing r with
  | nil => rfl
  | cons s l ih =>
    rw [List.foldl_cons, List.foldl_cons]
    have e : symS S s = symS T s := by
      unfold symS
      cases ht : s.tok with
      | true => rfl
      | false => exact h s List.mem_cons_self ht
    rw [e]
    exact ih (fun s hs => h s (List.mem_cons_of_mem _ hs)) _
/-- Is what some first symbols of a row stand for more than most? -/
def OverRW (k : Int) (most : Nat) (S : Sts) (l : List Sy) : Prop := ∃ i, i < l.length ∧ most < (rowSW k S (l.take (i + 1))).length
/-- What all symbols of a row come to, by derivation. -/
inductive FDW (b : Bn) (k : Int) : List Sy → Tx → Prop
  | nil : FDW b k [] []
  | tok {l : List Sy} {x : Tx} {s : Sy} : FDW b k l x → s.tok = true → ((x ++ [UInt8.ofNat s.n.toNat]).length : Int) ≤ k → FDW b k (l ++ [s]) (x ++ [UInt8.ofNat s.n.toNat])
  | non {l : List Sy} {x y : Tx} {s : Sy} {p : Pr} : FDW b k l x → s.tok = false → p ∈ b.l → p.left = s.n → FDW b k p.right y → ((x ++ y).length : Int) ≤ k → FDW b k (l ++ [s]) (x ++ y)
structure SoundW (b : Bn) (k : Int) (S : Sts) : Prop where
  len : S.length = b.of.length
  set : ∀ l ∈ S, IsSet l
  der : ∀ n x, x ∈ stAt S n → ∃ p ∈ b.l, p.left.toNat = n.toNat ∧ FDW b k p.right x
def ClosedW (b : Bn) (k : Int) (S : Sts) : Prop := ∀ p ∈ b.l, ∀ x ∈ rowSW k S p.right, x ∈ stAt S p.left
theorem ClosedW.der {b : Bn} {k : Int} {S : Sts} (h : ClosedW b k S) {l : List Sy} {x : Tx} (hd : FDW b k l x) : x ∈ rowSW k S l := by
  induction hd with
  | nil => exact List.mem_singleton.2 rfl
  | @tok l x s h1 ht hk ih =>
    rw [rowS_snocW, catW_mem]
    exact ⟨_, ih, _, by unfold symS; rw [if_pos ht]; exact List.mem_singleton.2 rfl, rfl, hk⟩
  | @non l x y s p h1 ht hp hl h2 hk ih1 ih2 =>
    rw [rowS_snocW, catW_mem]
    refine ⟨_, ih1, y, ?_, rfl, hk⟩
    unfold symS
    rw [ht]
    have := h p hp y ih2
    rw [hl] at this
    simpa using this
theorem SoundW.row {b : Bn} {k : Int} {S : Sts} (hok : ∀ p ∈ b.l, prOk b p = true) (h : SoundW b k S) (l : List Sy) (hl : ∀ s ∈ l, s.tok = false → 0 ≤ s.n ∧ s.n < b.of.length) : ∀ x ∈ rowSW k S l, FDW b k l x := by
  induction l using sym_ind with
  | h0 => intro x hx; rw [List.mem_singleton.1 hx]; exact .nil
  | h1 l s ih =>
    intro x hx
    rw [rowS_snocW, catW_mem] at hx
    obtain ⟨a, ha, y, hy, rfl, hk⟩ := hx
    have h1 := ih (fun s hs => hl s (List.mem_append_left _ hs)) a ha
    unfold symS at hy
    cases ht : s.tok with
    | true =>
      rw [ht] at hy
      have e : y = [UInt8.ofNat s.n.toNat] := by simpa using hy
      subst e
      exact .tok h1 ht hk
    | false =>
      rw [ht] at hy
      obtain ⟨p, hp, hpl, hd⟩ := h.der s.n y (by simpa using hy)
      have h2 := prOk_left (hok p hp)
      have h3 := hl s (by simp) ht
      exact .non h1 ht hp (by omega) hd hk
/-- Sets as they are kept: each a set, of texts of at most k bytes, not too great. -/
def SOkW (k : Int) (S : Sts) : Prop := ∀ a ∈ S, IsSet a ∧ Le k a ∧ a.length ≤ 10000
theorem symS_okW {k : Int} (hk : k ≤ 4) {S : Sts} (h : SOkW k S) (s : Sy) : IsSet (symS S s) ∧ Le 4 (symS S s) ∧ (symS S s).length ≤ 10000 := by
  unfold symS
  cases s.tok with
  | true => exact ⟨List.pairwise_singleton _ _, (fun x hx => by
      have e : x = [UInt8.ofNat s.n.toNat] := by simpa using hx
      rw [e]; simp), by simp⟩
  | false =>
    simp only [Bool.false_eq_true, if_false]
    unfold stAt
    cases e : S[s.n.toNat]? with
    | none => exact ⟨List.Pairwise.nil, (fun x hx => by cases hx), by simp⟩
    | some a => obtain ⟨h1, h2, h3⟩ := h a (List.mem_of_getElem? e); exact ⟨h1, fun x hx => by have := h2 x hx; omega, h3⟩
theorem rowS_leW {k : Int} (hk : 0 ≤ k) (S : Sts) (l : List Sy) : Le k (rowSW k S l) := by
  rcases List.eq_nil_or_concat l with rfl | ⟨r, s, rfl⟩
  · intro x hx
    have e : x = [] := by simpa [rowSW] using hx
    rw [e]; simpa using hk
  · rw [List.concat_eq_append, rowS_snocW]; exact catW_le _ _ _
/-- SoundW sets are within closed ones. -/
theorem SoundW.sub {b : Bn} {k : Int} {S T : Sts} (hok : ∀ p ∈ b.l, prOk b p = true) (h : SoundW b k S) (hT : ClosedW b k T) : Sub S T := fun n x hx => by
  obtain ⟨p, hp, hl, hd⟩ := h.der n x hx
  have h1 := hT p hp x (hT.der hd)
  have e : stAt T p.left = stAt T n := by unfold stAt; rw [hl]
  rwa [e] at h1
theorem SoundW.uniq {b : Bn} {k : Int} {S T : Sts} (hok : ∀ p ∈ b.l, prOk b p = true) (hS : SoundW b k S) (hT : SoundW b k T) (cS : ClosedW b k S) (cT : ClosedW b k T) : S = T := by
  refine List.ext_getElem (hS.len.trans hT.len.symm) fun j h1 h2 => ?_
  rw [← stAt_nat S j h1, ← stAt_nat T j h2]
  exact set_ext (stAt_set S _ hS.set) (stAt_set T _ hT.set) fun x => ⟨hS.sub hok cT _ x, hT.sub hok cS _ x⟩
/-- What is too much stays too much. -/
theorem OverRW.sub {k : Int} {most : Nat} {S T : Sts} {l : List Sy} (h : OverRW k most S l) (hs : Sub S T) : OverRW k most T l := by
  obtain ⟨i, hi, h1⟩ := h
  exact ⟨i, hi, Nat.lt_of_lt_of_le h1 (tset_sub (rowS_setW _ _ _) (rowS_subW hs k _))⟩
/-- Too much, somewhere: rules of which the answer is a limit. -/
def OverW (b : Bn) (k : Int) (most : Nat) (S : Sts) : Prop := ∃ p ∈ b.l, OverRW k most S p.right ∨ most < (joinL (stAt S p.left) (rowSW k S p.right)).length
theorem OverW.not {b : Bn} {k : Int} {most : Nat} {S T : Sts} (h : OverW b k most S) (hs : Sub S T) (hT : ∀ l ∈ T, IsSet l) (cT : ClosedW b k T) (h1 : ∀ p ∈ b.l, ¬ OverRW k most T p.right) (h2 : ∀ n, (stAt T n).length ≤ most) : False := by
  obtain ⟨p, hp, h3 | h3⟩ := h
  · exact h1 p hp (h3.sub hs)
  · have : (joinL (stAt S p.left) (rowSW k S p.right)).length ≤ (stAt T p.left).length := tset_sub (toSet_set _) fun x hx => by
      rcases (joinL_mem _ _ _).1 hx with h4 | h4
      · exact hs _ _ h4
      · exact cT p hp x (rowS_subW hs k _ x h4)
    have := h2 p.left
    omega
theorem SoundW.put {b : Bn} {k : Int} {S : Sts} (hok : ∀ p ∈ b.l, prOk b p = true) (h : SoundW b k S) (p : Pr) (hp : p ∈ b.l) : SoundW b k (S.set p.left.toNat (joinL (stAt S p.left) (rowSW k S p.right))) := by
  have h2 := prOk_left (hok p hp)
  have hj : p.left.toNat < S.length := by rw [h.len]; omega
  refine ⟨by rw [List.length_set]; exact h.len, fun l hl => ?_, fun n x hx => ?_⟩
  · rcases List.mem_or_eq_of_mem_set hl with h1 | h1
    · exact h.set l h1
    · rw [h1]; exact toSet_set _
  · rw [stAt_put S _ _ hj] at hx
    by_cases e : n.toNat = p.left.toNat
    · rw [if_pos e] at hx
      rcases (joinL_mem _ _ _).1 hx with h1 | h1
      · obtain ⟨q, a, b', c⟩ := h.der _ x h1
        exact ⟨q, a, b'.trans e.symm, c⟩
      · exact ⟨p, hp, e.symm, h.row hok p.right (fun s hs ht => prOk_sym (hok p hp) hs ht) x h1⟩
    · rw [if_neg e] at hx; exact h.der n x hx
def overBW (k : Int) (most : Nat) (S : Sts) (l : List Sy) : Bool := (List.range l.length).any fun i => decide (most < (rowSW k S (l.take (i + 1))).length)
theorem overB_iffW (k : Int) (most : Nat) (S : Sts) (l : List Sy) : overBW k most S l = true ↔ OverRW k most S l := by
  unfold overBW OverRW
  rw [List.any_eq_true]
  constructor
  · rintro ⟨i, h1, h2⟩; exact ⟨i, List.mem_range.1 h1, of_decide_eq_true h2⟩
  · rintro ⟨i, h1, h2⟩; exact ⟨i, List.mem_range.2 h1, decide_eq_true h2⟩
theorem overB_notW (k : Int) (most : Nat) (S : Sts) (l : List Sy) : overBW k most S l = false ↔ ¬ OverRW k most S l := by
  rw [← overB_iffW, Bool.not_eq_true]
/-- A production's look: a state without sets is one in which too much was found. -/
def lookGW (b : Bn) (k : Int) (most : Nat) (st : Option Sts) (i : Nat) : Option Sts × Int :=
  match st with
  | none => (none, -1)
  | some S => match b.l[i]? with
    | none => (some S, -1)
    | some p =>
      if overBW k most S p.right = true ∨ most < (joinL (stAt S p.left) (rowSW k S p.right)).length then (none, 0)
      else if (joinL (stAt S p.left) (rowSW k S p.right)).length = (stAt S p.left).length then (some S, -1)
      else (some (S.set p.left.toNat (joinL (stAt S p.left) (rowSW k S p.right))), p.left)
structure InvSW (b : Bn) (k : Int) (most : Nat) (S : Sts) : Prop where
  sound : SoundW b k S
  le : ∀ a ∈ S, Le k a
  few : ∀ a ∈ S, a.length ≤ most
def InvGW (b : Bn) (k : Int) (most : Nat) (st : Option Sts) : Prop := match st with
  | none => True
  | some S => InvSW b k most S
theorem lookG_atW {b : Bn} {k : Int} {most : Nat} {S : Sts} {i : Nat} {p : Pr} (hp : b.l[i]? = some p) : lookGW b k most (some S) i =
    if overBW k most S p.right = true ∨ most < (joinL (stAt S p.left) (rowSW k S p.right)).length then (none, 0)
      else if (joinL (stAt S p.left) (rowSW k S p.right)).length = (stAt S p.left).length then (some S, -1)
      else (some (S.set p.left.toNat (joinL (stAt S p.left) (rowSW k S p.right))), p.left) := by
  unfold lookGW; simp only [hp]
theorem lookG_noneW (b : Bn) (k : Int) (most : Nat) (i : Nat) : lookGW b k most none i = (none, -1) := rfl
theorem InvSW.put {b : Bn} {k : Int} {most : Nat} {S : Sts} (hok : ∀ p ∈ b.l, prOk b p = true) (hk : 0 ≤ k) (h : InvSW b k most S) (p : Pr) (hp : p ∈ b.l) (hm : ¬ most < (joinL (stAt S p.left) (rowSW k S p.right)).length) : InvSW b k most (S.set p.left.toNat (joinL (stAt S p.left) (rowSW k S p.right))) := by
  refine ⟨h.sound.put hok p hp, fun a ha => ?_, fun a ha => ?_⟩
  · rcases List.mem_or_eq_of_mem_set ha with h1 | h1
    · exact h.le a h1
    · rw [h1]
      intro x hx
      rcases (joinL_mem _ _ _).1 hx with h2 | h2
      · unfold stAt at h2
        cases e : S[p.left.toNat]? with
        | none => rw [e] at h2; cases h2
        | some c => rw [e] at h2; exact h.le c (List.mem_of_getElem? e) x h2
      · exact rowS_leW hk S _ x h2
  · rcases List.mem_or_eq_of_mem_set ha with h1 | h1
    · exact h.few a h1
    · rw [h1]; omega
theorem stAt_isSetW {b : Bn} {k : Int} {most : Nat} {S : Sts} (h : InvSW b k most S) (n : Int) : IsSet (stAt S n) := stAt_set S n h.sound.set
/-- A look is as Settle asks. -/
theorem look_growW (b : Bn) (k : Int) (most : Nat) (ask : Int → List Int) (hok : ∀ p ∈ b.l, prOk b p = true) (hk : 0 ≤ k) (hN : b.of.length ≤ 500)
    (hask : ∀ (j : Nat) p, b.l[j]? = some p → ∀ s ∈ p.right, s.tok = false → (j : Int) ∈ ask s.n) : Look b.l.length ask (lookGW b k most) (muG most) (InvGW b k most) := by
  have hat : ∀ i, i < b.l.length → ∃ p, b.l[i]? = some p ∧ p ∈ b.l := fun i hi => ⟨_, List.getElem?_eq_getElem hi, List.getElem_mem hi⟩
  refine ⟨fun st i hi hI hl => ?_, fun st i hi hI => ?_, fun st i hi hI hl => ?_, fun st i j hi hj hI hl hn hor => ?_, fun st i hi hI => ?_⟩
  · cases st with
    | none => rfl
    | some S =>
      obtain ⟨p, hp, hpm⟩ := hat i hi
      have h1 := prOk_left (hok p hpm)
      rw [lookG_atW hp] at hl ⊢
      split at hl
      · simp at hl
      · split at hl
        · rename_i h2 h3; rw [if_neg h2, if_pos h3]
        · simp only at hl; omega
  · cases st with
    | none => trivial
    | some S =>
      obtain ⟨p, hp, hpm⟩ := hat i hi
      rw [lookG_atW hp]
      split
      · trivial
      · rename_i h2
        split
        · exact hI
        · exact InvSW.put hok hk hI p hpm fun h => h2 (.inr h)
  · cases st with
    | none => rw [lookG_noneW] at hl; simp at hl
    | some S =>
      obtain ⟨p, hp, hpm⟩ := hat i hi
      have h1 := prOk_left (hok p hpm)
      rw [lookG_atW hp] at hl ⊢
      split
      · show 0 < 1 + _; omega
      · rename_i h2
        rw [if_neg h2] at hl
        split
        · rename_i h3; rw [if_pos h3] at hl; simp at hl
        · rename_i h3
          have hjl : p.left.toNat < S.length := by rw [hI.sound.len]; omega
          show 1 + _ < 1 + _
          rw [List.map_set]
          have e : stAt S p.left = S[p.left.toNat] := by unfold stAt; rw [List.getElem?_eq_getElem hjl]; rfl
          have h4 := join_le (b := rowSW k S p.right) (stAt_isSetW hI p.left)
          have h5 : (joinL (stAt S p.left) (rowSW k S p.right)).length ≤ most := Nat.not_lt.1 fun h => h2 (.inr h)
          have := sum_set_lt (S.map fun a => most - a.length) p.left.toNat (most - (joinL (stAt S p.left) (rowSW k S p.right)).length) (by simpa using hjl) (by
            rw [List.getElem_map, ← e]; omega)
          omega
  · cases st with
    | none => rw [lookG_noneW] at hl; simp at hl
    | some S =>
      obtain ⟨p, hp, hpm⟩ := hat i hi
      obtain ⟨q, hq, hqm⟩ := hat j hj
      have h1 := prOk_left (hok p hpm)
      have h1q := prOk_left (hok q hqm)
      have hjl : p.left.toNat < S.length := by rw [hI.sound.len]; omega
      rw [lookG_atW hp] at hl hn ⊢
      split at hl
      · rename_i h2; rw [if_pos h2]; exact (by decide : (-1 : Int) < 0)
      · rename_i h2
        rw [if_neg h2] at hn ⊢
        split at hl
        · simp at hl
        · rename_i h3
          rw [if_neg h3] at hn ⊢
          simp only at hn ⊢
          have hr : rowSW k (S.set p.left.toNat (joinL (stAt S p.left) (rowSW k S p.right))) q.right = rowSW k S q.right := rowS_congrW k q.right fun s hs ht => by
            rw [stAt_put S _ _ hjl]
            by_cases e : s.n.toNat = p.left.toNat
            · have hs2 := prOk_sym (hok q hqm) hs ht
              have e2 : s.n = p.left := by omega
              exact absurd (e2 ▸ hask j q hq s hs ht) hn
            · rw [if_neg e]
          have hrt : ∀ m, rowSW k (S.set p.left.toNat (joinL (stAt S p.left) (rowSW k S p.right))) (q.right.take m) = rowSW k S (q.right.take m) := fun m => rowS_congrW k _ fun s hs ht => by
            rw [stAt_put S _ _ hjl]
            by_cases e : s.n.toNat = p.left.toNat
            · have hs1 := List.mem_of_mem_take hs
              have hs2 := prOk_sym (hok q hqm) hs1 ht
              have e2 : s.n = p.left := by omega
              exact absurd (e2 ▸ hask j q hq s hs1 ht) hn
            · rw [if_neg e]
          have hov : overBW k most (S.set p.left.toNat (joinL (stAt S p.left) (rowSW k S p.right))) q.right = overBW k most S q.right := by
            unfold overBW; simp only [hrt]
          have hIq := InvSW.put hok hk hI p hpm fun h => h2 (.inr h)
          -- what the row of q holds is in the set of its left side by now
          have hin : (overBW k most S q.right = false) ∧ ∀ x ∈ rowSW k S q.right, x ∈ stAt (S.set p.left.toNat (joinL (stAt S p.left) (rowSW k S p.right))) q.left := by
            rcases hor with h4 | h4
            · rw [lookG_atW hq] at h4
              split at h4
              · simp at h4
              · rename_i h5
                split at h4
                · rename_i h6
                  refine ⟨?_, fun x hx => ?_⟩
                  · cases e : overBW k most S q.right with
                    | false => rfl
                    | true => exact absurd (.inl e) h5
                  · exact sub_put p _ hjl (fun y hy => (joinL_mem _ _ _).2 (.inl hy)) _ _ ((join_same (stAt_isSetW hI q.left) h6).2 x hx)
                · simp only at h4; omega
            · subst h4
              rw [hp] at hq
              cases hq
              refine ⟨?_, fun x hx => ?_⟩
              · cases e : overBW k most S p.right with
                | false => rfl
                | true => exact absurd (.inl e) h2
              · rw [stAt_put S _ _ hjl, if_pos rfl]; exact (joinL_mem _ _ _).2 (.inr hx)
          have hsame : joinL (stAt (S.set p.left.toNat (joinL (stAt S p.left) (rowSW k S p.right))) q.left) (rowSW k S q.right) = stAt (S.set p.left.toNat (joinL (stAt S p.left) (rowSW k S p.right))) q.left := by
            refine set_ext (toSet_set _) (stAt_isSetW hIq q.left) fun x => ?_
            rw [joinL_mem]
            exact ⟨fun h => h.elim id (hin.2 x), .inl⟩
          have hfew : ¬ most < (stAt (S.set p.left.toNat (joinL (stAt S p.left) (rowSW k S p.right))) q.left).length := by
            intro h6
            have := stAt_few q.left hIq.few
            omega
          rw [lookG_atW hq, hr, hov, hsame, hin.1, if_neg (by simp [hfew]), if_pos rfl]
          exact (by decide : (-1 : Int) < 0)
  · cases st with
    | none => rw [lookG_noneW]; unfold In64; simp
    | some S =>
      obtain ⟨p, hp, hpm⟩ := hat i hi
      have h1 := prOk_left (hok p hpm)
      rw [lookG_atW hp]
      split
      · unfold In64; simp
      · split
        · unfold In64; simp
        · unfold In64; simp only; omega
/-- When all is quiet, sets are closed, and nothing is too much. -/
theorem quiet_growW {b : Bn} {k : Int} {most : Nat} {S : Sts} (hI : InvSW b k most S) (hok : ∀ p ∈ b.l, prOk b p = true) (h : ∀ q, q < b.l.length → (lookGW b k most (some S) q).2 < 0) : ClosedW b k S ∧ ∀ p ∈ b.l, ¬ OverRW k most S p.right := by
  have key : ∀ p ∈ b.l, ¬ OverRW k most S p.right ∧ ∀ x ∈ rowSW k S p.right, x ∈ stAt S p.left := fun p hp => by
    obtain ⟨i, hi, rfl⟩ := List.getElem_of_mem hp
    have h1 := h i hi
    have h2 := prOk_left (hok _ hp)
    rw [lookG_atW (List.getElem?_eq_getElem hi)] at h1
    split at h1
    · simp at h1
    · rename_i h5
      split at h1
      · rename_i h6
        exact ⟨fun ho => h5 (.inl ((overB_iffW _ _ _ _).2 ho)), (join_same (stAt_isSetW hI _) h6).2⟩
      · simp only at h1; omega
  exact ⟨fun p hp => (key p hp).2, fun p hp => (key p hp).1⟩
end Go.Proofs.Ytimgnbacgdmiiaa
namespace Go.Proofs.Ytimgnbacgdmiiaa
open Go.RowKit PK
set_option linter.unusedVariables false
set_option linter.unusedSimpArgs false
attribute [local go_sem ↓] append_appM

/-- Rows of texts of one length each, in an array. -/
structure OfW (W : World) (g n0 : Nat) (V : List Value) (L : List (List Tx)) : Prop where
  ptr : W.heap[g]? = some (.cells V.toArray 92 (0, 0))
  lv : V.length = L.length
  each : ∀ (j : Nat) (v : Value) (l : List Tx), V[j]? = some v → L[j]? = some l → W.ownsRow n0 9 1 v l.length (svt l)
  apart : Apart V
  lt : g < n0
/-- All texts of a length. -/
def bylen (b : List Tx) (n : Nat) : List Tx := b.filter fun y => decide (y.length = n)
def ofs5 (b : List Tx) : List (List Tx) := (List.range 5).map (bylen b)
theorem bylen_snoc (b : List Tx) (y : Tx) (n : Nat) : bylen (b ++ [y]) n = if y.length = n then bylen b n ++ [y] else bylen b n := by
  unfold bylen
  rw [List.filter_append]
  by_cases h : y.length = n
  · rw [if_pos h]; simp [h]
  · rw [if_neg h]; simp [h]
theorem ofs5_len (b : List Tx) : (ofs5 b).length = 5 := by simp [ofs5]
theorem ofs5_at (b : List Tx) (n : Nat) (h : n < 5) : (ofs5 b)[n]? = some (bylen b n) := by simp [ofs5, h]
theorem ofs5_snoc (b : List Tx) (y : Tx) (h : y.length < 5) : ofs5 (b ++ [y]) = (ofs5 b).set y.length (bylen b y.length ++ [y]) := by
  refine List.ext_getElem? fun i => ?_
  rw [List.getElem?_set]
  by_cases hi : i < 5
  · rw [ofs5_at _ i hi, bylen_snoc]
    by_cases e : y.length = i
    · subst e; rw [if_pos rfl, if_pos rfl, if_pos (by rw [ofs5_len]; exact h)]
    · rw [if_neg e, if_neg e, ofs5_at _ i hi]
  · rw [List.getElem?_eq_none (by rw [ofs5_len]; omega), if_neg (by omega), List.getElem?_eq_none (by rw [ofs5_len]; omega)]
theorem OfW.start (w : World) : OfW (w.alloc (.cells #[.slice none 0 0, .slice none 0 0, .slice none 0 0, .slice none 0 0, .slice none 0 0] 92)) w.heap.size (w.heap.size + 1) [.slice none 0 0, .slice none 0 0, .slice none 0 0, .slice none 0 0, .slice none 0 0] (ofs5 []) := by
  refine ⟨Array.getElem?_push_size, rfl, fun j v l hv hl => ?_, ?_, Nat.lt_succ_self _⟩
  · have h1 : l = [] := by
      have := List.mem_of_getElem? hl
      simp [ofs5, bylen] at this; exact this.2
    have h2 : v = .slice none 0 0 := by
      have := List.mem_of_getElem? hv
      simp at this; exact this
    subst h1 h2
    exact World.ownsRow_nil _ _ _ _
  · refine List.pairwise_iff_getElem.2 fun i j hi hj _ => .inl ?_
    have h2 : ∀ u ∈ ([.slice none 0 0, .slice none 0 0, .slice none 0 0, .slice none 0 0, .slice none 0 0] : List Value), u = .slice none 0 0 := fun u hu => by simpa using hu
    rw [h2 _ (List.getElem_mem hi)]; rfl
theorem OfW.below {W W' : World} {g n0 : Nat} {V : List Value} {L : List (List Tx)} (h : OfW W g n0 V L) (hb : Below W.heap.size W W') : OfW W' g n0 V L := by
  have hg : g < W.heap.size := (Array.getElem?_eq_some_iff.1 h.ptr).1
  exact ⟨(hb.block g hg).trans h.ptr, h.lv, fun j v l hv hl => owns_belowP (h.each j v l hv hl) hb, h.apart, h.lt⟩
theorem OfW.at_ {W : World} {g n0 : Nat} {V : List Value} {L : List (List Tx)} (h : OfW W g n0 V L) (j : Nat) (l : List Tx) (hl : L[j]? = some l) :
    ∃ a c, V[j]? = some (.slice a l.length c) ∧ l.length ≤ c ∧ c ≤ maxLen ∧ W.ownsRow n0 9 1 (.slice a l.length c) l.length (svt l) ∧ W.cell? ⟨g, j, none⟩ = some (.slice a l.length c) ∧ W.frozen? ⟨g, j, none⟩ = false ∧ g < W.heap.size := by
  have hj : j < V.length := by rw [h.lv]; exact (List.getElem?_eq_some_iff.1 hl).1
  have hv := List.getElem?_eq_getElem hj
  have h1 := h.each j _ l hv hl
  obtain ⟨a, c, h2, h3, h4⟩ := owns_valP h1
  refine ⟨a, c, by rw [hv, h2], h3, h4, by rw [← h2]; exact h1, ?_, by simp [World.frozen?, h.ptr], (Array.getElem?_eq_some_iff.1 h.ptr).1⟩
  rw [cell_of_row W g j _ _ (0, 0) h.ptr, ← h2]
  simp
/-- A text put behind one of the rows. -/
theorem OfW.push {W : World} {g n0 : Nat} {V : List Value} {L : List (List Tx)} (h : OfW W g n0 V L) (j : Nat) (l : List Tx) (hl : L[j]? = some l) (a : Option Addr) (c : Nat) (hv : V[j]? = some (.slice a l.length c)) (x : Tx) (hm : l.length + 1 ≤ 1000000) (hn : n0 ≤ W.heap.size) :
    ∃ a' c' W', Sem.run Try.prog (appM #[32, 32] 32 #[.slice a l.length c, .slice (some ⟨W.heap.size, 0, none⟩) 1 1]) (W.alloc (.cells #[.string ⟨x.toArray⟩] 9)) = .ok (.slice a' (l.length + 1) c') W' ∧ W'.cell? ⟨g, j, none⟩ = some (.slice a l.length c) ∧ W'.frozen? ⟨g, j, none⟩ = false ∧ g < W'.heap.size ∧
      OfW (W'.setCell ⟨g, j, none⟩ (.slice a' (l.length + 1) c')) g n0 (V.set j (.slice a' (l.length + 1) c')) (L.set j (l ++ [x])) ∧ Below g W (W'.setCell ⟨g, j, none⟩ (.slice a' (l.length + 1) c')) ∧ n0 ≤ (W'.setCell ⟨g, j, none⟩ (.slice a' (l.length + 1) c')).heap.size := by
  have hown := h.each j _ l hv hl
  obtain ⟨a', c', W', h1, h2, h3, h4, h5, h6⟩ := pushT1 W n0 l.length (.slice a l.length c) l x hn rfl hown hm
  have hb : Below n0 W W' := ((Below.refl n0 W).alloc hn _).grown h5 (by simp; omega) fun k hk => (hown.lt k hk).1
  have hg : g < W.heap.size := (Array.getElem?_eq_some_iff.1 h.ptr).1
  have hptr : W'.heap[g]? = some (.cells V.toArray 92 (0, 0)) := (hb.block g h.lt).trans h.ptr
  have hg' : g < W'.heap.size := (Array.getElem?_eq_some_iff.1 hptr).1
  have hs : (W'.setCell ⟨g, j, none⟩ (.slice a' (l.length + 1) c')).heap.size = W'.heap.size := by simp [World.setCell]
  have hjV : j < V.length := (List.getElem?_eq_some_iff.1 hv).1
  have hlt : ∀ u ∈ V, ∀ k, u.ownBlock = some k → n0 ≤ k ∧ k < W.heap.size := fun u hu k hk => by
    obtain ⟨i, hi⟩ := List.getElem?_of_mem hu
    have hiL : i < L.length := by rw [← h.lv]; exact (List.getElem?_eq_some_iff.1 hi).1
    exact (h.each i u _ hi (List.getElem?_eq_getElem hiL)).lt k hk
  refine ⟨a', c', W', h1, ?_, by simp [World.frozen?, hptr], hg', ⟨?_, by simp [h.lv], fun i v l' hv' hl' => ?_, ?_, h.lt⟩, (hb.mono (Nat.le_of_lt h.lt)).setCell (p := ⟨g, j, none⟩) (Nat.le_refl _) _, by rw [hs]; exact Nat.le_trans hn hb.size⟩
  · rw [cell_of_row W' g j _ _ (0, 0) hptr]; simpa using hv
  · rw [ptr_set hptr j _]; simp
  · have hb' : ∀ q, q ≠ g → (W'.setCell ⟨g, j, none⟩ (.slice a' (l.length + 1) c')).heap[q]? = W'.heap[q]? := fun q hq => Below.heap_setCell _ _ _ _ hq
    rw [List.getElem?_set] at hv' hl'
    by_cases e : j = i
    · subst e
      rw [if_pos rfl, if_pos hjV, Option.some.injEq] at hv'
      rw [if_pos rfl, if_pos (by rw [← h.lv]; exact hjV), Option.some.injEq] at hl'
      subst hv' hl'
      rw [List.length_append, List.length_singleton]
      exact owns_blockN h2 fun q e => hb' q (by have := (h2.lt q e).1; have := h.lt; omega)
    · rw [if_neg e] at hv' hl'
      have h7 := h.each i v l' hv' hl'
      refine owns_blockN h7 fun q e2 => ?_
      have h8 := h7.lt q e2
      rw [hb' q (by have := h.lt; omega), h5.block q (by simp; omega) ?_, Below.heap_alloc _ _ _ h8.2]
      intro e3
      rcases apart_ne h.apart hv hv' e with h9 | h9
      · rw [h9] at e3; cases e3
      · exact h9 (e3.symm.trans e2.symm)
  · exact apart_set h.apart j _ _ (W.heap.size + 1) hv (fun u hu k hk => by have := (hlt u hu k hk).2; omega) h6
/-- All pairs of words that go together, in their order. -/
def pairX (b : List Tx) (x : Tx) (n : Nat) : List (Tx × Tx) := (bylen b n).map fun y => (x, y)
def roomX (k : Int) (x : Tx) : Nat := (k + 1 - (x.length : Int)).toNat
def pairsX (b : List Tx) (k : Int) (x : Tx) : List (Tx × Tx) := (List.range (roomX k x)).flatMap (pairX b x)
def pairsF (a b : List Tx) (k : Int) : List (Tx × Tx) := a.flatMap (pairsX b k)
def catP (p : Tx × Tx) : Tx := p.1 ++ p.2
theorem pairsF_mem (a b : List Tx) (k : Int) (p : Tx × Tx) : p ∈ pairsF a b k ↔ p.1 ∈ a ∧ p.2 ∈ b ∧ ((p.1 ++ p.2).length : Int) ≤ k := by
  obtain ⟨x, y⟩ := p
  unfold pairsF pairsX pairX bylen roomX
  simp only [List.mem_flatMap, List.mem_range, List.mem_map, List.mem_filter, Prod.mk.injEq, decide_eq_true_eq, List.length_append]
  constructor
  · rintro ⟨x', hx, n, hn, y', ⟨hy, e⟩, rfl, rfl⟩
    exact ⟨hx, hy, by omega⟩
  · rintro ⟨hx, hy, h⟩
    exact ⟨x, hx, y.length, by omega, y, ⟨hy, rfl⟩, rfl, rfl⟩
theorem nodup_flatMap_of {α β : Type} (f : α → List β) (key : β → α) : ∀ {l : List α}, l.Nodup → (∀ a ∈ l, (f a).Nodup) → (∀ a ∈ l, ∀ z ∈ f a, key z = a) → (l.flatMap f).Nodup := by
  intro l
  induction l with
  | nil => intro _ _ _; exact List.nodup_nil
  | cons a l ih =>
    intro h1 h2 h3
    rw [List.nodup_cons] at h1
    rw [List.flatMap_cons, List.nodup_append]
    refine ⟨h2 a List.mem_cons_self, ih h1.2 (fun c hc => h2 c (List.mem_cons_of_mem _ hc)) (fun c hc => h3 c (List.mem_cons_of_mem _ hc)), fun z hz z' hz' e => ?_⟩
    subst e
    obtain ⟨c, hc, hz2⟩ := List.mem_flatMap.1 hz'
    have e1 := h3 a List.mem_cons_self z hz
    have e2 := h3 c (List.mem_cons_of_mem _ hc) z hz2
    exact h1.1 (by rw [← e1, e2]; exact hc)
theorem pairsF_nodup {a b : List Tx} (k : Int) (ha : IsSet a) (hb : IsSet b) : (pairsF a b k).Nodup := by
  refine nodup_flatMap_of _ (fun p => p.1) (tset_nodup ha) (fun x _ => ?_) fun x _ p hp => ?_
  · refine nodup_flatMap_of _ (fun p => p.2.length) List.nodup_range (fun n _ => ?_) fun n _ p hp => ?_
    · unfold pairX
      refine List.Pairwise.map _ (fun y y' h e => h (by simpa using e)) (List.Pairwise.filter _ (tset_nodup hb))
    · obtain ⟨y, hy, rfl⟩ := List.mem_map.1 hp
      unfold bylen at hy
      rw [List.mem_filter, decide_eq_true_eq] at hy; exact hy.2
  · obtain ⟨n, _, hp2⟩ := List.mem_flatMap.1 hp
    obtain ⟨y, _, rfl⟩ := List.mem_map.1 hp2
    rfl
theorem pairs_cat (a b : List Tx) (k : Int) : toSet ((pairsF a b k).map catP) = catW a b k := by
  refine set_ext (toSet_set _) (catW_set _ _ _) fun z => ?_
  rw [toSet_mem, catW_mem, List.mem_map]
  constructor
  · rintro ⟨⟨x, y⟩, hp, rfl⟩
    obtain ⟨h1, h2, h3⟩ := (pairsF_mem a b k _).1 hp
    exact ⟨x, h1, y, h2, rfl, h3⟩
  · rintro ⟨x, hx, y, hy, rfl, h⟩
    exact ⟨(x, y), (pairsF_mem a b k _).2 ⟨hx, hy, h⟩, rfl⟩
/-- A word can be put together in no more ways than it has places. -/
theorem ways_le (P : List (Tx × Tx)) (hn : P.Nodup) (h4 : ∀ p ∈ P, (catP p).length ≤ 4) : P.length ≤ 5 * (toSet (P.map catP)).length := by
  have h1 : (P.map fun p => (catP p, p.1.length)).Nodup := by
    refine List.Pairwise.map _ (fun p q h e => h ?_) hn
    simp only [Prod.mk.injEq, catP] at e
    have e1 := List.append_inj e.1 e.2
    exact Prod.ext e1.1 e1.2
  have h2 : (P.map fun p => (catP p, p.1.length)).length ≤ ((toSet (P.map catP)).flatMap fun z => (List.range 5).map fun n => (z, n)).length := nodup_sub h1 fun q hq => by
    obtain ⟨p, hp, rfl⟩ := List.mem_map.1 hq
    refine List.mem_flatMap.2 ⟨catP p, (toSet_mem _ _).2 (List.mem_map.2 ⟨p, hp, rfl⟩), List.mem_map.2 ⟨p.1.length, List.mem_range.2 ?_, rfl⟩⟩
    have := h4 p hp
    unfold catP at this; rw [List.length_append] at this; omega
  rw [List.length_map] at h2
  have h3 : ((toSet (P.map catP)).flatMap fun z => (List.range 5).map fun n => (z, n)).length = 5 * (toSet (P.map catP)).length := by
    generalize toSet (P.map catP) = S
    induction S with
    | nil => rfl
    | cons z S ih => rw [List.flatMap_cons, List.length_append, ih]; simp; omega
  omega
/-- What the two put together is when it is too much. -/
theorem early_big {a b : List Tx} {k : Int} (hk : k ≤ 4) (ha : IsSet a) (hb : IsSet b) {P R : List (Tx × Tx)} (h : P ++ R = pairsF a b k) (hl : 50000 < P.length) : 10000 < (toSet (P.map catP)).length ∧ 10000 < (catW a b k).length := by
  have hn : P.Nodup := (List.nodup_append.1 (by rw [h]; exact pairsF_nodup k ha hb)).1
  have hm : ∀ p ∈ P, p ∈ pairsF a b k := fun p hp => by rw [← h]; exact List.mem_append_left _ hp
  have h1 := ways_le P hn fun p hp => by
    have := ((pairsF_mem a b k p).1 (hm p hp)).2.2
    unfold catP; omega
  have h2 : (toSet (P.map catP)).length ≤ (catW a b k).length := tset_sub (toSet_set _) fun z hz => by
    rw [← pairs_cat, toSet_mem]
    obtain ⟨p, hp, rfl⟩ := List.mem_map.1 ((toSet_mem _ _).1 hz)
    exact List.mem_map.2 ⟨p, hm p hp, rfl⟩
  omega
end Go.Proofs.Ytimgnbacgdmiiaa
namespace Go.Proofs.Ytimgnbacgdmiiaa
open Go.RowKit PK
set_option linter.unusedVariables false
set_option linter.unusedSimpArgs false
attribute [local go_sem ↓] append_appM

/-- What has been put together, in a row of the call's own. -/
def WI (w1 wx : World) (P : List (Tx × Tx)) (n : Nat) (lv : Value) : Prop := P.length = n ∧ wx.ownsRow w1.heap.size 9 1 lv n (svt (P.map catP)) ∧ Below w1.heap.size w1 wx
def pairsN (b : List Tx) (x : Tx) (m : Nat) : List (Tx × Tx) := (List.range m).flatMap (pairX b x)
theorem pairsN_succ (b : List Tx) (x : Tx) (m : Nat) : pairsN b x (m + 1) = pairsN b x m ++ pairX b x m := by
  unfold pairsN; rw [List.range_succ, List.flatMap_append]; simp
theorem pairsF_succ (a b : List Tx) (k : Int) (i : Nat) (h : i < a.length) : pairsF (a.take (i + 1)) b k = pairsF (a.take i) b k ++ pairsN b a[i] (roomX k a[i]) := by
  unfold pairsF pairsN
  rw [List.take_succ_eq_append_getElem h, List.flatMap_append, List.flatMap_cons, List.flatMap_nil, List.append_nil]; rfl
theorem pairX_len (b : List Tx) (x : Tx) (m : Nat) : (pairX b x m).length = (bylen b m).length := by unfold pairX; simp
theorem bylen_le (b : List Tx) (m : Nat) : (bylen b m).length ≤ b.length := List.length_filter_le _ _
/-- Some first pairs leave a rest. -/
theorem pairs_part (a b : List Tx) (k : Int) (i : Nat) (h : i < a.length) (m : Nat) (hm : m ≤ roomX k a[i]) : ∃ R, (pairsF (a.take i) b k ++ pairsN b a[i] m) ++ R = pairsF a b k := by
  have h1 : ∃ R, pairsN b a[i] m ++ R = pairsN b a[i] (roomX k a[i]) := by
    obtain ⟨d, hd⟩ : ∃ d, roomX k a[i] = m + d := ⟨roomX k a[i] - m, by omega⟩
    refine ⟨((List.range d).map (m + ·)).flatMap (pairX b a[i]), ?_⟩
    unfold pairsN
    rw [hd, List.range_add, List.flatMap_append]
  obtain ⟨R, hR⟩ := h1
  refine ⟨R ++ pairsF (a.drop (i + 1)) b k, ?_⟩
  have h2 : pairsF a b k = pairsF (a.take (i + 1)) b k ++ pairsF (a.drop (i + 1)) b k := by
    unfold pairsF; rw [← List.flatMap_append, List.take_append_drop]
  rw [h2, pairsF_succ a b k i h, ← hR]
  simp only [List.append_assoc]
theorem cat_bytes (x y : Tx) : (⟨x.toArray⟩ : ByteArray) ++ ⟨y.toArray⟩ = ⟨(x ++ y).toArray⟩ := by
  apply ByteArray.ext
  simp [ByteArray.data_append]
theorem WI.below {w1 wx wy : World} {P : List (Tx × Tx)} {n : Nat} {lv : Value} (h : WI w1 wx P n lv) (hb : Below wx.heap.size wx wy) : WI w1 wy P n lv := ⟨h.1, owns_belowPK h.2.1 hb, h.2.2.trans (hb.mono h.2.2.size)⟩
/-- One pair more. -/
theorem WI.push {w1 wx : World} {P : List (Tx × Tx)} {n : Nat} {la : Option Addr} {lc : Nat} (h : WI w1 wx P n (.slice la n lc)) (x y : Tx) (hm : n + 1 ≤ 1000000) :
    ∃ a' c' w', Sem.run Try.prog (appM #[32, 32] 32 #[.slice la n lc, .slice (some ⟨wx.heap.size, 0, none⟩) 1 1]) (wx.alloc (.cells #[.string ⟨(x ++ y).toArray⟩] 9)) = .ok (.slice a' (n + 1) c') w' ∧ WI w1 w' (P ++ [(x, y)]) (n + 1) (.slice a' (n + 1) c') := by
  obtain ⟨a', c', w', h1, h2, h3, h4, h5, h6⟩ := pushT1 wx w1.heap.size n (.slice la n lc) (P.map catP) (x ++ y) h.2.2.size (by rw [List.length_map]; exact h.1) h.2.1 hm
  refine ⟨a', c', w', h1, by rw [List.length_append, h.1]; rfl, ?_, h.2.2.trans (((Below.refl _ wx).alloc h.2.2.size _).grown h5 (by simp; have := h.2.2.size; omega) fun k hk => (h.2.1.lt k hk).1)⟩
  rw [List.map_append]; exact h2
/-- What a call that puts words together answers: all of them, or too many. -/
def CatWV (w : World) (a b : List Tx) (k : Int) (e : Ending) (w' : World) : Prop := ∃ v r, e = .returned v ∧ Row w' w'.heap.size 1 v r.length (svt r) ∧ (r = catW a b k ∨ (10000 < r.length ∧ 10000 < (catW a b k).length)) ∧ Below w.heap.size w w'
set_option maxHeartbeats 4000000 in
set_option maxRecDepth 100000 in
theorem within_any (k : Int) (va vb : Value) (a b : List Tx) (w : World) (hk : 0 ≤ k ∧ k ≤ 4) (ra : Row w w.heap.size 1 va a.length (svt a)) (rb : Row w w.heap.size 1 vb b.length (svt b)) (ha : IsSet a) (hb : IsSet b) (la : Le 4 a) (lb : Le 4 b) (na : a.length ≤ 10000) (nb : b.length ≤ 10000) :
    Calls Try.prog 41 #[va, vb, .int .i64 k] w (CatWV w a b k) := by
  obtain ⟨ao, ac, rfl, _, _⟩ := ra.val
  obtain ⟨bo, bc, rfl, _, _⟩ := rb.val
  have Ra := Lib.hid ra; have Rb := Lib.hid rb; have Ha := Lib.hid ha; have Hb := Lib.hid hb; have La := Lib.hid la; have Lb := Lib.hid lb; have Hk := Lib.hid hk
  have Nb := Lib.hid nb
  have hst := OfW.start w
  obtain ⟨an, han⟩ : ∃ an, an = a.length := ⟨_, rfl⟩
  obtain ⟨bn, hbn⟩ : ∃ bn, bn = b.length := ⟨_, rfl⟩
  have Han := Lib.hid han; have Hbn := Lib.hid hbn
  rw [← han] at Ra na ⊢
  rw [← hbn] at Rb nb ⊢
  have Hst := Lib.hid hst
  have hb0 := (Below.refl w.heap.size w).alloc (Nat.le_refl _) (.cells #[.slice none 0 0, .slice none 0 0, .slice none 0 0, .slice none 0 0, .slice none 0 0] 92)
  have Hb0 := Lib.hid hb0
  have hs0 : (w.alloc (.cells #[.slice none 0 0, .slice none 0 0, .slice none 0 0, .slice none 0 0, .slice none 0 0] 92)).heap.size = w.heap.size + 1 := by simp
  have Hs0 := Lib.hid hs0
  clear ra rb ha hb la lb hst hb0 han hbn hs0
  go_enter Try.func41, Try.ntmps41
  go_wp2_with fail
  generalize w.alloc (.cells #[.slice none 0 0, .slice none 0 0, .slice none 0 0, .slice none 0 0, .slice none 0 0] 92) = w1 at *
  go_loopw [18] (fun iv wr => ∃ (i : Nat) (V : List Value), i ≤ bn ∧ iv = .int .i64 (i : Nat) ∧ Hid (OfW wr w.heap.size (w.heap.size + 1) V (ofs5 (b.take i))) ∧ Hid (w.heap.size + 1 ≤ wr.heap.size) ∧ Hid (Below w.heap.size w wr)) (fun iv _ => bn - (intOf iv).toNat)
  case atStart => exact ⟨0, _, Nat.zero_le _, rfl, Hst, Lib.hid (by rw [Hs0.out]; exact Nat.le_refl _), Hb0⟩
  case round =>
    clear Hst Hs0 Hb0
    obtain ⟨i, V, hi, rfl, HV, Hn, HB⟩ := hrel
    by_cases hlt : i < bn
    · have hib : i < b.length := by have := Hbn.out; omega
      have r0 := Rb.out.below HB.out
      obtain ⟨b1, o1, hbo, hb1, _⟩ := r0.at (by rw [svt_length]; have := Hbn.out; omega)
      subst hbo
      have c0 := r0.cell i _ (svt_at b i hib)
      have hy := Lb.out _ (List.getElem_mem hib)
      have hsn := ofs5_snoc (b.take i) b[i] (by omega)
      rw [← List.take_succ_eq_append_getElem hib] at hsn
      have hbl : (bylen (b.take i) b[i].length).length ≤ 10000 := by
        refine Nat.le_trans (List.length_filter_le _ _) ?_
        rw [List.length_take]; have := Hbn.out; omega
      have hL := ofs5_at (b.take i) b[i].length (by omega)
      generalize b[i] = y at *
      obtain ⟨a5, c5, hV5, h51, h52, _, hc5, hf5, hg5⟩ := HV.out.at_ _ _ hL
      obtain ⟨a6, c6, w6, happ, hc6, hf6, hg6, hO6, hB6, hn6⟩ := HV.out.push _ _ hL a5 c5 hV5 y (by omega) Hn.out
      rw [← hsn] at hO6
      have HO6 := Lib.hid hO6
      have HB6 := Lib.hid (HB.out.trans hB6)
      have Hn6 := Lib.hid hn6
      have hy4 : (y.length : Int) ≤ 4 := by omega
      have hy5 : (y.length : Int) < 5 := by omega
      have hy0 : (0 : Int) ≤ (y.length : Int) := by omega
      have hi1 : (i : Int) < (bn : Int) := by omega
      have hi0 : (0 : Int) ≤ (i : Int) := by omega
      have hi9 : (i : Int) ≤ 10000 := by omega
      have hlm : (bylen (b.take i) y.length).length + 1 ≤ 10001 := by omega
      generalize (bylen (b.take i) y.length).length = m5 at *
      have Hlt := Lib.hid hlt
      clear r0 hsn hL hV5 hO6 hB6 hn6 hlt hi hib
      go_wp2_with fail
      go_roundw
      case rel => exact ⟨i + 1, _, Hlt.out, by go_num, HO6, Hn6, HB6⟩
      case measure => have := Hlt.out; simp [intOf]; omega
    · obtain rfl : i = bn := by omega
      have hV := HV.out
      rw [Hbn.out, List.take_length] at hV
      have HV2 := Lib.hid hV
      have HI0 : Hid (WI wr wr (pairsF (a.take 0) b k) 0 (.slice none 0 0)) := Lib.hid ⟨rfl, World.ownsRow_nil _ _ _ _, Below.refl _ _⟩
      have hi0 : decide (i < i) = false := by simp
      have han0 : (0 : Int) ≤ (an : Int) := by omega
      clear hlt hi hV HV
      obtain ⟨w1', rfl⟩ : ∃ w1' : World, w1' = wr := ⟨_, rfl⟩
      go_wp2_with fail
      go_loopw [10, 35] (fun lv av wx => ∃ (i2 n : Nat) (la : Option Addr) (lc : Nat), i2 ≤ an ∧ n ≤ 50000 ∧ av = .int .i64 (i2 : Nat) ∧ lv = .slice la n lc ∧ Hid (WI w1' wx (pairsF (a.take i2) b k) n (.slice la n lc))) (fun _ av _ => an - (intOf av).toNat)
      case atStart => exact ⟨0, 0, none, 0, Nat.zero_le _, Nat.zero_le _, rfl, rfl, HI0⟩
      case round =>
        clear HI0
        obtain ⟨i2, n, la, lc, hi2, hn, rfl, rfl, HI⟩ := hrel
        by_cases hlt : i2 < an
        · have hia : i2 < a.length := by have := Han.out; omega
          have HBx := Lib.hid (HB.out.trans (HI.out.2.2.mono HB.out.size))
          have r0 := Ra.out.below HBx.out
          obtain ⟨b1, o1, hbo, hb1, _⟩ := r0.at (by rw [svt_length]; have := Han.out; omega)
          subst hbo
          have c0 := r0.cell i2 _ (svt_at a i2 hia)
          have hx4 := La.out _ (List.getElem_mem hia)
          have Hpart := Lib.hid (pairs_part a b k i2 hia)
          have Hsucc := Lib.hid (pairsF_succ a b k i2 hia)
          have Hroom : Hid (roomX k a[i2] = (k + 1 - (a[i2].length : Int)).toNat) := Lib.hid rfl
          generalize a[i2] = x at *
          have hx41 : (x.length : Int) ≤ 4 := by omega
          have hx0 : (0 : Int) ≤ (x.length : Int) := by omega
          have hi21 : (i2 : Int) < (an : Int) := by omega
          have hi20 : (0 : Int) ≤ (i2 : Int) := by omega
          have hi29 : (i2 : Int) ≤ 10000 := by omega
          have Hlt := Lib.hid hlt
          have HI3 : Hid (WI w1' wr (pairsF (a.take i2) b k ++ pairsN b x 0) n (.slice la n lc)) := Lib.hid (by
            have := HI.out
            show WI _ _ (_ ++ []) _ _
            rw [List.append_nil]; exact this)
          clear r0 hlt hia hi2 HI
          go_wp2_with fail
          go_loopw [10, 13] (fun lv mv wx => ∃ (m n : Nat) (la : Option Addr) (lc : Nat), m ≤ roomX k x ∧ n ≤ 50000 ∧ mv = .int .i64 (m : Nat) ∧ lv = .slice la n lc ∧ Hid (WI w1' wx (pairsF (a.take i2) b k ++ pairsN b x m) n (.slice la n lc))) (fun _ mv _ => roomX k x - (intOf mv).toNat)
          case atStart => exact ⟨0, n, la, lc, Nat.zero_le _, hn, rfl, rfl, HI3⟩
          case round =>
            clear HI3 hn
            obtain ⟨m, n, la, lc, hm, hn, rfl, rfl, HI⟩ := hrel
            have hcond : ((m : Int) + (x.length : Int) ≤ k) ↔ m < roomX k x := by rw [Hroom.out]; omega
            by_cases hlt : m < roomX k x
            · have hmk := hcond.2 hlt
              have hm4 : m < 5 := by have := Hk.out; omega
              have q1 : decide ((m : Int) + (x.length : Int) ≤ k) = true := decide_eq_true hmk
              have hOf := HV2.out.below HI.out.2.2
              have hL := ofs5_at b m hm4
              obtain ⟨ya, yc, hVm, _, _, _, hcm, hfm, hgm⟩ := hOf.at_ m _ hL
              have hOw := HV2.out.each m _ _ hVm hL
              have Hy := Lib.hid (Row.of_owns hOw)
              have hylen := bylen_le b m
              have hyn4 : (bylen b m).length ≤ 10000 := by have := Hbn.out; omega
              have Hsu := Lib.hid (pairsN_succ b x m)
              have HYl : Hid (∀ y ∈ bylen b m, y.length ≤ 4) := Lib.hid fun y hy => by
                unfold bylen at hy
                rw [List.mem_filter] at hy
                have := Lb.out y hy.1; omega
              have HxY : Hid (pairX b x m = (bylen b m).map fun y => (x, y)) := Lib.hid rfl
              obtain ⟨Y, hY⟩ : ∃ Y, Y = bylen b m := ⟨_, rfl⟩
              rw [← hY] at Hy hyn4 HxY hcm HYl
              obtain ⟨yn, hyn⟩ : ∃ yn, yn = Y.length := ⟨_, rfl⟩
              rw [← hyn] at Hy hyn4 hcm
              have Hyn := Lib.hid hyn
              have hm1 : (m : Int) < 5 := by omega
              have hm2 : (0 : Int) ≤ (m : Int) := by omega
              have Hlt := Lib.hid hlt
              have HI4 : Hid (WI w1' wr ((pairsF (a.take i2) b k ++ pairsN b x m) ++ (Y.take 0).map fun y => (x, y)) n (.slice la n lc)) := Lib.hid (by rw [List.take_zero, List.map_nil, List.append_nil]; exact HI.out)
              have Hpt := Lib.hid (Hpart.out (m + 1) Hlt.out)
              rw [Hsu.out, HxY.out, ← List.append_assoc] at Hpt
              clear hcond hmk hm4 hOf hL hVm hOw hylen hY hyn hlt hm HI
              rw [HxY.out] at Hsu
              obtain ⟨P, hP⟩ : ∃ P, P = pairsF (a.take i2) b k ++ pairsN b x m := ⟨_, rfl⟩
              rw [← hP] at HI4 Hpt
              have HP := Lib.hid hP
              clear hP
              go_wp2_with fail
              go_loopw [10, 51] (fun lv jv wx => ∃ (j n : Nat) (la : Option Addr) (lc : Nat), j ≤ yn ∧ n ≤ 50000 + j ∧ jv = .int .i64 (j : Nat) ∧ lv = .slice la n lc ∧ Hid (WI w1' wx (P ++ (Y.take j).map fun y => (x, y)) n (.slice la n lc))) (fun _ jv _ => yn - (intOf jv).toNat)
              case atStart => exact ⟨0, n, la, lc, Nat.zero_le _, by omega, rfl, rfl, HI4⟩
              case round =>
                clear HI4 hn hcm hfm hgm
                obtain ⟨j, n, la, lc, hj, hn, rfl, rfl, HI⟩ := hrel
                by_cases hlt : j < yn
                · have hjY : j < Y.length := by rw [← Hyn.out]; exact hlt
                  have r0 := Hy.out.below (HI.out.2.2)
                  obtain ⟨b2, o2, hbo2, hb2, _⟩ := r0.at (by rw [svt_length]; omega)
                  subst hbo2
                  have c2 := r0.cell j _ (svt_at Y j hjY)
                  have Htk : Hid ((P ++ (Y.take j).map fun y => (x, y)) ++ [(x, Y[j])] = P ++ (Y.take (j + 1)).map fun y => (x, y)) := Lib.hid (by
                    rw [List.append_assoc, List.take_succ_eq_append_getElem hjY, List.map_append]; rfl)
                  obtain ⟨a7, c7, w7, happ, hI7⟩ := HI.out.push x Y[j] (by omega)
                  rw [Htk.out] at hI7
                  have HI7 := Lib.hid hI7
                  rw [← cat_bytes] at happ
                  have hyl4 := HYl.out _ (List.getElem_mem hjY)
                  generalize Y[j] = y at *
                  have hsum : x.length + y.length ≤ 8 := by omega
                  have hj1 : (j : Int) < (yn : Int) := by omega
                  have hj2 : (0 : Int) ≤ (j : Int) := by omega
                  have hj3 : (j : Int) ≤ 10000 := by omega
                  have Hlt := Lib.hid hlt
                  clear r0 hb2 hjY hlt hj HI hI7 Htk hyl4
                  go_wp2_with fail
                  go_roundw
                  case rel => exact ⟨j + 1, n + 1, _, _, Hlt.out, by omega, by go_num, rfl, HI7⟩
                  case measure => have := Hlt.out; simp [intOf]; omega
                · obtain rfl : j = yn := by omega
                  have hIe := HI.out
                  rw [Hyn.out, List.take_length] at hIe
                  have HIe := Lib.hid hIe
                  have Hpp : Hid (pairsF (a.take i2) b k ++ pairsN b x (m + 1) = P ++ Y.map fun y => (x, y)) := Lib.hid (by rw [Hsu.out, ← List.append_assoc, HP.out])
                  have hj0 : decide (j < j) = false := by simp
                  by_cases hbig : 50000 < n
                  · have q2 : decide (50000 < n) = true := decide_eq_true hbig
                    have q3 : decide ((50000 : Int) < (n : Int)) = true := decide_eq_true (by omega)
                    have hmk := Lib.hid (packMake_any (.slice la n lc) ((P ++ Y.map fun y => (x, y)).map catP) wr.heap.size wr (Nat.le_refl _) (by have h1 := hIe.1; have h2 := Row.of_owns hIe.2.1; rw [List.length_map, h1]; exact h2) (by rw [List.length_map, hIe.1]; omega))
                    have HE : Hid (∀ v w9, w9.ownsRow wr.heap.size 9 1 v (toSet ((P ++ Y.map fun y => (x, y)).map catP)).length (svt (toSet ((P ++ Y.map fun y => (x, y)).map catP))) → Below wr.heap.size wr w9 → CatWV w a b k (.returned v) w9) := Lib.hid fun v w9 ho hb9 => by
                      obtain ⟨R, hR⟩ := Hpt.out
                      have h1 := early_big Hk.out.2 Ha.out Hb.out hR (by rw [hIe.1]; exact hbig)
                      exact ⟨v, _, rfl, Row.of_owns ho, .inr h1, HB.out.trans ((hIe.2.2.trans (hb9.mono hIe.2.2.size)).mono HB.out.size)⟩
                    clear hIe hbig hj HI HIe Hpp hlt
                    generalize toSet ((P ++ Y.map fun y => (x, y)).map catP) = T at *
                    go_wp2_with fail
                    refine (hmk.out).mono ?_
                    rintro e w9 ⟨v9, rfl, ho9, hb9⟩
                    have HE9 := Lib.hid (HE.out _ _ ho9 hb9)
                    clear ho9 hb9
                    go_wp2_with fail
                    go_ret
                    exact HE9.out
                  · have q2 : decide (50000 < n) = false := decide_eq_false hbig
                    have q3 : decide ((50000 : Int) < (n : Int)) = false := decide_eq_false (by omega)
                    have hn5 : n ≤ 50000 := by omega
                    have HI8 : Hid (WI w1' wr (pairsF (a.take i2) b k ++ pairsN b x (m + 1)) n (.slice la n lc)) := Lib.hid (by rw [Hpp.out]; exact hIe)
                    have hm9 : (m : Int) ≤ 1000 := by omega
                    clear hIe hbig hj HI HIe Hpp hlt hn
                    go_wp2_with fail
                    go_roundw
                    case rel => exact ⟨m + 1, n, la, lc, Hlt.out, hn5, by go_num, rfl, HI8⟩
                    case measure => have := Hlt.out; simp [intOf]; omega
            · have q1 : decide ((m : Int) + (x.length : Int) ≤ k) = false := decide_eq_false fun h => hlt (hcond.1 h)
              obtain rfl : m = roomX k x := by omega
              have HI9 : Hid (WI w1' wr (pairsF (a.take (i2 + 1)) b k) n (.slice la n lc)) := Lib.hid (by rw [Hsucc.out]; exact HI.out)
              have hm9 : (roomX k x : Int) ≤ 1000 := by rw [Hroom.out]; have := Hk.out; omega
              clear hcond hlt hm HI
              generalize roomX k x = m at *
              go_wp2_with fail
              go_roundw
              case rel => exact ⟨i2 + 1, n, la, lc, Hlt.out, hn, by go_num, rfl, HI9⟩
              case measure => have := Hlt.out; simp [intOf]; omega
        · obtain rfl : i2 = an := by omega
          have hIe := HI.out
          rw [Han.out, List.take_length] at hIe
          have hi0 : decide (i2 < i2) = false := by simp
          have hmk := Lib.hid (packMake_any (.slice la n lc) ((pairsF a b k).map catP) wr.heap.size wr (Nat.le_refl _) (by have h1 := hIe.1; have h2 := Row.of_owns hIe.2.1; rw [List.length_map, h1]; exact h2) (by rw [List.length_map, hIe.1]; omega))
          rw [pairs_cat] at hmk
          have HE : Hid (∀ v w9, w9.ownsRow wr.heap.size 9 1 v (catW a b k).length (svt (catW a b k)) → Below wr.heap.size wr w9 → CatWV w a b k (.returned v) w9) := Lib.hid fun v w9 ho hb9 =>
            ⟨v, _, rfl, Row.of_owns ho, .inl rfl, HB.out.trans ((hIe.2.2.trans (hb9.mono hIe.2.2.size)).mono HB.out.size)⟩
          clear hIe hlt hi2 HI
          generalize catW a b k = T at *
          go_wp2_with fail
          refine (hmk.out).mono ?_
          rintro e w9 ⟨v9, rfl, ho9, hb9⟩
          have HE9 := Lib.hid (HE.out _ _ ho9 hb9)
          clear ho9 hb9
          go_wp2_with fail
          go_ret
          exact HE9.out
set_option maxHeartbeats 2000000 in
/-- The function that Words hands to grow. -/
theorem words1_any (k : Int) (kb : Nat) (va vb : Value) (a b : List Tx) (w : World) (hc : w.cell? ⟨kb, 0, none⟩ = some (.int .i64 k)) (hkb : kb < w.heap.size) (hk : 0 ≤ k ∧ k ≤ 4) (ra : Row w w.heap.size 1 va a.length (svt a)) (rb : Row w w.heap.size 1 vb b.length (svt b)) (ha : IsSet a) (hb : IsSet b) (la : Le 4 a) (lb : Le 4 b) (na : a.length ≤ 10000) (nb : b.length ≤ 10000) :
    Calls Try.prog 40 #[va, vb, .pointer (some ⟨kb, 0, none⟩)] w (CatWV w a b k) := by
  have Hw := Lib.hid (within_any k va vb a b w hk ra rb ha hb la lb na nb)
  clear ra rb ha hb la lb na nb hk
  go_enter Try.func40, Try.ntmps40
  go_wp2_with fail
  refine (Hw.out).mono ?_
  intro e w2 h
  obtain ⟨v, r, rfl, h1, h2, h3⟩ := h
  have HE : Hid (CatWV w a b k (.returned v) w2) := Lib.hid ⟨v, r, rfl, h1, h2, h3⟩
  clear h1 h2 h3 Hw
  go_wp2_with fail
  go_ret
  exact HE.out
end Go.Proofs.Ytimgnbacgdmiiaa
namespace Go.Proofs.Ytimgnbacgdmiiaa
open Go.RowKit PK
set_option linter.unusedVariables false
set_option linter.unusedSimpArgs false
attribute [local go_sem ↓] append_appM

/-- What row.Of answers. -/
def RowOfPW (w : World) (k : Int) (most : Nat) (S : Sts) (l : List Sy) (e : Ending) (w' : World) : Prop :=
  ((¬ OverRW k most S l ∧ ∃ v, e = .returned (.tuple #[v, .bool true]) ∧ Row w' w'.heap.size 1 v (rowSW k S l).length (svt (rowSW k S l))) ∨ (OverRW k most S l ∧ e = .returned (.tuple #[.slice none 0 0, .bool false]))) ∧ Below w.heap.size w w'
set_option maxHeartbeats 2000000 in
set_option maxRecDepth 100000 in
theorem rowOf_anyW (l : List Sy) (lv : Value) (k : Int) (kb g N c most : Nat) (S : Sts) (BL : Nat) (w : World) (rl : SR w BL lv l) (hBL : BL ≤ w.heap.size) (h : SetsR w g N c S) (hc : w.cell? ⟨kb, 0, none⟩ = some (.int .i64 k)) (hkb : kb < w.heap.size) (hk : 0 ≤ k ∧ k ≤ 4) (hm : most ≤ 10000) (hS : SOkW k S) (hs : ∀ s ∈ l, (s.tok = true → 0 ≤ s.n ∧ s.n ≤ 255) ∧ (s.tok = false → 0 ≤ s.n ∧ s.n < N)) (hN : N ≤ 1000) :
    Calls Try.prog 38 #[lv, .slice (some ⟨g, 0, none⟩) N c, .int .i64 (most : Nat), .func (.func 40) #[] #[.pointer (some ⟨kb, 0, none⟩)]] w (RowOfPW w k most S l) := by
  obtain ⟨la, lc, rfl, hl1, hl2⟩ := Row.val rl
  unfold maxLen at hl2
  have hr0 : Row (w.alloc (.cells #[.string ⟨#[]⟩] 9)) (w.alloc (.cells #[.string ⟨#[]⟩] 9)).heap.size 1 (.slice (some ⟨w.heap.size, 0, none⟩) 1 1) 1 (svt [[]]) := (row_cellsB w (svt [[]]) 1 1 1 9 rfl (Nat.le_refl _) (by unfold maxLen; omega)).mono (by simp)
  have hb0 := (Below.refl w.heap.size w).alloc (Nat.le_refl _) (.cells #[.string ⟨#[]⟩] 9)
  obtain ⟨ln, hln⟩ : ∃ ln, ln = l.length := ⟨_, rfl⟩
  have Rl := Lib.hid (fun W (hW : Below w.heap.size w W) => (show SR W BL (.slice la l.length lc) l from Row.below rl (hW.mono hBL)))
  rw [← hln] at Rl hl1 ⊢
  have HS := Lib.hid h; have Hc := Lib.hid hc; have Hkb := Lib.hid hkb; have Hk := Lib.hid hk; have HSo := Lib.hid hS; have Hs := Lib.hid hs; have Hr0 := Lib.hid hr0; have Hb0 := Lib.hid hb0; have Hln := Lib.hid hln; have Hm := Lib.hid hm; have HN := Lib.hid hN
  have hl63 : (ln : Int) ≤ 9223372036854775807 := by omega
  have hm63 : (most : Int) ≤ 10000 := by omega
  clear rl hBL h hc hkb hk hS hs hr0 hb0 hln hl1 hl2 hm hN
  go_enter Try.func38, Try.ntmps38
  go_wp2_with fail
  go_loopw [10, 16] (fun rv iv wr => ∃ i : Nat, i ≤ ln ∧ iv = .int .i64 (i : Nat) ∧ Hid (Row wr wr.heap.size 1 rv (rowSW k S (l.take i)).length (svt (rowSW k S (l.take i)))) ∧ Hid (∀ j, j < i → (rowSW k S (l.take (j + 1))).length ≤ most) ∧ Hid (Below w.heap.size w wr)) (fun _ iv _ => ln - (intOf iv).toNat)
  case atStart => exact ⟨0, Nat.zero_le _, rfl, Hr0, Lib.hid (fun j hj => by omega), Hb0⟩
  case round =>
    clear Hr0 Hb0
    obtain ⟨i, hi, rfl, HR, HO, HB⟩ := hrel
    obtain ⟨ra, rc, rfl, _, _⟩ := HR.out.val
    by_cases hlt : i < ln
    · have hil : i < l.length := by have := Hln.out; omega
      obtain ⟨b6, o6, hao, hb6, f0, f1⟩ := SR.get (show SR wr BL (.slice la l.length lc) l by have := Rl.out wr HB.out; rw [Hln.out] at this; exact this) i hil
      subst hao
      have hsn := Hs.out l[i] (List.getElem_mem hil)
      have Hsu := Lib.hid (rowS_succW k S l i hil)
      generalize l[i] = s at *
      have hok := symS_okW Hk.out.2 HSo.out s
      obtain ⟨t, n⟩ := s
      simp only at f0 f1 hsn
      have hbs := (Below.refl wr.heap.size wr).alloc (Nat.le_refl _) (.cells #[.bool t, .int .i64 n] 39)
      have hx0 : (wr.alloc (.cells #[.bool t, .int .i64 n] 39)).cell? ⟨wr.heap.size, 0, none⟩ = some (.bool t) := cell_new wr _ _ 0 _ rfl
      have hx1 : (wr.alloc (.cells #[.bool t, .int .i64 n] 39)).cell? ⟨wr.heap.size, 1, none⟩ = some (.int .i64 n) := cell_new wr _ _ 1 _ rfl
      have HBs := Lib.hid (HB.out.trans (hbs.mono HB.out.size))
      have HRs := Lib.hid ((HR.out.below hbs).mono hbs.size)
      have Hset := Lib.hid (rowSet_any ⟨t, n⟩ g N c S _ (HS.out.below HBs.out) HN.out hsn.1 hsn.2)
      have hrl : Le 4 (rowSW k S (l.take i)) := fun x hx => by have := rowS_leW Hk.out.1 S _ x hx; have := Hk.out; omega
      have hrn : (rowSW k S (l.take i)).length ≤ 10000 := by
        rcases Nat.eq_zero_or_pos i with rfl | hp
        · show (rowSW k S []).length ≤ 10000
          show ([[]] : List Tx).length ≤ 10000
          simp
        · have := HO.out (i - 1) (by omega)
          rw [show i - 1 + 1 = i by omega] at this
          have := Hm.out; omega
      have Hcat := Lib.hid (fun W vb (hW : Below w.heap.size w W) (hr : Row W W.heap.size 1 (.slice ra (rowSW k S (l.take i)).length rc) (rowSW k S (l.take i)).length (svt (rowSW k S (l.take i)))) (hr2 : Row W W.heap.size 1 vb (symS S ⟨t, n⟩).length (svt (symS S ⟨t, n⟩))) => words1_any k kb _ vb _ _ W ((hW.cell (p := ⟨kb, 0, none⟩) Hkb.out).trans Hc.out) (Nat.lt_of_lt_of_le Hkb.out hW.size) Hk.out hr hr2 (rowS_setW _ _ _) hok.1 hrl hok.2.1 hrn hok.2.2)
      have Hlt := Lib.hid hlt
      have hi1 : (i : Int) < (ln : Int) := by omega
      have hi2 : (0 : Int) ≤ (i : Int) := by omega
      have Hov : Hid (most < (rowSW k S (l.take (i + 1))).length → OverRW k most S l) := Lib.hid fun h => ⟨i, hil, h⟩
      obtain ⟨rn, hrn2⟩ : ∃ rn, rn = (rowSW k S (l.take i)).length := ⟨_, rfl⟩
      rw [← hrn2] at HRs Hcat HR ⊢
      clear hil hb6 hbs hsn hok hlt hi hrl hrn hrn2 HR
      obtain ⟨r2, hr2⟩ : ∃ r2, r2 = rowSW k S (l.take (i + 1)) := ⟨_, rfl⟩
      rw [← hr2] at Hov
      have HovT : Hid (10000 < r2.length → OverRW k most S l) := Lib.hid fun h => Hov.out (by have := Hm.out; omega)
      have Hr2 := Lib.hid hr2
      rw [← hr2] at Hsu
      clear hr2
      generalize symS S ⟨t, n⟩ = y at *
      go_upto_region 5 with fail
      generalize wr.alloc (.cells #[.bool t, .int .i64 n] 39) = ws at *
      clear f0 f1
      go_wp2_with fail
      refine (Hset.out).mono ?_
      intro e w3 hp3
      obtain ⟨a3, c3, rfl, hr3, hb3⟩ := hp3.at
      have HB3 := Lib.hid (HBs.out.trans (hb3.mono HBs.out.size))
      have Hcall := Lib.hid (Hcat.out w3 _ HB3.out ((HRs.out.below hb3).mono hb3.size) hr3)
      generalize y.length = yn at *
      clear hp3 hr3 hb3 Hset Hcat hx0 hx1
      go_wp2_with fail
      refine (Hcall.out).mono ?_
      intro e w4 hp4
      obtain ⟨v4, r4, rfl, hr4, hcase, hb4⟩ := hp4
      obtain ⟨a4, c4, rfl, _, _⟩ := hr4.val
      rw [← Hsu.out] at hcase
      have Hov4 : Hid (most < r4.length → OverRW k most S l) := Lib.hid fun h => by
        rcases hcase with h1 | h1
        · subst h1; exact Hov.out h
        · exact HovT.out h1.2
      have Heq4 : Hid (r4.length ≤ most → r4 = r2) := Lib.hid fun h => by
        rcases hcase with h1 | h1
        · exact h1
        · have := Hm.out; omega
      have HB4 := Lib.hid (HB3.out.trans (hb4.mono HB3.out.size))
      have Hr4 := Lib.hid hr4
      obtain ⟨r2n, hr2n⟩ : ∃ r2n, r2n = r4.length := ⟨_, rfl⟩
      rw [← hr2n] at Hr4 Hov4 Heq4 ⊢
      have Hr2n := Lib.hid hr2n
      clear hcase hr4 hb4 Hcall hr2n Hov HovT
      by_cases hov : most < r2n
      · have q1 : decide (most < r2n) = true := decide_eq_true hov
        have q2 : decide ((most : Int) < (r2n : Int)) = true := decide_eq_true (by omega)
        have HE : Hid (RowOfPW w k most S l (.returned (.tuple #[.slice none 0 0, .bool false])) w4) := Lib.hid ⟨.inr ⟨Hov4.out hov, rfl⟩, HB4.out⟩
        clear hov
        go_wp2_with fail
        go_ret2
        exact HE.out
      · have q1 : decide (most < r2n) = false := decide_eq_false hov
        have q2 : decide ((most : Int) < (r2n : Int)) = false := decide_eq_false (by omega)
        have Hle := Lib.hid (Nat.not_lt.1 hov)
        have e4 := Heq4.out Hle.out
        rw [e4] at Hr4 Hr2n
        clear hov e4 Heq4 Hov4
        go_wp2_with fail
        go_roundw
        case rel => exact ⟨i + 1, Hlt.out, by go_num, Lib.hid (by rw [← Hr2.out, ← Hr2n.out]; exact Hr4.out), Lib.hid (fun j hj => by
          rcases Nat.lt_or_ge j i with h1 | h1
          · exact HO.out j h1
          · obtain rfl : j = i := by omega
            rw [← Hr2.out, ← Hr2n.out]; exact Hle.out), HB4⟩
        case measure => have := Hlt.out; simp [intOf]; omega
    · obtain rfl : i = ln := by omega
      have Hno : Hid (¬ OverRW k most S l) := Lib.hid fun ⟨j, hj, h1⟩ => by
        have := HO.out j (by have := Hln.out; omega); omega
      have hR := HR.out
      rw [Hln.out, List.take_length] at hR
      have hi0 : decide (i < i) = false := by simp
      obtain ⟨rn, hrn2⟩ : ∃ rn, rn = (rowSW k S (l.take i)).length := ⟨_, rfl⟩
      have hrn3 : rn = (rowSW k S l).length := by rw [hrn2, Hln.out, List.take_length]
      rw [← hrn2]
      have HE : Hid (RowOfPW w k most S l (.returned (.tuple #[.slice ra rn rc, .bool true])) wr) := Lib.hid ⟨.inl ⟨Hno.out, _, rfl, by rw [hrn3]; exact hR⟩, HB.out⟩
      clear hR hrn2 hrn3 hlt hi
      go_wp2_with fail
      go_ret2
      exact HE.out
end Go.Proofs.Ytimgnbacgdmiiaa
namespace Go.Proofs.Ytimgnbacgdmiiaa
open Go.RowKit PK
set_option linter.unusedVariables false
set_option linter.unusedSimpArgs false
attribute [local go_sem ↓] append_appM

/-- What the look holds on to: boxes, the row of sets, each set's row. -/
structure GStW (W : World) (b : Bn) (k : Int) (most N s0 gb gs gr ge kb g B : Nat) (tk lk : Int) (ov lv : Value) (X : List (Value × List Tx)) (P : Nat → Prop) : Prop where
  bx : BoxB W gb B tk lk ov lv b
  sx : W.cell? ⟨gs, 0, none⟩ = some (.slice (some ⟨g, 0, none⟩) N N)
  r0 : W.cell? ⟨gr, 0, none⟩ = some (.func (.func 40) #[] #[.pointer (some ⟨kb, 0, none⟩)])
  r1 : W.cell? ⟨gr, 1, none⟩ = some (.int .i64 (most : Nat))
  ex : W.heap[ge]? = some (.cells #[.int .i64 0] 28 (0, 0))
  kx : W.cell? ⟨kb, 0, none⟩ = some (.int .i64 k)
  lt : gs < s0 ∧ gr < s0 ∧ ge < s0 ∧ kb < s0 ∧ gb < s0 ∧ g < s0 ∧ B ≤ s0 ∧ s0 ≤ W.heap.size
  ne : g ≠ gs ∧ g ≠ gr ∧ g ≠ ge ∧ g ≠ kb ∧ g ≠ gb ∧ B ≤ g
  out : W.ownsRow 0 32 1 (.slice (some ⟨g, 0, none⟩) N N) N (X.map (·.1))
  len : X.length = N
  each : ∀ x ∈ X, W.ownsRow 0 9 1 x.1 x.2.length (svt x.2)
  ap : ∀ x ∈ X, ∀ q, x.1.ownBlock = some q → q ≠ g ∧ (q < s0 ∨ P q)
theorem GStW.keep {W W' : World} {b : Bn} {k : Int} {most N s0 gb gs gr ge kb g B : Nat} {tk lk : Int} {ov lv : Value} {X : List (Value × List Tx)} {P : Nat → Prop} (h : GStW W b k most N s0 gb gs gr ge kb g B tk lk ov lv X P) (hk : KP s0 P W W') : GStW W' b k most N s0 gb gs gr ge kb g B tk lk ov lv X P := by
  obtain ⟨l1, l2, l3, l4, l5, l6, l7, l8⟩ := h.lt
  have hgb : gb < W.heap.size := by omega
  refine ⟨⟨(hk.cell (p := ⟨gb, 0, none⟩) l5 l8).trans h.bx.c0, (hk.cell (p := ⟨gb, 1, none⟩) l5 l8).trans h.bx.c1, (hk.cell (p := ⟨gb, 2, none⟩) l5 l8).trans h.bx.c2, (hk.cell (p := ⟨gb, 3, none⟩) l5 l8).trans h.bx.c3, Nat.lt_of_lt_of_le hgb hk.size, by have := hk.size; omega, h.bx.r.below (hk.low l7 l8)⟩, (hk.cell (p := ⟨gs, 0, none⟩) l1 l8).trans h.sx, (hk.cell (p := ⟨gr, 0, none⟩) l2 l8).trans h.r0, (hk.cell (p := ⟨gr, 1, none⟩) l2 l8).trans h.r1, (hk.block ge (by omega) (.inl l3)).trans h.ex, (hk.cell (p := ⟨kb, 0, none⟩) l4 l8).trans h.kx, ⟨l1, l2, l3, l4, l5, l6, l7, Nat.le_trans l8 hk.size⟩, h.ne, ?_, h.len, fun x hx => ?_, h.ap⟩
  · refine owns_blockN h.out fun q e => hk.block q ?_ (.inl ?_)
    · have e2 : g = q := by have := Option.some.inj e; exact this
      omega
    · have e2 : g = q := by have := Option.some.inj e; exact this
      omega
  · exact owns_blockN (h.each x hx) fun q e => hk.block q ((h.each x hx).lt q e).2 (h.ap x hx q e).2
theorem GStW.below {W W' : World} {b : Bn} {k : Int} {most N s0 gb gs gr ge kb g B : Nat} {tk lk : Int} {ov lv : Value} {X : List (Value × List Tx)} {P : Nat → Prop} (h : GStW W b k most N s0 gb gs gr ge kb g B tk lk ov lv X P) (hb : Below W.heap.size W W') : GStW W' b k most N s0 gb gs gr ge kb g B tk lk ov lv X P := h.keep (KP.of_below hb)
theorem GStW.sets {W : World} {b : Bn} {k : Int} {most N s0 gb gs gr ge kb g B : Nat} {tk lk : Int} {ov lv : Value} {X : List (Value × List Tx)} {P : Nat → Prop} (h : GStW W b k most N s0 gb gs gr ge kb g B tk lk ov lv X P) (hN : 0 < N) : SetsR W g N N (X.map (·.2)) := by
  obtain ⟨l1, l2, l3, l4, l5, l6, l7, l8⟩ := h.lt
  refine ⟨by rw [List.length_map]; exact h.len, by omega, fun j hj => ?_⟩
  rw [List.length_map] at hj
  obtain ⟨g', hv, _, _, hc, _⟩ := owns_cellN h.out hN
  simp only [Option.some.injEq, Addr.mk.injEq, and_true] at hv
  subst hv
  refine ⟨X[j].1, hc j _ (by rw [List.getElem?_map, List.getElem?_eq_getElem hj]; rfl), ?_⟩
  rw [List.getElem_map]
  exact Row.of_owns (h.each _ (List.getElem_mem hj))
theorem GStW.put {W : World} {b : Bn} {k : Int} {most N s0 gb gs gr ge kb g B : Nat} {tk lk : Int} {ov lv : Value} {X : List (Value × List Tx)} {P : Nat → Prop} (h : GStW W b k most N s0 gb gs gr ge kb g B tk lk ov lv X P) (j : Nat) (hj : j < N) (v : Value) (l : List Tx) (n1 : Nat) (hv : W.ownsRow n1 9 1 v l.length (svt l)) (hn : g < n1) :
    GStW (W.setCell ⟨g, j, none⟩ v) b k most N s0 gb gs gr ge kb g B tk lk ov lv (X.set j (v, l)) (fun q => P q ∨ v.ownBlock = some q) := by
  obtain ⟨l1, l2, l3, l4, l5, l6, l7, l8⟩ := h.lt
  obtain ⟨n1', n2, n3, n4, n5, n6⟩ := h.ne
  have hs : (W.setCell ⟨g, j, none⟩ v).heap.size = W.heap.size := by simp [World.setCell]
  have hb : ∀ q, q ≠ g → (W.setCell ⟨g, j, none⟩ v).heap[q]? = W.heap[q]? := fun q hq => Below.heap_setCell _ _ _ _ hq
  have hB : Below B W (W.setCell ⟨g, j, none⟩ v) := (Below.refl B W).setCell (p := ⟨g, j, none⟩) n6 v
  have hc : ∀ (q i : Nat), q ≠ g → (W.setCell ⟨g, j, none⟩ v).cell? ⟨q, i, none⟩ = W.cell? ⟨q, i, none⟩ := fun q i hq => cell_eq (p := ⟨q, i, none⟩) (hb q hq)
  refine ⟨⟨(hc gb 0 (Ne.symm n5)).trans h.bx.c0, (hc gb 1 (Ne.symm n5)).trans h.bx.c1, (hc gb 2 (Ne.symm n5)).trans h.bx.c2, (hc gb 3 (Ne.symm n5)).trans h.bx.c3, by rw [hs]; omega, by rw [hs]; omega, h.bx.r.below hB⟩, (hc gs 0 (Ne.symm n1')).trans h.sx, (hc gr 0 (Ne.symm n2)).trans h.r0, (hc gr 1 (Ne.symm n2)).trans h.r1, (hb ge (Ne.symm n3)).trans h.ex, (hc kb 0 (Ne.symm n4)).trans h.kx, ⟨l1, l2, l3, l4, l5, l6, l7, by rw [hs]; exact l8⟩, h.ne, ?_, by rw [List.length_set]; exact h.len, fun x hx => ?_, fun x hx q e => ?_⟩
  · have e : (X.set j (v, l)).map (·.1) = (X.map (·.1)).set j v := by rw [List.map_set]
    rw [e]
    exact owns_setN h.out j (by rw [List.length_map, h.len]; exact hj) v
  · rcases List.mem_or_eq_of_mem_set hx with h1 | h1
    · exact owns_blockN (h.each x h1) fun q e => hb q (h.ap x h1 q e).1
    · subst h1
      exact owns_blockN (owns_baseP hv (Nat.zero_le _)) fun q e => hb q (by have := (hv.lt q e).1; omega)
  · rcases List.mem_or_eq_of_mem_set hx with h1 | h1
    · obtain ⟨h2, h3⟩ := h.ap x h1 q e
      exact ⟨h2, h3.elim .inl fun h4 => .inr (.inl h4)⟩
    · subst h1
      exact ⟨by have := (hv.lt q e).1; omega, .inr (.inr e)⟩
/-- The state that Settle keeps. -/
def JGW (b : Bn) (k : Int) (most N s0 gb gs gr ge kb g B : Nat) (tk lk : Int) (ov lv : Value) (W : World) (st : Option Sts) (P : Nat → Prop) : Prop := match st with
  | none => False
  | some S => ∃ X, S = X.map (·.2) ∧ GStW W b k most N s0 gb gs gr ge kb g B tk lk ov lv X P
/-- What is so when a look has found too much. -/
def QGW (b : Bn) (k : Int) (most g ge : Nat) (W W' : World) : Prop := W'.cell? ⟨ge, 0, none⟩ = some (.int .i64 15) ∧ (∃ S, SoundW b k S ∧ OverW b k most S) ∧ W'.os = W.os ∧ W'.tape = W.tape ∧ W'.output = W.output ∧ W.heap.size ≤ W'.heap.size ∧ ∀ q, q < W.heap.size → q ≠ g → q ≠ ge → W'.heap[q]? = W.heap[q]?
end Go.Proofs.Ytimgnbacgdmiiaa
namespace Go.Proofs.Ytimgnbacgdmiiaa
open Go.RowKit PK
set_option linter.unusedVariables false
set_option linter.unusedSimpArgs false
attribute [local go_sem ↓] append_appM

/-- What is known of rules that may be, for a look. -/
structure LookOkW (b : Bn) (k : Int) (most N : Nat) : Prop where
  ok : ∀ p ∈ b.l, prOk b p = true
  tk : b.toks ≤ 60
  k1 : 0 ≤ k ∧ k ≤ 4
  m1 : most ≤ 10000
  n1 : b.of.length = N ∧ 1 ≤ N ∧ N ≤ 500
  l1 : b.l.length ≤ 2000
def LookPW (b : Bn) (k : Int) (most N s0 gb gs gr ge kb g B : Nat) (tk lk : Int) (ov lv : Value) (W : World) (S : Sts) (P : Nat → Prop) (i : Nat) (e : Ending) (W' : World) : Prop :=
  (e = .returned (.tuple #[.int .i64 (lookGW b k most (some S) i).2, .bool true]) ∧ (∃ P', JGW b k most N s0 gb gs gr ge kb g B tk lk ov lv W' (lookGW b k most (some S) i).1 P' ∧ ∀ q, P' q → (P q ∨ W.heap.size ≤ q) ∧ q < W'.heap.size) ∧ KB W.heap.size g W W') ∨ (∃ x, e = .returned (.tuple #[.int .i64 x, .bool false]) ∧ QGW b k most g ge W W')
theorem QGW.made {b : Bn} {k : Int} {most g ge : Nat} {W W3 : World} (h : W3.heap[ge]? = some (.cells #[.int .i64 0] 28 (0, 0))) (hb : Below W.heap.size W W3) (hS : ∃ S, SoundW b k S ∧ OverW b k most S) : QGW b k most g ge W (W3.setCell ⟨ge, 0, none⟩ (.int .i64 15)) := by
  refine ⟨?_, hS, hb.os, hb.tape, hb.output, by simpa [World.setCell] using hb.size, fun q hq _ hne => ?_⟩
  · rw [cell_of_row _ ge _ _ _ (0, 0) (ptr_set h 0 _)]; rfl
  · rw [Below.heap_setCell _ _ _ _ hne]; exact hb.block q hq
set_option maxHeartbeats 4000000 in
set_option maxRecDepth 100000 in
theorem look_anyW (b : Bn) (k : Int) (most N s0 gb gs gr ge kb g B : Nat) (tk lk : Int) (ov lv : Value) (W : World) (X : List (Value × List Tx)) (P : Nat → Prop) (i : Nat) (hi : i < b.l.length) (hL : LookOkW b k most N) (hI : InvSW b k most (X.map (·.2))) (hG : GStW W b k most N s0 gb gs gr ge kb g B tk lk ov lv X P) (hP : ∀ q, P q → q < W.heap.size) :
    Calls Try.prog 65 #[.int .i64 (i : Nat), .pointer (some ⟨gb, 0, none⟩), .pointer (some ⟨gs, 0, none⟩), .pointer (some ⟨gr, 0, none⟩), .pointer (some ⟨ge, 0, none⟩)] W (LookPW b k most N s0 gb gs gr ge kb g B tk lk ov lv W (X.map (·.2)) P i) := by
  obtain ⟨la, lc, rfl, hl1, hl2⟩ := hG.bx.r.l.val
  obtain ⟨l1, l2, l3, l4, l5, l6, l7, l8⟩ := hG.lt
  obtain ⟨n1, n2, n3, n4, n5, n6⟩ := hG.ne
  obtain ⟨hN0, hN1, hN2⟩ := hL.n1
  have c3 := hG.bx.c3
  obtain ⟨b1, o1, a1, d1, hao, hbb, e0, e1, rk, m1, m2⟩ := hG.bx.r.l.get i hi
  subst hao
  have hat : b.l[i]? = some b.l[i] := List.getElem?_eq_getElem hi
  have hpm : b.l[i] ∈ b.l := List.getElem_mem hi
  have hlk := lookG_atW (b := b) (k := k) (most := most) (S := X.map (·.2)) hat
  generalize b.l[i] = p at *
  obtain ⟨x, rt⟩ := p
  simp only at e0 e1 rk m1 hlk
  have hpo := hL.ok _ hpm
  obtain ⟨hp1, hp2⟩ := prOk_left hpo
  simp only at hp1 hp2
  have hps : ∀ s ∈ rt, (s.tok = true → 0 ≤ s.n ∧ s.n ≤ 255) ∧ (s.tok = false → 0 ≤ s.n ∧ s.n < N) := fun s hs => ⟨fun ht => by have := prOk_tok hpo hs ht; have := hL.tk; omega, fun ht => by have := prOk_sym hpo hs ht; omega⟩
  obtain ⟨q, rfl⟩ : ∃ q : Nat, x = (q : Int) := ⟨x.toNat, by omega⟩
  have hq : q < N := by omega
  have hqX : q < X.length := by rw [hG.len]; exact hq
  have hstq : stAt (X.map (·.2)) (q : Int) = X[q].2 := by
    rw [stAt_nat _ q (by rw [List.length_map]; exact hqX), List.getElem_map]
  have hbs := (Below.refl W.heap.size W).alloc (Nat.le_refl _) (.cells #[.int .i64 (q : Int), .slice a1 rt.length d1] 57)
  have hx0 : (W.alloc (.cells #[.int .i64 (q : Int), .slice a1 rt.length d1] 57)).cell? ⟨W.heap.size, 0, none⟩ = some (.int .i64 (q : Int)) := cell_new W _ _ 0 _ rfl
  have hx1 : (W.alloc (.cells #[.int .i64 (q : Int), .slice a1 rt.length d1] 57)).cell? ⟨W.heap.size, 1, none⟩ = some (.slice a1 rt.length d1) := cell_new W _ _ 1 _ rfl
  have hs1 : (W.alloc (.cells #[.int .i64 (q : Int), .slice a1 rt.length d1] 57)).heap.size = W.heap.size + 1 := by simp
  have hG1 := hG.below hbs
  have hSO : SOkW k (X.map (·.2)) := fun a ha => ⟨hI.sound.set a ha, hI.le a ha, Nat.le_trans (hI.few a ha) hL.m1⟩
  have hrow := rowOf_anyW rt (.slice a1 rt.length d1) k kb g N N most (X.map (·.2)) B _ (Row.below rk (hbs.mono hG.bx.le)) hG1.bx.le (hG1.sets hN1) hG1.kx (by have := hG1.lt; omega) hL.k1 hL.m1 hSO hps (by omega)
  have hfew : (stAt (X.map (·.2)) (q : Int)).length ≤ 10000 := Nat.le_trans (stAt_few _ hI.few) hL.m1
  have HG1 := Lib.hid hG1; have Hrow := Lib.hid hrow; have Hlk := Lib.hid hlk; have HI := Lib.hid hI; have HL := Lib.hid hL; have HP := Lib.hid hP; have Hpm := Lib.hid hpm; have Hst := Lib.hid hstq; have Hbs := Lib.hid hbs; have Hs1 := Lib.hid hs1; have Hq := Lib.hid hq; have Hgw := Lib.hid (show g < W.heap.size by omega)
  have hi1 : (i : Int) < (b.l.length : Int) := by omega
  have hi2 : (0 : Int) ≤ (i : Int) := by omega
  obtain ⟨ll, hll⟩ : ∃ ll, ll = b.l.length := ⟨_, rfl⟩
  rw [← hll] at hi1 c3
  obtain ⟨rn, hrn⟩ : ∃ rn, rn = rt.length := ⟨_, rfl⟩
  rw [← hrn] at e1 hx0 hx1 HG1 Hrow Hbs Hs1
  clear hG hL hI hP hpm hlk hpo hps hat rk m1 m2 hG1 hrow hSO hbs hs1 hl1 hl2 hN0 hll hrn hi
  go_enter Try.func65, Try.ntmps65
  go_upto_region 2 with fail
  generalize W.alloc (.cells #[.int .i64 (q : Int), .slice a1 rn d1] 57) = W1 at *
  clear c3 e0 e1
  have hsx := HG1.out.sx; have hr0 := HG1.out.r0; have hr1 := HG1.out.r1
  go_wp2_with fail
  refine (Hrow.out).mono ?_
  rintro e W2 ⟨hor, hb2⟩
  have hG2 := HG1.out.below hb2
  have hx02 := (hb2.cell (p := ⟨W.heap.size, 0, none⟩) (by rw [Hs1.out]; exact Nat.lt_succ_self _)).trans hx0
  have hx12 := hx1
  have HG2 := Lib.hid hG2
  have HB2 := Lib.hid (Hbs.out.trans (hb2.mono Hbs.out.size))
  have Hlt2 : Hid (W.heap.size < W2.heap.size) := Lib.hid (by have := hb2.size; have := Hs1.out; omega)
  have hqX : q < X.length := by rw [hG2.len]; exact Hq.out
  obtain ⟨g', hv, _, _, hcl, _⟩ := owns_cellN hG2.out (Nat.lt_of_le_of_lt (Nat.zero_le _) Hq.out)
  simp only [Option.some.injEq, Addr.mk.injEq, and_true] at hv
  subst hv
  have hcq : W2.cell? ⟨g, q, none⟩ = some X[q].1 := hcl q _ (by rw [List.getElem?_map, List.getElem?_eq_getElem hqX]; rfl)
  have hrq := Row.of_owns (hG2.each _ (List.getElem_mem hqX))
  rw [← hstq] at hrq
  obtain ⟨xa, xc, hxv, _, _⟩ := hrq.val
  rw [hxv] at hcq hrq
  have Hrq := Lib.hid hrq
  obtain ⟨S, hS⟩ : ∃ S, S = X.map (·.2) := ⟨_, rfl⟩
  rw [← hS] at hor Hlk HI Hst Hrq hfew hcq
  have HS := Lib.hid hS
  have hq1 : (q : Int) < (N : Int) := by have := Hq.out; omega
  have hq2 : (0 : Int) ≤ (q : Int) := by omega
  have hsx2 := hG2.sx; have hr02 := hG2.r0; have hr12 := hG2.r1
  have hjoin := Lib.hid (fun (lv : Value) (r : List Tx) (hr : Row W2 W2.heap.size 1 lv r.length (svt r)) (hn : r.length ≤ 100000) => packJoin_any (.slice xa (stAt S (q : Int)).length xc) lv (stAt S (q : Int)) r W2.heap.size W2.heap.size W2 (Nat.le_refl _) (Nat.le_refl _) Hrq.out hr (by omega) hn)
  obtain ⟨an, han⟩ : ∃ an, an = (stAt S (q : Int)).length := ⟨_, rfl⟩
  rw [← han] at hjoin hcq
  have Han := Lib.hid han
  have hm63 : (most : Int) ≤ 10000 := by have := HL.out.m1; omega
  clear hG2 hb2 hcl hrq hxv hqX hS Hrq han hfew hx0 hsx hr0 hr1 Hrow HG1 hstq Hst l8
  rcases hor with ⟨hno, v2, rfl, hr2⟩ | ⟨hov, rfl⟩
  · obtain ⟨a2, c2, rfl, _, _⟩ := hr2.val
    have hrn : (rowSW k S rt).length ≤ 100000 := by
      rcases List.eq_nil_or_concat rt with rfl | ⟨r', s', rfl⟩
      · show ([[]] : List Tx).length ≤ 100000; simp
      · have h1 : ¬ most < (rowSW k S ((r'.concat s').take (r'.length + 1))).length := fun h => hno ⟨r'.length, by simp, h⟩
        rw [List.take_of_length_le (by simp)] at h1
        have := HL.out.m1; omega
    have Hj := Lib.hid (hjoin.out _ _ hr2 hrn)
    have hovB : overBW k most S rt = false := (overB_notW _ _ _ _).2 hno
    have hlk2 := Hlk.out
    rw [hovB] at hlk2
    simp only [Bool.false_eq_true, false_or, Int.toNat_natCast] at hlk2
    have HPt := Lib.hid (fun h => HI.out.put HL.out.ok (by have := HL.out.k1; omega) ⟨(q : Int), rt⟩ Hpm.out h)
    have HOv : Hid (most < (joinL (stAt S (q : Int)) (rowSW k S rt)).length → OverW b k most S) := Lib.hid fun h => ⟨_, Hpm.out, .inr h⟩
    obtain ⟨r2, hr2e⟩ : ∃ r2, r2 = rowSW k S rt := ⟨_, rfl⟩
    rw [← hr2e] at Hj HOv HPt hlk2
    obtain ⟨A, hA⟩ : ∃ A, A = joinL (stAt S (q : Int)) r2 := ⟨_, rfl⟩
    rw [← hA] at Hj HOv HPt hlk2
    have Hlk2 := Lib.hid hlk2
    rw [show (rowSW k S rt).length = r2.length by rw [hr2e]]
    generalize r2.length = r2n at *
    clear hr2 hno hovB hrn hlk2 hjoin Hlk hA hr2e
    go_wp2_with fail
    refine (Hj.out).mono ?_
    rintro e W3 ⟨v3, rfl, own3, hb3⟩
    obtain ⟨a3, c3, rfl, _, _⟩ := owns_valPK own3
    have hG3 := HG2.out.below hb3
    have HG3 := Lib.hid hG3
    have Hown3 := Lib.hid own3
    have HB3 := Lib.hid (HB2.out.trans (hb3.mono HB2.out.size))
    have Hsz3 := Lib.hid (Nat.le_trans HB2.out.size hb3.size)
    have Hs2 := Lib.hid (HB2.out.size)
    have hx03 := (hb3.cell (p := ⟨W.heap.size, 0, none⟩) Hlt2.out).trans hx02
    have hcq3 := (hb3.cell (p := ⟨g, q, none⟩) (by have := HG2.out.lt; show g < _; omega)).trans hcq
    have hfq3 : W3.frozen? ⟨g, q, none⟩ = false := by
      obtain ⟨g', hv, _, _, _, hf⟩ := owns_cellN hG3.out (Nat.lt_of_le_of_lt (Nat.zero_le _) Hq.out)
      simp only [Option.some.injEq, Addr.mk.injEq, and_true] at hv
      subst hv; exact hf q
    have hsx3 := hG3.sx; have hr13 := hG3.r1
    have hex : W3.cell? ⟨ge, 0, none⟩ = some (.int .i64 0) := by rw [cell_of_row W3 ge _ _ _ (0, 0) hG3.ex]; rfl
    have hef : W3.frozen? ⟨ge, 0, none⟩ = false := by simp [World.frozen?, hG3.ex]
    obtain ⟨gn, hgn⟩ : ∃ gn, gn = A.length := ⟨_, rfl⟩
    rw [← hgn] at Hown3 HOv HPt Hlk2 ⊢
    have Hgn := Lib.hid hgn
    have hgl : g < W3.heap.size := by have := hG3.lt; omega
    have hgel : ge < W3.heap.size := by have := hG3.lt; omega
    clear hb3 own3 hG3 hcq hsx2 hr02 hr12 hx02 Hj hgn HB2
    by_cases hov : most < gn
    · have q1 : decide (most < gn) = true := decide_eq_true hov
      have q2 : decide ((most : Int) < (gn : Int)) = true := decide_eq_true (by omega)
      have HE : Hid (LookPW b k most N s0 gb gs gr ge kb g B tk lk ov (.slice (some ⟨b1, o1, none⟩) b.l.length lc) W (X.map (·.2)) P i (.returned (.tuple #[.int .i64 (-1), .bool false])) (W3.setCell ⟨ge, 0, none⟩ (.int .i64 15))) := Lib.hid (.inr ⟨_, rfl, QGW.made HG3.out.ex HB3.out ⟨S, HI.out.sound, HOv.out hov⟩⟩)
      clear hov
      go_wp2_with fail
      go_ret2
      exact HE.out
    · have q1 : decide (most < gn) = false := decide_eq_false hov
      have q2 : decide ((most : Int) < (gn : Int)) = false := decide_eq_false (by omega)
      have hl3 := Hlk2.out
      rw [if_neg hov] at hl3
      by_cases hsm : gn = an
      · have q3 : ((gn : Int) == (an : Int)) = true := by simp [hsm]
        have q4 : (gn == an) = true := by simp [hsm]
        have q5 : decide (gn = an) = true := decide_eq_true hsm
        rw [if_pos (hsm.trans Han.out)] at hl3
        have HE : Hid (LookPW b k most N s0 gb gs gr ge kb g B tk lk ov (.slice (some ⟨b1, o1, none⟩) b.l.length lc) W (X.map (·.2)) P i (.returned (.tuple #[.int .i64 (-1), .bool true])) W3) := Lib.hid (by
          have hl4 := hl3
          rw [HS.out] at hl4
          refine .inl ⟨by rw [hl4], ⟨P, ?_, fun z hz => ⟨.inl hz, Nat.lt_of_lt_of_le (HP.out z hz) HB3.out.size⟩⟩, KB.of_below HB3.out⟩
          rw [hl4]; exact ⟨X, rfl, HG3.out⟩)
        clear hov hl3 Hlk2
        subst hsm
        go_wp2_with fail
        go_ret2
        exact HE.out
      · have q3 : ((gn : Int) == (an : Int)) = false := by rw [beq_eq_false_iff_ne]; omega
        have q4 : (gn == an) = false := by rw [beq_eq_false_iff_ne]; exact hsm
        have q5 : decide (gn = an) = false := decide_eq_false hsm
        rw [if_neg (fun h => hsm (h.trans Han.out.symm))] at hl3
        have hgl' := HG3.out.lt
        have hput := HG3.out.put q Hq.out (.slice a3 gn c3) A W2.heap.size (by rw [← Hgn.out]; exact Hown3.out) (by have := HG2.out.lt; omega)
        have HE : Hid (LookPW b k most N s0 gb gs gr ge kb g B tk lk ov (.slice (some ⟨b1, o1, none⟩) b.l.length lc) W (X.map (·.2)) P i (.returned (.tuple #[.int .i64 (q : Int), .bool true])) (W3.setCell ⟨g, q, none⟩ (.slice a3 gn c3))) := Lib.hid (by
          have hl4 := hl3
          rw [HS.out] at hl4
          refine .inl ⟨by rw [hl4], ⟨fun z => P z ∨ (Value.slice a3 gn c3).ownBlock = some z, ?_, fun z hz => ?_⟩, KB.setCell (KB.of_below HB3.out) (p := ⟨g, q, none⟩) (.inr rfl) _⟩
          · rw [hl4]; exact ⟨X.set q (.slice a3 gn c3, A), by rw [List.map_set], hput⟩
          · have hs : (W3.setCell ⟨g, q, none⟩ (.slice a3 gn c3)).heap.size = W3.heap.size := by simp [World.setCell]
            rw [hs]
            rcases hz with h1 | h1
            · exact ⟨.inl h1, Nat.lt_of_lt_of_le (HP.out z h1) HB3.out.size⟩
            · have h2 := Hown3.out.lt z h1
              exact ⟨.inr (Nat.le_trans Hs2.out h2.1), h2.2⟩)
        have hx04 : (W3.setCell ⟨g, q, none⟩ (.slice a3 gn c3)).cell? ⟨W.heap.size, 0, none⟩ = some (.int .i64 (q : Int)) := (cell_eq (p := ⟨W.heap.size, 0, none⟩) (Below.heap_setCell _ _ _ _ (by have := Hgw.out; show W.heap.size ≠ g; omega))).trans hx03
        clear hov hl3 Hlk2 hput hgl' hsm
        go_wp2_with fail
        go_ret2
        exact HE.out
  · have Hj := Lib.hid (hjoin.out (.slice none 0 0) [] (Row.of_owns (World.ownsRow_nil W2 0 9 1)) (by simp))
    have HOv : Hid (OverW b k most S) := Lib.hid ⟨_, Hpm.out, .inl hov⟩
    obtain ⟨A, hA⟩ : ∃ A, A = joinL (stAt S (q : Int)) [] := ⟨_, rfl⟩
    rw [← hA] at Hj
    clear hov hjoin Hlk hA
    go_wp2_with fail
    refine (Hj.out).mono ?_
    rintro e W3 ⟨v3, rfl, own3, hb3⟩
    obtain ⟨a3, c3, rfl, _, _⟩ := owns_valPK own3
    have hG3 := HG2.out.below hb3
    have HG3 := Lib.hid hG3
    have HB3 := Lib.hid (HB2.out.trans (hb3.mono HB2.out.size))
    have hex : W3.cell? ⟨ge, 0, none⟩ = some (.int .i64 0) := by rw [cell_of_row W3 ge _ _ _ (0, 0) hG3.ex]; rfl
    have hef : W3.frozen? ⟨ge, 0, none⟩ = false := by simp [World.frozen?, hG3.ex]
    have hgel : ge < W3.heap.size := by have := hG3.lt; omega
    have HE : Hid (LookPW b k most N s0 gb gs gr ge kb g B tk lk ov (.slice (some ⟨b1, o1, none⟩) b.l.length lc) W (X.map (·.2)) P i (.returned (.tuple #[.int .i64 (-1), .bool false])) (W3.setCell ⟨ge, 0, none⟩ (.int .i64 15))) := Lib.hid (.inr ⟨_, rfl, QGW.made HG3.out.ex HB3.out ⟨S, HI.out.sound, HOv.out⟩⟩)
    clear hb3 own3 hG3 hcq hsx2 hr02 hr12 hx02 Hj HB2
    generalize A.length = gn at *
    go_wp2_with fail
    go_ret2
    exact HE.out
end Go.Proofs.Ytimgnbacgdmiiaa
namespace Go.Proofs.Ytimgnbacgdmiiaa
open Go.RowKit PK Go.Maps Go.WideMaps
set_option linter.unusedVariables false
set_option linter.unusedSimpArgs false
attribute [local go_sem ↓] append_appM

theorem GStW.lift {W : World} {b : Bn} {k : Int} {most N s0 s1 gb gs gr ge kb g B : Nat} {tk lk : Int} {ov lv : Value} {X : List (Value × List Tx)} {P : Nat → Prop} (h : GStW W b k most N s0 gb gs gr ge kb g B tk lk ov lv X P) (h1 : s0 ≤ s1) (h2 : s1 ≤ W.heap.size) : GStW W b k most N s1 gb gs gr ge kb g B tk lk ov lv X P := by
  obtain ⟨l1, l2, l3, l4, l5, l6, l7, l8⟩ := h.lt
  exact ⟨h.bx, h.sx, h.r0, h.r1, h.ex, h.kx, ⟨by omega, by omega, by omega, by omega, by omega, by omega, by omega, h2⟩, h.ne, h.out, h.len, h.each, fun x hx q e => ⟨(h.ap x hx q e).1, (h.ap x hx q e).2.elim (fun h3 => .inl (by omega)) .inr⟩⟩
theorem inv_startW (b : Bn) (k : Int) (most : Nat) : InvSW b k most (List.replicate b.of.length []) := by
  have hnil : ∀ a ∈ List.replicate b.of.length ([] : List Tx), a = [] := fun a ha => List.eq_of_mem_replicate ha
  refine ⟨⟨by simp, (fun l hl => by rw [hnil l hl]; exact List.Pairwise.nil), fun n x hx => ?_⟩, (fun a ha x hx => by rw [hnil a ha] at hx; cases hx), (fun a ha => by rw [hnil a ha]; exact Nat.zero_le _)⟩
  unfold stAt at hx
  rw [List.getElem?_replicate] at hx
  split at hx <;> cases hx
/-- What grow answers. -/
def GrowPW (w : World) (b : Bn) (k : Int) (most : Nat) (e : Ending) (w' : World) : Prop :=
  ((∃ g S, e = .returned (.tuple #[.slice (some ⟨g, 0, none⟩) b.of.length b.of.length, .int .i64 0]) ∧ InvSW b k most S ∧ ClosedW b k S ∧ (∀ p ∈ b.l, ¬ OverRW k most S p.right) ∧ SetsR w' g b.of.length b.of.length S) ∨ (e = .returned (.tuple #[.slice none 0 0, .int .i64 15]) ∧ ∃ S, SoundW b k S ∧ OverW b k most S)) ∧ Below w.heap.size w w'
set_option maxHeartbeats 4000000 in
set_option maxRecDepth 100000 in
theorem grow_anyW (b : Bn) (k : Int) (most kb : Nat) (ov lv : Value) (B : Nat) (w : World) (hB : B ≤ w.heap.size) (r : BR w B ov lv b) (h0 : bmay b = 0) (hk : 0 ≤ k ∧ k ≤ 4) (hm : most ≤ 10000) (hc : w.cell? ⟨kb, 0, none⟩ = some (.int .i64 k)) (hkb : kb < w.heap.size) :
    Calls Try.prog 35 #[.agg #[.func (.func 40) #[] #[.pointer (some ⟨kb, 0, none⟩)], .int .i64 (most : Nat)], .agg #[.int .i64 b.toks, .int .i64 b.look, ov, lv]] w (GrowPW w b k most) := by
  obtain ⟨oa, oc, rfl, ho1, ho2⟩ := r.of.val
  obtain ⟨la, lc, rfl, hl1, hl2⟩ := r.l.val
  obtain ⟨z1, z2, z3, z4, z5, z6, z7, z8, z9, z10⟩ := bmay_zero h0
  have hw64 := sym_wide h0
  have hbr := (Below.refl w.heap.size w).alloc (Nat.le_refl _) (.cells #[.func (.func 40) #[] #[.pointer (some ⟨kb, 0, none⟩)], .int .i64 (most : Nat)] 61)
  have hsr : (w.alloc (.cells #[.func (.func 40) #[] #[.pointer (some ⟨kb, 0, none⟩)], .int .i64 (most : Nat)] 61)).heap.size = w.heap.size + 1 := by simp
  have hr0 : (w.alloc (.cells #[.func (.func 40) #[] #[.pointer (some ⟨kb, 0, none⟩)], .int .i64 (most : Nat)] 61)).cell? ⟨w.heap.size, 0, none⟩ = some (.func (.func 40) #[] #[.pointer (some ⟨kb, 0, none⟩)]) := cell_new w _ _ 0 _ rfl
  have hr1 : (w.alloc (.cells #[.func (.func 40) #[] #[.pointer (some ⟨kb, 0, none⟩)], .int .i64 (most : Nat)] 61)).cell? ⟨w.heap.size, 1, none⟩ = some (.int .i64 (most : Nat)) := cell_new w _ _ 1 _ rfl
  have hbox := BoxB.new b.toks b.look 25 (Nat.le_trans hB hbr.size) (r.below (hbr.mono hB))
  have hb2 := (Below.refl _ (w.alloc (.cells #[.func (.func 40) #[] #[.pointer (some ⟨kb, 0, none⟩)], .int .i64 (most : Nat)] 61))).alloc (Nat.le_refl _) (.cells #[.int .i64 b.toks, .int .i64 b.look, .slice oa b.of.length oc, .slice la b.l.length lc] 25)
  have hs2 : ((w.alloc (.cells #[.func (.func 40) #[] #[.pointer (some ⟨kb, 0, none⟩)], .int .i64 (most : Nat)] 61)).alloc (.cells #[.int .i64 b.toks, .int .i64 b.look, .slice oa b.of.length oc, .slice la b.l.length lc] 25)).heap.size = w.heap.size + 2 := by simp
  have hr02 := (hb2.cell (p := ⟨w.heap.size, 0, none⟩) (by rw [hsr]; exact Nat.lt_succ_self _)).trans hr0
  have hr12 := (hb2.cell (p := ⟨w.heap.size, 1, none⟩) (by rw [hsr]; exact Nat.lt_succ_self _)).trans hr1
  have hB2 := hbr.trans (hb2.mono hbr.size)
  have hk2 := (hB2.cell (p := ⟨kb, 0, none⟩) hkb).trans hc
  rw [hsr] at hbox
  have hL : LookOkW b k most b.of.length := ⟨z6, z7, hk, hm, ⟨rfl, z1, z2⟩, z4⟩
  obtain ⟨ol, hol⟩ : ∃ ol, ol = b.of.length := ⟨_, rfl⟩
  obtain ⟨ll, hll⟩ : ∃ ll, ll = b.l.length := ⟨_, rfl⟩
  obtain ⟨tk, htk⟩ : ∃ tk, tk = b.toks := ⟨_, rfl⟩
  obtain ⟨lk, hlk⟩ : ∃ lk, lk = b.look := ⟨_, rfl⟩
  rw [← hol, ← hll, ← htk, ← hlk] at hbox hb2 hs2 hr02 hr12 hB2 hk2
  rw [← hol] at hL
  rw [← hol, ← hll, ← htk, ← hlk]
  obtain ⟨i0, hi, hz0, hz1, hz2⟩ := info_parts info_strs
  have ho500 : ol ≤ 500 := by omega
  have ho1' : 1 ≤ ol := by omega
  have hl2000 : ll ≤ 2000 := by omega
  have Hbox := Lib.hid hbox; have HB2 := Lib.hid hB2; have Hs2 := Lib.hid hs2; have Hr0 := Lib.hid hr02; have Hr1 := Lib.hid hr12; have Hk2 := Lib.hid hk2; have HL := Lib.hid hL; have Hol := Lib.hid hol; have Hll := Lib.hid hll; have Hw := Lib.hid hw64; have HBw := Lib.hid hB; have Hkb := Lib.hid hkb; have Hm := Lib.hid hm
  have Hz := Lib.hid (And.intro z3 (And.intro z4 (And.intro z5 (And.intro z6 (And.intro z1 z2)))))
  clear r hbr hsr hr0 hr1 hbox hb2 hs2 hr02 hr12 hB2 hk2 hL hol hll htk hlk hw64 hB hkb hm hc ho1 ho2 hl1 hl2 z1 z2 z3 z4 z5 z6 z7 z8 z9 z10 h0 hk
  go_enter Try.func35, Try.ntmps35
  go_upto_region 1 with fail
  generalize (w.alloc (.cells #[.func (.func 40) #[] #[.pointer (some ⟨kb, 0, none⟩)], .int .i64 (most : Nat)] 61)).alloc (.cells #[.int .i64 tk, .int .i64 lk, .slice oa ol oc, .slice la ll lc] 25) = w2 at *
  obtain ⟨c0, c1, c2, c3⟩ := Hbox.out.four
  go_upto_region 3 with (at_make; refine wpList_make_full _ rfl _ _ 27 rfl w2.heap.size 32 i0 (.slice none 0 0) 1 Try.underlying27 hi hz0 hz1 .i64 .i64 _ _ ol rfl rfl rfl rfl (by rw [hz2]; omega) (by unfold maxLen; omega) (Nat.le_refl _) ?_; intro wm hown hgrow; have Hown := Lib.hid hown; have Hgrow := Lib.hid hgrow; clear hown hgrow)
  have hbm : Below w2.heap.size w2 wm := (Below.refl w2.heap.size w2).grown Hgrow.out (Nat.le_refl _) (fun k e => by cases e)
  have hrowm : wm.ownsRow w2.heap.size 32 1 (.slice (some ⟨w2.heap.size, 0, none⟩) ol ol) ol (List.replicate ol (.slice none 0 0)) := by
    have e : (madeCells (Value.slice none 0 0).cells (ol * 1)).toList = List.replicate ol (.slice none 0 0) := by
      rw [Nat.mul_one]; show (madeCells #[Value.slice none 0 0] ol).toList = _
      rw [toList_madeCells_one]
    have := Hown.out; rw [e] at this; exact this
  have hgm : w2.heap.size < wm.heap.size := (hrowm.lt _ rfl).2
  have hb4 := (Below.refl wm.heap.size wm).alloc (Nat.le_refl _) (.cells #[.slice (some ⟨w2.heap.size, 0, none⟩) ol ol] 27)
  have hs4 : (wm.alloc (.cells #[.slice (some ⟨w2.heap.size, 0, none⟩) ol ol] 27)).heap.size = wm.heap.size + 1 := by simp
  have hb5 := (Below.refl _ (wm.alloc (.cells #[.slice (some ⟨w2.heap.size, 0, none⟩) ol ol] 27))).alloc (Nat.le_refl _) (.cells #[.int .i64 0] 28)
  have hs5 : ((wm.alloc (.cells #[.slice (some ⟨w2.heap.size, 0, none⟩) ol ol] 27)).alloc (.cells #[.int .i64 0] 28)).heap.size = wm.heap.size + 2 := by simp
  have hbm5 : Below wm.heap.size wm ((wm.alloc (.cells #[.slice (some ⟨w2.heap.size, 0, none⟩) ol ol] 27)).alloc (.cells #[.int .i64 0] 28)) := hb4.trans (hb5.mono hb4.size)
  have hb25 := hbm.trans (hbm5.mono hbm.size)
  have hG5 : GStW ((wm.alloc (.cells #[.slice (some ⟨w2.heap.size, 0, none⟩) ol ol] 27)).alloc (.cells #[.int .i64 0] 28)) b k most ol (wm.heap.size + 2) (w.heap.size + 1) wm.heap.size w.heap.size (wm.heap.size + 1) kb w2.heap.size B tk lk (.slice oa ol oc) (.slice la ll lc) (List.replicate ol (.slice none 0 0, [])) (fun _ => False) := by
    have e2 := Hs2.out
    have e3 := Hkb.out
    have e4 := HBw.out
    refine ⟨Hbox.out.keep hb25, (hb5.cell (p := ⟨wm.heap.size, 0, none⟩) (by rw [hs4]; exact Nat.lt_succ_self _)).trans (cell_new wm _ _ 0 _ rfl), (hb25.cell (p := ⟨w.heap.size, 0, none⟩) (by show w.heap.size < _; omega)).trans Hr0.out, (hb25.cell (p := ⟨w.heap.size, 1, none⟩) (by show w.heap.size < _; omega)).trans Hr1.out, ?_, (hb25.cell (p := ⟨kb, 0, none⟩) (by show kb < _; omega)).trans Hk2.out, ⟨by omega, by omega, by omega, by omega, by omega, by omega, by omega, by rw [hs5]; exact Nat.le_refl _⟩, ⟨by omega, by omega, by omega, by omega, by omega, by omega⟩, ?_, by simp, fun x hx => ?_, fun x hx q e => ?_⟩
    · have h1 : ((wm.alloc (.cells #[.slice (some ⟨w2.heap.size, 0, none⟩) ol ol] 27)).alloc (.cells #[.int .i64 0] 28)).heap[(wm.alloc (.cells #[.slice (some ⟨w2.heap.size, 0, none⟩) ol ol] 27)).heap.size]? = some (.cells #[.int .i64 0] 28 (0, 0)) := Array.getElem?_push_size
      rw [hs4] at h1; exact h1
    · have e : (List.replicate ol ((.slice none 0 0, []) : Value × List Tx)).map (·.1) = List.replicate ol (.slice none 0 0) := by simp
      rw [e]; exact owns_baseP (owns_belowP hrowm hbm5) (Nat.zero_le _)
    · rw [List.eq_of_mem_replicate hx]; exact World.ownsRow_nil _ _ _ _
    · rw [List.eq_of_mem_replicate hx] at e; cases e
  have HG5 := Lib.hid hG5
  have HB5 := Lib.hid (HB2.out.trans (hb25.mono HB2.out.size))
  obtain ⟨gm, hgm2⟩ : ∃ gm, gm = wm.heap.size := ⟨_, rfl⟩
  have Hgm := Lib.hid (show w2.heap.size < gm by omega)
  have Hs5 : Hid (((wm.alloc (.cells #[.slice (some ⟨w2.heap.size, 0, none⟩) ol ol] 27)).alloc (.cells #[.int .i64 0] 28)).heap.size = gm + 2) := Lib.hid (by rw [hs5, hgm2])
  rw [← hgm2] at HG5 ⊢
  clear hbm hrowm hgm hb4 hs4 hb5 hs5 hbm5 hb25 hG5 hgm2 hi hz0 hz1 hz2 Hown Hgrow c0 c1 c2 c3 Hbox Hr0 Hr1 Hk2
  generalize (wm.alloc (.cells #[.slice (some ⟨w2.heap.size, 0, none⟩) ol ol] 27)).alloc (.cells #[.int .i64 0] 28) = w5 at *
  have Hbx : Hid (∀ W, Below w5.heap.size w5 W → W.cell? ⟨w.heap.size + 1, 0, none⟩ = some (.int .i64 tk) ∧ W.cell? ⟨w.heap.size + 1, 1, none⟩ = some (.int .i64 lk) ∧ W.cell? ⟨w.heap.size + 1, 2, none⟩ = some (.slice oa ol oc) ∧ W.cell? ⟨w.heap.size + 1, 3, none⟩ = some (.slice la ll lc)) := Lib.hid fun W hW => (HG5.out.bx.keep hW).four
  refine wp_region_ord 6 [(0, true), (1, true), (2, true), (3, true), (5, true), (4, false), (6, false)] (fun w' => w'.cell? ⟨w.heap.size + 1, 0, none⟩ = some (.int .i64 tk) ∧ w'.cell? ⟨w.heap.size + 1, 1, none⟩ = some (.int .i64 lk) ∧ w'.cell? ⟨w.heap.size + 1, 2, none⟩ = some (.slice oa ol oc) ∧ w'.cell? ⟨w.heap.size + 1, 3, none⟩ = some (.slice la ll lc)) (by kernel_rfl) (by kernel_rfl) (Hbx.out _ (Below.refl _ w5).drew) ?_
  simp only [ordL, List.getElem?_toArray, List.getElem?_cons_succ, List.getElem?_cons_zero]
  iterate 5 (
    refine ordW_read (v := ?_) (by rfl) ?_ (fun _ _ _ h => h) ?_
    rotate_left
    focus (intro w' hS; obtain ⟨s0, s1, s2, s3⟩ := hS; go_simp; (try with_reducible rfl); done)
    try simp only [Act.put, List.setIfInBounds_toArray, List.set_cons_zero, List.set_cons_succ])
  refine ordW_do (by rfl) (fun K' HK => ?_)
  go_simp
  have hd := (Below.refl w5.heap.size w5).drew
  refine (asks_any b tk lk (.slice oa ol oc) (.slice la ll lc) B w5.drew HG5.out.bx.le (HG5.out.bx.r.below (hd.mono HG5.out.bx.le)) Hz.out.2.1 Hz.out.2.2.1 Hw.out).mono ?_
  rintro e w6 ⟨w1, cc, F, rfl, hbw1, hA, hSS, hCC⟩
  have hb56 : Below w5.heap.size w5 w6 := hd.trans ((hbw1.trans (hA.bel.mono hbw1.size)) : Below w5.heap.size w5.drew w6)
  have Hb56 := Lib.hid hb56
  have hg1 : w2.heap.size < w1.heap.size := by have h1 : w5.heap.size ≤ w1.heap.size := hbw1.size; have := Hs5.out; have := Hgm.out; omega
  have hG6 := (HG5.out.below hb56).lift (s1 := w6.heap.size) (by have := hb56.size; have := Hs5.out; omega) (Nat.le_refl _)
  have hL := look_growW b k most (askl F) Hz.out.2.2.2.1 (by have := HL.out.k1; omega) (by have := HL.out.n1; omega) (fun j x hx s hs ht => askl_mem (hCC j (List.getElem?_eq_some_iff.1 hx).1 x hx s hs ht))
  have e0 : (List.replicate ol ((.slice none 0 0, []) : Value × List Tx)).map (·.2) = List.replicate b.of.length [] := by rw [← Hol.out]; simp
  have hset := settle_grow b.l.length (lookGW b k most) (muG most) (InvGW b k most) (JGW b k most ol w6.heap.size (w.heap.size + 1) gm w.heap.size (gm + 1) kb w2.heap.size B tk lk (.slice oa ol oc) (.slice la ll lc))
    (b.l.length + muG most (some (List.replicate b.of.length [])) * b.l.length) (some ⟨w.heap.size + 1, 0, none⟩) (some ⟨gm, 0, none⟩) (some ⟨w.heap.size, 0, none⟩) (some ⟨gm + 1, 0, none⟩) w1 w6 cc w2.heap.size F (some (List.replicate b.of.length [])) (fun _ => False)
    (fun W' => W'.cell? ⟨gm + 1, 0, none⟩ = some (.int .i64 15) ∧ (∃ S, SoundW b k S ∧ OverW b k most S) ∧ Below w.heap.size w W')
    ⟨Hz.out.1, by have := Hz.out.2.1; omega⟩ (Nat.le_refl _) (by
      have h1 := Hz.out.2.1
      have h2 := mu_le most (List.replicate b.of.length [])
      rw [List.length_replicate] at h2
      have h3 : b.of.length * most ≤ 500 * 10000 := Nat.mul_le_mul (by have := HL.out.n1; omega) Hm.out
      have h4 : muG most (some (List.replicate b.of.length [])) * b.l.length ≤ 5000001 * 2000 := Nat.mul_le_mul (by omega) h1
      omega) hA hg1 (fun k v l hF x hx => hSS k v l hF x hx) hL (inv_startW b k most) ⟨_, e0.symm, hG6⟩ (fun _ h => h.elim)
    (fun W W' st P hJ hkp => by
      cases st with
      | none => exact hJ.elim
      | some S => obtain ⟨X, h1, h2⟩ := hJ; exact ⟨X, h1, h2.keep hkp⟩)
    (fun W st i P hi hI hJ hP hkb => by
      cases st with
      | none => exact hJ.elim
      | some S =>
        obtain ⟨X, rfl, hG⟩ := hJ
        refine (look_anyW b k most ol w6.heap.size (w.heap.size + 1) gm w.heap.size (gm + 1) kb w2.heap.size B tk lk (.slice oa ol oc) (.slice la ll lc) W X P i hi HL.out hI hG hP).mono ?_
        rintro e W' (h | ⟨x, he, hq1, hq2, hq3, hq4, hq5, hq6, hq7⟩)
        · exact .inl h
        · refine .inr ⟨x, he, hq1, hq2, ?_⟩
          have hb06 : Below w.heap.size w w6 := HB5.out.trans (hb56.mono HB5.out.size)
          have e2 := Hs2.out
          have e3 := Hgm.out
          have hs6 := hb06.size
          exact ⟨hq3.trans (hkb.os.trans hb06.os), hq4.trans (hkb.tape.trans hb06.tape), hq5.trans (hkb.output.trans hb06.output), Nat.le_trans (Nat.le_trans hs6 hkb.size) hq6, fun q hq => (hq7 q (by have := hkb.size; omega) (by omega) (by omega)).trans ((hkb.block q (by omega) (by omega)).trans (hb06.block q hq))⟩)
  rw [← Hll.out] at hset
  have Hset := Lib.hid hset
  refine HK.out _ _ (fun _ => Hbx.out w6 hb56) ?_
  clear HK K' hA hSS hCC hL hG6 hset hb56 hbw1 hd hg1 e0
  try simp only [Act.put, List.setIfInBounds_toArray, List.set_cons_zero, List.set_cons_succ]
  refine ordW_do (by rfl) (fun K' HK => ?_)
  go_simp
  refine (Hset.out).mono ?_
  rintro e w7 ⟨rfl, h7⟩
  refine HK.out _ _ (fun h => absurd rfl h) (ordW_nil ?_)
  clear HK K'
  rcases h7 with ⟨st, P, hI7, hJ7, hk7, hq7⟩ | ⟨hc7, hS7, hb7⟩
  · cases st with
    | none => exact hJ7.elim
    | some S =>
      obtain ⟨X, rfl, hG7⟩ := hJ7
      rw [Hll.out] at hq7
      obtain ⟨hcl, hno⟩ := quiet_growW hI7 Hz.out.2.2.2.1 hq7
      have hsx := hG7.sx
      have hex : w7.cell? ⟨gm + 1, 0, none⟩ = some (.int .i64 0) := by rw [cell_of_row w7 (gm + 1) _ _ _ (0, 0) hG7.ex]; rfl
      have hb07 : Below w.heap.size w w7 := HB5.out.trans ((Hb56.out.mono HB5.out.size).trans (hk7.below (by have := Hs2.out; omega) (by have := (HB5.out.trans (Hb56.out.mono HB5.out.size)).size; omega)))
      have HE : Hid (GrowPW w b k most (.returned (.tuple #[.slice (some ⟨w2.heap.size, 0, none⟩) ol ol, .int .i64 0])) w7) := Lib.hid ⟨.inl ⟨w2.heap.size, _, by rw [Hol.out], hI7, hcl, hno, by rw [← Hol.out]; exact hG7.sets ho1'⟩, hb07⟩
      clear hI7 hG7 hk7 hq7 hcl hno hb07 Hset
      go_wp2_with fail
      go_ret2
      exact HE.out
  · have HE : Hid (GrowPW w b k most (.returned (.tuple #[.slice none 0 0, .int .i64 15])) w7) := Lib.hid ⟨.inr ⟨rfl, hS7⟩, hb7⟩
    have Hd : Hid (∀ W', Below w7.heap.size w7 W' → GrowPW w b k most (.returned (.tuple #[.slice none 0 0, .int .i64 15])) W') := Lib.hid fun W' hW' => ⟨.inr ⟨rfl, hS7⟩, hb7.trans (hW'.mono hb7.size)⟩
    clear hS7 hb7 Hset
    go_wp2_with fail
    go_region
    all_goals
      go_wp2_with fail
      go_ret2
      first | exact HE.out | exact Hd.out _ (Below.refl _ w7).drew
end Go.Proofs.Ytimgnbacgdmiiaa
