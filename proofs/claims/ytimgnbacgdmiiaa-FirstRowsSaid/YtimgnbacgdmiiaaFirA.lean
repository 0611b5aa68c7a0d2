/-
  Beginnings, plain: what rows of symbols stand for, sets that grow.
-/
import Derived.Test.YtimgnbacgdmiiaaBnfC
import Derived.Test.YtimgnbacgdmiiaaKPackI
namespace Go.Proofs.Ytimgnbacgdmiiaa
open Go.RowKit PK
set_option linter.unusedVariables false
set_option linter.unusedSimpArgs false

theorem nodup_sub {α : Type} [DecidableEq α] : ∀ {a b : List α}, a.Nodup → (∀ x ∈ a, x ∈ b) → a.length ≤ b.length := by
  intro a
  induction a with
  | nil => intro b _ _; exact Nat.zero_le _
  | cons x r ih =>
    intro b h1 h2
    rw [List.nodup_cons] at h1
    have hx := h2 x List.mem_cons_self
    have h3 : r.length ≤ (b.erase x).length := ih h1.2 fun y hy => by
      have hne : y ≠ x := fun e => h1.1 (e ▸ hy)
      exact (List.mem_erase_of_ne hne).2 (h2 y (List.mem_cons_of_mem _ hy))
    rw [List.length_erase_of_mem hx] at h3
    have := List.length_pos_of_mem hx
    rw [List.length_cons]; omega
theorem tset_nodup {l : List Tx} (h : IsSet l) : l.Nodup := List.Pairwise.imp (fun {a b} (h : a < b) (e : a = b) => tx_irrefl b (by rw [e] at h; exact h)) h
theorem tset_sub {a b : List Tx} (ha : IsSet a) (h : ∀ x ∈ a, x ∈ b) : a.length ≤ b.length := nodup_sub (tset_nodup ha) h
theorem tset_eq {a b : List Tx} (ha : IsSet a) (hb : IsSet b) (h : ∀ x ∈ a, x ∈ b) (hl : b.length ≤ a.length) : a = b := by
  refine set_ext ha hb fun x => ⟨h x, fun hx => ?_⟩
  refine Classical.byContradiction fun hn => ?_
  have : (x :: a).length ≤ b.length := nodup_sub (List.nodup_cons.2 ⟨hn, tset_nodup ha⟩) fun y hy => by
    rcases List.mem_cons.1 hy with rfl | h1
    · exact hx
    · exact h y h1
  rw [List.length_cons] at this; omega
theorem catL_mem (a b : List Tx) (k : Int) (z : Tx) : z ∈ catL a b k ↔ ∃ x ∈ a, ∃ y ∈ b, z = catT x y k := by
  unfold catL catsF
  rw [toSet_mem, List.mem_flatMap]
  constructor
  · rintro ⟨x, hx, hz⟩; obtain ⟨y, hy, rfl⟩ := List.mem_map.1 hz; exact ⟨x, hx, y, hy, rfl⟩
  · rintro ⟨x, hx, y, hy, rfl⟩; exact ⟨x, hx, List.mem_map.2 ⟨y, hy, rfl⟩⟩
theorem catL_set (a b : List Tx) (k : Int) : IsSet (catL a b k) := toSet_set _
theorem prOk_left {b : Bn} {p : Pr} (h : prOk b p = true) : 0 ≤ p.left ∧ p.left < b.of.length := by
  unfold prOk at h; simp only [Bool.and_eq_true, decide_eq_true_eq] at h; exact h.1
theorem prOk_sym {b : Bn} {p : Pr} (h : prOk b p = true) {s : Sy} (hs : s ∈ p.right) (ht : s.tok = false) : 0 ≤ s.n ∧ s.n < b.of.length := by
  unfold prOk at h; simp only [Bool.and_eq_true, List.all_eq_true] at h
  have := h.2 s hs
  unfold symOk at this
  rw [ht] at this
  simpa using this
/-- Sets that grow: of each nonterminal one. -/
abbrev Sts := List (List Tx)
def stAt (S : Sts) (n : Int) : List Tx := (S[n.toNat]?).getD []
/-- What a symbol stands for. -/
def symS (S : Sts) (s : Sy) : List Tx := if s.tok then [[UInt8.ofNat s.n.toNat]] else stAt S s.n
/-- What a row stands for. -/
def rowS (k : Int) (S : Sts) (l : List Sy) : List Tx := l.foldl (fun r s => catL r (symS S s) k) [[]]
theorem rowS_snoc (k : Int) (S : Sts) (l : List Sy) (s : Sy) : rowS k S (l ++ [s]) = catL (rowS k S l) (symS S s) k := by unfold rowS; rw [List.foldl_append]; rfl
theorem rowS_succ (k : Int) (S : Sts) (l : List Sy) (i : Nat) (h : i < l.length) : rowS k S (l.take (i + 1)) = catL (rowS k S (l.take i)) (symS S l[i]) k := by
  rw [List.take_succ_eq_append_getElem h, rowS_snoc]
theorem rowS_set (k : Int) (S : Sts) (l : List Sy) : IsSet (rowS k S l) := by
  rcases List.eq_nil_or_concat l with rfl | ⟨r, s, rfl⟩
  · exact List.pairwise_singleton _ _
  · rw [List.concat_eq_append, rowS_snoc]; exact catL_set _ _ _
theorem sym_ind {P : List Sy → Prop} (h0 : P []) (h1 : ∀ l s, P l → P (l ++ [s])) (l : List Sy) : P l := by
  have : ∀ n, n ≤ l.length → P (l.take n) := by
    intro n
    induction n with
    | zero => intro _; exact h0
    | succ n ih => intro hn; rw [List.take_succ_eq_append_getElem (by omega)]; exact h1 _ _ (ih (by omega))
  have h := this l.length (Nat.le_refl _)
  rwa [List.take_length] at h
/-- All of one is in the other one. -/
def Sub (S T : Sts) : Prop := ∀ n x, x ∈ stAt S n → x ∈ stAt T n
theorem symS_sub {S T : Sts} (h : Sub S T) (s : Sy) (x : Tx) (hx : x ∈ symS S s) : x ∈ symS T s := by
  unfold symS at hx ⊢
  cases ht : s.tok with
  | true => rw [ht] at hx; exact hx
  | false => rw [ht] at hx; exact h _ _ hx
theorem rowS_sub {S T : Sts} (h : Sub S T) (k : Int) (l : List Sy) : ∀ x, x ∈ rowS k S l → x ∈ rowS k T l := by
  induction l using sym_ind with
  | h0 => exact fun x hx => hx
  | h1 l s ih =>
    intro x hx
    rw [rowS_snoc, catL_mem] at hx ⊢
    obtain ⟨a, ha, b, hb, rfl⟩ := hx
    exact ⟨a, ih a ha, b, symS_sub h s b hb, rfl⟩
/-- Sets do with what a row asks for. -/
theorem rowS_congr {S T : Sts} (k : Int) (l : List Sy) (h : ∀ s ∈ l, s.tok = false → stAt S s.n = stAt T s.n) : rowS k S l = rowS k T l := by
  unfold rowS
  generalize ([[]] : List Tx) = r
  induction l generalizing r with
  | nil => rfl
  | cons s l ih =>
    rw [List.foldl_cons, List.foldl_cons]
    have e : symS S s = symS T s := by
      unfold symS
      cases ht : s.tok with
      | true => rfl
      | false => exact h s List.mem_cons_self ht
    rw [e]
    exact ih (fun s hs => h s (List.mem_cons_of_mem _ hs)) _
/-- Is what some first symbols of a row stand for more than most? -/
def OverR (k : Int) (most : Nat) (S : Sts) (l : List Sy) : Prop := ∃ i, i < l.length ∧ most < (rowS k S (l.take (i + 1))).length
/-- What all symbols of a row come to, by derivation. -/
inductive FD (b : Bn) (k : Int) : List Sy → Tx → Prop
  | nil : FD b k [] []
  | tok {l : List Sy} {x : Tx} {s : Sy} : FD b k l x → s.tok = true → FD b k (l ++ [s]) (catT x [UInt8.ofNat s.n.toNat] k)
  | non {l : List Sy} {x y : Tx} {s : Sy} {p : Pr} : FD b k l x → s.tok = false → p ∈ b.l → p.left = s.n → FD b k p.right y → FD b k (l ++ [s]) (catT x y k)
/-- What the sets hold is derived; and what is derived by a step is held. -/
structure Sound (b : Bn) (k : Int) (S : Sts) : Prop where
  len : S.length = b.of.length
  set : ∀ l ∈ S, IsSet l
  der : ∀ n x, x ∈ stAt S n → ∃ p ∈ b.l, p.left.toNat = n.toNat ∧ FD b k p.right x
def Closed (b : Bn) (k : Int) (S : Sts) : Prop := ∀ p ∈ b.l, ∀ x ∈ rowS k S p.right, x ∈ stAt S p.left
theorem Closed.der {b : Bn} {k : Int} {S : Sts} (h : Closed b k S) {l : List Sy} {x : Tx} (hd : FD b k l x) : x ∈ rowS k S l := by
  induction hd with
  | nil => exact List.mem_singleton.2 rfl
  | @tok l x s h1 ht ih =>
    rw [rowS_snoc, catL_mem]
    exact ⟨_, ih, _, by unfold symS; rw [if_pos ht]; exact List.mem_singleton.2 rfl, rfl⟩
  | @non l x y s p h1 ht hp hl h2 ih1 ih2 =>
    rw [rowS_snoc, catL_mem]
    refine ⟨_, ih1, y, ?_, rfl⟩
    unfold symS
    rw [ht]
    have := h p hp y ih2
    rw [hl] at this
    simpa using this
theorem Sound.row {b : Bn} {k : Int} {S : Sts} (hok : ∀ p ∈ b.l, prOk b p = true) (h : Sound b k S) (l : List Sy) (hl : ∀ s ∈ l, s.tok = false → 0 ≤ s.n ∧ s.n < b.of.length) : ∀ x ∈ rowS k S l, FD b k l x := by
  induction l using sym_ind with
  | h0 => intro x hx; rw [List.mem_singleton.1 hx]; exact .nil
  | h1 l s ih =>
    intro x hx
    rw [rowS_snoc, catL_mem] at hx
    obtain ⟨a, ha, y, hy, rfl⟩ := hx
    have h1 := ih (fun s hs => hl s (List.mem_append_left _ hs)) a ha
    unfold symS at hy
    cases ht : s.tok with
    | true =>
      rw [ht] at hy
      have e : y = [UInt8.ofNat s.n.toNat] := by simpa using hy
      rw [e]
      exact .tok h1 ht
    | false =>
      rw [ht] at hy
      obtain ⟨p, hp, hpl, hd⟩ := h.der s.n y (by simpa using hy)
      have h2 := prOk_left (hok p hp)
      have h3 := hl s (by simp) ht
      exact .non h1 ht hp (by omega) hd
/-- Sound sets are within closed ones. -/
theorem Sound.sub {b : Bn} {k : Int} {S T : Sts} (hok : ∀ p ∈ b.l, prOk b p = true) (h : Sound b k S) (hT : Closed b k T) : Sub S T := fun n x hx => by
  obtain ⟨p, hp, hl, hd⟩ := h.der n x hx
  have h1 := hT p hp x (hT.der hd)
  have e : stAt T p.left = stAt T n := by unfold stAt; rw [hl]
  rwa [e] at h1
theorem stAt_nat (S : Sts) (j : Nat) (h : j < S.length) : stAt S (j : Int) = S[j] := by unfold stAt; rw [Int.toNat_natCast, List.getElem?_eq_getElem h]; rfl
theorem stAt_set (S : Sts) (n : Int) : ∀ _ : ∀ l ∈ S, IsSet l, IsSet (stAt S n) := fun h => by
  unfold stAt
  cases e : S[n.toNat]? with
  | none => exact List.Pairwise.nil
  | some l => exact h l (List.mem_of_getElem? e)
theorem Sound.uniq {b : Bn} {k : Int} {S T : Sts} (hok : ∀ p ∈ b.l, prOk b p = true) (hS : Sound b k S) (hT : Sound b k T) (cS : Closed b k S) (cT : Closed b k T) : S = T := by
  refine List.ext_getElem (hS.len.trans hT.len.symm) fun j h1 h2 => ?_
  rw [← stAt_nat S j h1, ← stAt_nat T j h2]
  exact set_ext (stAt_set S _ hS.set) (stAt_set T _ hT.set) fun x => ⟨hS.sub hok cT _ x, hT.sub hok cS _ x⟩
/-- What is too much stays too much. -/
theorem OverR.sub {k : Int} {most : Nat} {S T : Sts} {l : List Sy} (h : OverR k most S l) (hs : Sub S T) : OverR k most T l := by
  obtain ⟨i, hi, h1⟩ := h
  exact ⟨i, hi, Nat.lt_of_lt_of_le h1 (tset_sub (rowS_set _ _ _) (rowS_sub hs k _))⟩
theorem joinL_mem (a b : List Tx) (x : Tx) : x ∈ joinL a b ↔ x ∈ a ∨ x ∈ b := by unfold joinL; rw [toSet_mem, List.mem_append]
/-- Too much, somewhere: rules of which the answer is a limit. -/
def Over (b : Bn) (k : Int) (most : Nat) (S : Sts) : Prop := ∃ p ∈ b.l, OverR k most S p.right ∨ most < (joinL (stAt S p.left) (rowS k S p.right)).length
theorem Over.not {b : Bn} {k : Int} {most : Nat} {S T : Sts} (h : Over b k most S) (hs : Sub S T) (hT : ∀ l ∈ T, IsSet l) (cT : Closed b k T) (h1 : ∀ p ∈ b.l, ¬ OverR k most T p.right) (h2 : ∀ n, (stAt T n).length ≤ most) : False := by
  obtain ⟨p, hp, h3 | h3⟩ := h
  · exact h1 p hp (h3.sub hs)
  · have : (joinL (stAt S p.left) (rowS k S p.right)).length ≤ (stAt T p.left).length := tset_sub (toSet_set _) fun x hx => by
      rcases (joinL_mem _ _ _).1 hx with h4 | h4
      · exact hs _ _ h4
      · exact cT p hp x (rowS_sub hs k _ x h4)
    have := h2 p.left
    omega
/-- A set that grows. -/
theorem stAt_put (S : Sts) (j : Nat) (l : List Tx) (hj : j < S.length) (n : Int) : stAt (S.set j l) n = if n.toNat = j then l else stAt S n := by
  unfold stAt
  rw [List.getElem?_set]
  by_cases e : j = n.toNat
  · subst e; simp [hj]
  · rw [if_neg e, if_neg (Ne.symm e)]
theorem Sound.put {b : Bn} {k : Int} {S : Sts} (hok : ∀ p ∈ b.l, prOk b p = true) (h : Sound b k S) (p : Pr) (hp : p ∈ b.l) : Sound b k (S.set p.left.toNat (joinL (stAt S p.left) (rowS k S p.right))) := by
  have h2 := prOk_left (hok p hp)
  have hj : p.left.toNat < S.length := by rw [h.len]; omega
  refine ⟨by rw [List.length_set]; exact h.len, fun l hl => ?_, fun n x hx => ?_⟩
  · rcases List.mem_or_eq_of_mem_set hl with h1 | h1
    · exact h.set l h1
    · rw [h1]; exact toSet_set _
  · rw [stAt_put S _ _ hj] at hx
    by_cases e : n.toNat = p.left.toNat
    · rw [if_pos e] at hx
      rcases (joinL_mem _ _ _).1 hx with h1 | h1
      · obtain ⟨q, a, b', c⟩ := h.der _ x h1
        exact ⟨q, a, b'.trans e.symm, c⟩
      · exact ⟨p, hp, e.symm, h.row hok p.right (fun s hs ht => prOk_sym (hok p hp) hs ht) x h1⟩
    · rw [if_neg e] at hx; exact h.der n x hx
theorem sub_put {S : Sts} (p : Pr) (l : List Tx) (hj : p.left.toNat < S.length) (h : ∀ x ∈ stAt S p.left, x ∈ l) : Sub S (S.set p.left.toNat l) := fun n x hx => by
  rw [stAt_put S _ _ hj]
  by_cases e : n.toNat = p.left.toNat
  · rw [if_pos e]
    have e2 : stAt S n = stAt S p.left := by unfold stAt; rw [e]
    rw [e2] at hx; exact h x hx
  · rw [if_neg e]; exact hx
theorem join_same {a b : List Tx} (ha : IsSet a) (h : (joinL a b).length = a.length) : joinL a b = a ∧ ∀ x ∈ b, x ∈ a := by
  have e : a = joinL a b := tset_eq ha (toSet_set _) (fun x hx => (joinL_mem _ _ _).2 (.inl hx)) (by rw [h]; exact Nat.le_refl _)
  exact ⟨e.symm, fun x hx => by rw [e]; exact (joinL_mem _ _ _).2 (.inr hx)⟩
theorem join_le {a b : List Tx} (ha : IsSet a) : a.length ≤ (joinL a b).length := tset_sub ha fun x hx => (joinL_mem _ _ _).2 (.inl hx)
end Go.Proofs.Ytimgnbacgdmiiaa
