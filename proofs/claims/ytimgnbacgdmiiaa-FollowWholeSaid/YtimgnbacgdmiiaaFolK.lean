/-
  What follows: all texts are whole; of rules that all end, what is reached has something behind it. Plain.
-/
import Derived.Test.YtimgnbacgdmiiaaQR
import Derived.Test.YtimgnbacgdmiiaaQTupleM
namespace Go.Proofs.Ytimgnbacgdmiiaa
open Go.RowKit PK
set_option linter.unusedVariables false
set_option linter.unusedSimpArgs false

theorem snoc_rec {α : Type} {P : List α → Prop} (h0 : P []) (h1 : ∀ l a, P l → P (l ++ [a])) (l : List α) : P l := by
  have h : ∀ r : List α, P r.reverse := by
    intro r
    induction r with
    | nil => exact h0
    | cons a r ih => rw [List.reverse_cons]; exact h1 _ _ ih
  have := h l.reverse
  rwa [List.reverse_reverse] at this
/-- Tokens, and then only ends. -/
def NZ (x : Tx) : Prop := ∀ u ∈ x, 1 ≤ u.toNat ∧ u.toNat ≤ 60
def WholeT (k : Int) (x : Tx) : Prop := x.length = k.toNat ∧ ∃ (a : Tx) (m : Nat), NZ a ∧ x = a ++ List.replicate m 0
theorem whole_end (k : Int) : WholeT k (endT k) := ⟨by unfold endT; rw [List.length_replicate], [], k.toNat, (fun u hu => by cases hu), by simp [endT]⟩
theorem whole_cat {k : Int} {y x : Tx} (hy : NZ y) (hx : WholeT k x) : WholeT k (catT y x k) := by
  obtain ⟨h1, a, m, h2, rfl⟩ := hx
  unfold catT
  refine ⟨?_, ?_⟩
  · rw [List.length_take, List.length_append]; omega
  · rw [← List.append_assoc, List.take_append]
    refine ⟨(y ++ a).take k.toNat, min (k.toNat - (y ++ a).length) m, fun u hu => ?_, by rw [List.take_replicate]⟩
    rcases List.mem_append.1 (List.mem_of_mem_take hu) with h | h
    · exact hy u h
    · exact h2 u h
theorem nz_cat {k : Int} {x y : Tx} (hx : NZ x) (hy : NZ y) : NZ (catT x y k) := fun u hu => by
  unfold catT at hu
  rcases List.mem_append.1 (List.mem_of_mem_take hu) with h | h
  · exact hx u h
  · exact hy u h
theorem nz_der {b : Bn} {k : Int} (h0 : bmay b = 0) {l : List Sy} {x : Tx} (hd : FD b k l x) (hl : ∀ s ∈ l, s.tok = true → 1 ≤ s.n ∧ s.n ≤ 60) : NZ x := by
  obtain ⟨z1, z2, z3, z4, z5, z6, z7, z8, z9, z10⟩ := bmay_zero h0
  induction hd with
  | nil => intro u hu; cases hu
  | @tok l x s _ ht ih =>
    refine nz_cat (ih fun s hs => hl s (List.mem_append_left _ hs)) fun u hu => ?_
    have h1 := hl s (List.mem_append_right _ (by simp)) ht
    have h2 : u = UInt8.ofNat s.n.toNat := by simpa using hu
    rw [h2, UInt8.toNat_ofNat']
    omega
  | @non l x y s p _ ht hp hpn _ ih1 ih2 =>
    refine nz_cat (ih1 fun s hs => hl s (List.mem_append_left _ hs)) (ih2 fun s hs hst => ?_)
    have := prOk_tok (z6 p hp) hs hst; omega
theorem nz_row {b : Bn} {S : Sts} (h0 : bmay b = 0) (hS : GoodSt b S) {p : Pr} (hp : p ∈ b.l) (i : Nat) {x : Tx} (hx : x ∈ rowS b.look S (p.right.drop i)) : NZ x := by
  obtain ⟨z1, z2, z3, z4, z5, z6, z7, z8, z9, z10⟩ := bmay_zero h0
  have key : ∀ l : List Sy, (∀ s ∈ l, s ∈ p.right) → ∀ x ∈ rowS b.look S l, NZ x := by
    refine snoc_rec ?_ ?_
    · intro _ x hx
      have : x = [] := by simpa [rowS] using hx
      rw [this]; intro u hu; cases hu
    · intro l s ih hl x hx
      rw [rowS_snoc, catL_mem] at hx
      obtain ⟨a, ha, y, hy, rfl⟩ := hx
      refine nz_cat (ih (fun t ht => hl t (List.mem_append_left _ ht)) a ha) ?_
      have hs := hl s (List.mem_append_right _ (by simp))
      unfold symS at hy
      cases ht : s.tok with
      | true =>
        rw [ht] at hy
        have h2 : y = [UInt8.ofNat s.n.toNat] := by simpa using hy
        have h1 := prOk_tok (z6 p hp) hs ht
        rw [h2]
        intro u hu
        have h3 : u = UInt8.ofNat s.n.toNat := by simpa using hu
        rw [h3, UInt8.toNat_ofNat']
        omega
      | false =>
        rw [ht] at hy
        simp only [Bool.false_eq_true, if_false] at hy
        obtain ⟨q, hq, _, hd⟩ := hS.1.sound.der s.n y hy
        exact nz_der h0 hd fun t ht2 htt => by have := prOk_tok (z6 q hq) ht2 htt; omega
  exact key _ (fun s hs => List.mem_of_mem_drop hs) x hx
theorem whole_all {b : Bn} {S : Sts} (h0 : bmay b = 0) (hS : GoodSt b S) {n : Nat} {x : Tx} (hd : FolD (stAll b.look S b.l) b.look (endT b.look) n x) : WholeT b.look x := by
  induction hd with
  | zero => exact whole_end _
  | @step t x y ht _ hy ih =>
    obtain ⟨p, hp, i, s, _, _, rfl⟩ := stAll_mem ht
    exact whole_cat (nz_row h0 hS hp (i + 1) hy) ih
/-- Where all ends, no row is without beginnings. -/
theorem some_row {b : Bn} {S : Sts} (h0 : bmay b = 0) (hS : GoodSt b S) (hE : ∀ n : Nat, n < b.of.length → Der b.l true (n : Int)) : ∀ n : Nat, n < b.of.length → stAt S (n : Int) ≠ [] := by
  obtain ⟨z1, z2, z3, z4, z5, z6, z7, z8, z9, z10⟩ := bmay_zero h0
  have row : ∀ l : List Sy, (∀ s ∈ l, s.tok = false → stAt S s.n ≠ []) → rowS b.look S l ≠ [] := by
    refine snoc_rec ?_ ?_
    · intro _ h; cases h
    · intro l s ih hl h
      obtain ⟨x, hx⟩ := List.exists_mem_of_ne_nil _ (ih fun t ht => hl t (List.mem_append_left _ ht))
      have hy : ∃ y, y ∈ symS S s := by
        unfold symS
        cases ht : s.tok with
        | true => exact ⟨[UInt8.ofNat s.n.toNat], by simp⟩
        | false => simpa using List.exists_mem_of_ne_nil _ (hl s (List.mem_append_right _ (by simp)) ht)
      obtain ⟨y, hy⟩ := hy
      have : catT x y b.look ∈ rowS b.look S (l ++ [s]) := by rw [rowS_snoc, catL_mem]; exact ⟨x, hx, y, hy, rfl⟩
      rw [h] at this; cases this
  have key : ∀ x : Int, Der b.l true x → stAt S x ≠ [] := by
    intro x hd
    induction hd with
    | mk p hp _ _ ih =>
      obtain ⟨x, hx⟩ := List.exists_mem_of_ne_nil _ (row p.right ih)
      have := hS.2.1 p hp x hx
      intro h; rw [h] at this; cases this
  exact fun n hn => key _ (hE n hn)
theorem may_whole {k : Int} {x : Tx} (hk : 1 ≤ k ∧ k ≤ 4) (h : WholeT k x) : mayB ⟨x.toArray⟩ k = true := by
  obtain ⟨h1, a, m, h2, h3⟩ := h
  have hs : (⟨x.toArray⟩ : ByteArray).size = x.length := by show x.toArray.size = _; simp
  have hd : (⟨x.toArray⟩ : ByteArray).data.toList = x := by simp
  refine mayB_yes _ _ hk.1 hk.2 (by rw [hs]; omega) fun j hj => ?_
  rw [hs] at hj
  unfold mayAt
  rw [hd]
  have hat : ∀ i, i < x.length → ((i < a.length ∧ 1 ≤ (x.getD i 0).toNat ∧ (x.getD i 0).toNat ≤ 60) ∨ (a.length ≤ i ∧ (x.getD i 0).toNat = 0)) := fun i hi => by
    rw [List.getD_eq_getElem?_getD, h3]
    rcases Nat.lt_or_ge i a.length with h4 | h4
    · rw [List.getElem?_append_left h4, List.getElem?_eq_getElem h4, Option.getD_some]
      exact .inl ⟨h4, h2 _ (List.getElem_mem h4)⟩
    · rw [List.getElem?_append_right h4, List.getElem?_replicate]
      refine .inr ⟨h4, ?_⟩
      split <;> rfl
  have h5 := hat j hj
  rcases Nat.eq_zero_or_pos j with rfl | h6
  · simp only [Bool.and_eq_true, decide_eq_true_eq, Bool.not_eq_true', Bool.and_eq_false_iff, decide_eq_false_iff_not]
    omega
  · have h7 := hat (j - 1) (by omega)
    simp only [Bool.and_eq_true, decide_eq_true_eq, Bool.not_eq_true', Bool.and_eq_false_iff, decide_eq_false_iff_not]
    omega
theorem row_some {b : Bn} {S : Sts} (hS : ∀ n : Nat, n < b.of.length → stAt S (n : Int) ≠ []) : ∀ l : List Sy, (∀ s ∈ l, s.tok = false → 0 ≤ s.n ∧ s.n < b.of.length) → ∃ x, x ∈ rowS b.look S l := by
  refine snoc_rec ?_ ?_
  · intro _; exact ⟨[], by simp [rowS]⟩
  · intro l s ih hl
    obtain ⟨x, hx⟩ := ih fun t ht => hl t (List.mem_append_left _ ht)
    have hy : ∃ y, y ∈ symS S s := by
      unfold symS
      cases ht : s.tok with
      | true => exact ⟨[UInt8.ofNat s.n.toNat], by simp⟩
      | false =>
        have h1 := hl s (List.mem_append_right _ (by simp)) ht
        have h2 := hS s.n.toNat (by omega)
        rw [show ((s.n.toNat : Nat) : Int) = s.n by omega] at h2
        simpa using List.exists_mem_of_ne_nil _ h2
    obtain ⟨y, hy⟩ := hy
    exact ⟨catT x y b.look, by rw [rowS_snoc, catL_mem]; exact ⟨x, hx, y, hy, rfl⟩⟩
theorem nts_all (f : Sy → Bool) (hf : ∀ s, f s = true) (l : List Sy) : collect f l = nts l := collect_all f l (List.all_eq_true.2 fun s _ => hf s)
/-- What is reached has something behind it, where all ends. -/
theorem some_fol {b : Bn} {S F : Sts} (h0 : bmay b = 0) (hS : GoodSt b S) (hE : ∀ n : Nat, n < b.of.length → Der b.l true (n : Int)) (hC : ClosedF (stAll b.look S b.l) b.look (endT b.look) F) {n : Int} (hr : Rc (nextI b fun _ => true) [0] n) : ∃ x, x ∈ stAt F n := by
  obtain ⟨z1, z2, z3, z4, z5, z6, z7, z8, z9, z10⟩ := bmay_zero h0
  induction hr with
  | base h =>
    have h1 := List.mem_singleton.1 h
    rw [h1]; exact ⟨_, hC.1⟩
  | @step x y _ hy ih =>
    obtain ⟨u, hu⟩ := ih
    have h1 := (toSetI_mem _ _).1 hy
    unfold rowTo at h1
    rw [List.take_length] at h1
    obtain ⟨p, hp, h2⟩ := List.mem_flatMap.1 h1
    by_cases h3 : p.left = x
    · rw [if_pos h3] at h2
      obtain ⟨s, hs, ht, hn⟩ := collect_mem h2
      obtain ⟨i, hi, rfl⟩ := List.getElem_of_mem hs
      obtain ⟨v, hv⟩ := row_some (some_row h0 hS hE) (p.right.drop (i + 1)) fun t htm htt => prOk_sym (z6 p hp) (List.mem_of_mem_drop htm) htt
      have h4 := hC.2 _ (mem_stAll (S := S) (k := b.look) hp (List.getElem?_eq_getElem hi) ht) (catT v u b.look) ((catL_mem _ _ _ _).2 ⟨v, hv, u, by rw [h3]; exact hu, rfl⟩)
      rw [← hn]; exact ⟨_, h4⟩
    · rw [if_neg h3] at h2; cases h2
end Go.Proofs.Ytimgnbacgdmiiaa
