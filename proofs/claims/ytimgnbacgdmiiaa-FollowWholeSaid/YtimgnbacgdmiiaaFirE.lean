/-
  Beginnings, plain: what rows of symbols stand for, sets that grow.
  What the rows of a program's sets are made of: tuple.Of of one, nothing, whole, Ahead's function, Set.
  row.Ahead's function, Set, Of.
  row.Of.
  What a look at a production does to sets, plain.
-/
import Derived.Test.YtimgnbacgdmiiaaBnfC
import Derived.Test.YtimgnbacgdmiiaaKPackK
import Derived.Test.YtimgnbacgdmiiaaShelf
import Derived.Test.YtimgnbacgdmiiaaSetC
namespace Go.Proofs.Ytimgnbacgdmiiaa
open Go.RowKit PK
set_option linter.unusedVariables false
set_option linter.unusedSimpArgs false

theorem nodup_sub {α : Type} [DecidableEq α] : ∀ {a b : List α}, a.Nodup → (∀ x ∈ a, x ∈ b) → a.length ≤ b.length := by
  intro a
  induction a with
  | nil => intro b _ _; exact Nat.zero_le _
  | cons x r ih =>
    intro b h1 h2
    rw [List.nodup_cons] at h1
    have hx := h2 x List.mem_cons_self
    have h3 : r.length ≤ (b.erase x).length := ih h1.2 fun y hy => by
      have hne : y ≠ x := fun e => h1.1 (e ▸ hy)
      exact (List.mem_erase_of_ne hne).2 (h2 y (List.mem_cons_of_mem _ hy))
    rw [List.length_erase_of_mem hx] at h3
    have := List.length_pos_of_mem hx
    rw [List.length_cons]; omega
theorem tset_nodup {l : List Tx} (h : IsSet l) : l.Nodup := List.Pairwise.imp (fun {a b} (h : a < b) (e : a = b) => tx_irrefl b (by rw [e] at h; exact h)) h
theorem tset_sub {a b : List Tx} (ha : IsSet a) (h : ∀ x ∈ a, x ∈ b) : a.length ≤ b.length := nodup_sub (tset_nodup ha) h
theorem tset_eq {a b : List Tx} (ha : IsSet a) (hb : IsSet b) (h : ∀ x ∈ a, x ∈ b) (hl : b.length ≤ a.length) : a = b := by
  refine set_ext ha hb fun x => ⟨h x, fun hx => ?_⟩
  refine Classical.byContradiction fun hn => ?_
  have : (x :: a).length ≤ b.length := nodup_sub (List.nodup_cons.2 ⟨hn, tset_nodup ha⟩) fun y hy => by
    rcases List.mem_cons.1 hy with rfl | h1
    · exact hx
    · exact h y h1
  rw [List.length_cons] at this; omega
theorem catL_mem (a b : List Tx) (k : Int) (z : Tx) : z ∈ catL a b k ↔ ∃ x ∈ a, ∃ y ∈ b, z = catT x y k := by
  unfold catL catsF
  rw [toSet_mem, List.mem_flatMap]
  constructor
  · rintro ⟨x, hx, hz⟩; obtain ⟨y, hy, rfl⟩ := List.mem_map.1 hz; exact ⟨x, hx, y, hy, rfl⟩
  · rintro ⟨x, hx, y, hy, rfl⟩; exact ⟨x, hx, List.mem_map.2 ⟨y, hy, rfl⟩⟩
theorem catL_set (a b : List Tx) (k : Int) : IsSet (catL a b k) := toSet_set _
theorem prOk_left {b : Bn} {p : Pr} (h : prOk b p = true) : 0 ≤ p.left ∧ p.left < b.of.length := by
  unfold prOk at h; simp only [Bool.and_eq_true, decide_eq_true_eq] at h; exact h.1
theorem prOk_sym {b : Bn} {p : Pr} (h : prOk b p = true) {s : Sy} (hs : s ∈ p.right) (ht : s.tok = false) : 0 ≤ s.n ∧ s.n < b.of.length := by
  unfold prOk at h; simp only [Bool.and_eq_true, List.all_eq_true] at h
  have := h.2 s hs
  unfold symOk at this
  rw [ht] at this
  simpa using this
/-- Sets that grow: of each nonterminal one. -/
abbrev Sts := List (List Tx)
def stAt (S : Sts) (n : Int) : List Tx := (S[n.toNat]?).getD []
/-- What a symbol stands for. -/
def symS (S : Sts) (s : Sy) : List Tx := if s.tok then [[UInt8.ofNat s.n.toNat]] else stAt S s.n
/-- What a row stands for. -/
def rowS (k : Int) (S : Sts) (l : List Sy) : List Tx := l.foldl (fun r s => catL r (symS S s) k) [[]]
theorem rowS_snoc (k : Int) (S : Sts) (l : List Sy) (s : Sy) : rowS k S (l ++ [s]) = catL (rowS k S l) (symS S s) k := by unfold rowS; rw [List.foldl_append]; rfl
theorem rowS_succ (k : Int) (S : Sts) (l : List Sy) (i : Nat) (h : i < l.length) : rowS k S (l.take (i + 1)) = catL (rowS k S (l.take i)) (symS S l[i]) k := by
  rw [List.take_succ_eq_append_getElem h, rowS_snoc]
theorem rowS_set (k : Int) (S : Sts) (l : List Sy) : IsSet (rowS k S l) := by
  rcases List.eq_nil_or_concat l with rfl | ⟨r, s, rfl⟩
  · exact List.pairwise_singleton _ _
  · rw [List.concat_eq_append, rowS_snoc]; exact catL_set _ _ _
theorem sym_ind {P : List Sy → Prop} (h0 : P []) (h1 : ∀ l s, P l → P (l ++ [s])) (l : List Sy) : P l := by
  have : ∀ n, n ≤ l.length → P (l.take n) := by
    intro n
    induction n with
    | zero => intro _; exact h0
    | succ n ih => intro hn; rw [List.take_succ_eq_append_getElem (by omega)]; exact h1 _ _ (ih (by omega))
  have h := this l.length (Nat.le_refl _)
  rwa [List.take_length] at h
/-- All of one is in the other one. -/
def Sub (S T : Sts) : Prop := ∀ n x, x ∈ stAt S n → x ∈ stAt T n
theorem symS_sub {S T : Sts} (h : Sub S T) (s : Sy) (x : Tx) (hx : x ∈ symS S s) : x ∈ symS T s := by
  unfold symS at hx ⊢
  cases ht : s.tok with
  | true => rw [ht] at hx; exact hx
  | false => rw [ht] at hx; exact h _ _ hx
theorem rowS_sub {S T : Sts} (h : Sub S T) (k : Int) (l : List Sy) : ∀ x, x ∈ rowS k S l → x ∈ rowS k T l := by
  induction l using sym_ind with
  | h0 => exact fun x hx => hx
  | h1 l s ih =>
    intro x hx
    rw [rowS_snoc, catL_mem] at hx ⊢
    obtain ⟨a, ha, b, hb, rfl⟩ := hx
    exact ⟨a, ih a ha, b, symS_sub h s b hb, rfl⟩
/-- Sets do with what a row asks for. -/
theorem rowS_congr {S T : Sts} (k : Int) (l : List Sy) (h : ∀ s ∈ l, s.tok = false → stAt S s.n = stAt T s.n) : rowS k S l = rowS k T l := by
  unfold rowS
  generalize ([[]] : List Tx) = r
  induction l generalizing r with
  | nil => rfl
  | cons s l ih =>
    rw [List.foldl_cons, List.foldl_cons]
    have e : symS S s = symS T s := by
      unfold symS
      cases ht : s.tok with
      | true => rfl
      | false => exact h s List.mem_cons_self ht
    rw [e]
    exact ih (fun s hs => h s (List.mem_cons_of_mem _ hs)) _
/-- Is what some first symbols of a row stand for more than most? -/
def OverR (k : Int) (most : Nat) (S : Sts) (l : List Sy) : Prop := ∃ i, i < l.length ∧ most < (rowS k S (l.take (i + 1))).length
/-- What all symbols of a row come to, by derivation. -/
inductive FD (b : Bn) (k : Int) : List Sy → Tx → Prop
  | nil : FD b k [] []
  | tok {l : List Sy} {x : Tx} {s : Sy} : FD b k l x → s.tok = true → FD b k (l ++ [s]) (catT x [UInt8.ofNat s.n.toNat] k)
  | non {l : List Sy} {x y : Tx} {s : Sy} {p : Pr} : FD b k l x → s.tok = false → p ∈ b.l → p.left = s.n → FD b k p.right y → FD b k (l ++ [s]) (catT x y k)
/-- What the sets hold is derived; and what is derived by a step is held. -/
structure Sound (b : Bn) (k : Int) (S : Sts) : Prop where
  len : S.length = b.of.length
  set : ∀ l ∈ S, IsSet l
  der : ∀ n x, x ∈ stAt S n → ∃ p ∈ b.l, p.left.toNat = n.toNat ∧ FD b k p.right x
def Closed (b : Bn) (k : Int) (S : Sts) : Prop := ∀ p ∈ b.l, ∀ x ∈ rowS k S p.right, x ∈ stAt S p.left
theorem Closed.der {b : Bn} {k : Int} {S : Sts} (h : Closed b k S) {l : List Sy} {x : Tx} (hd : FD b k l x) : x ∈ rowS k S l := by
  induction hd with
  | nil => exact List.mem_singleton.2 rfl
  | @tok l x s h1 ht ih =>
    rw [rowS_snoc, catL_mem]
    exact ⟨_, ih, _, by unfold symS; rw [if_pos ht]; exact List.mem_singleton.2 rfl, rfl⟩
  | @non l x y s p h1 ht hp hl h2 ih1 ih2 =>
    rw [rowS_snoc, catL_mem]
    refine ⟨_, ih1, y, ?_, rfl⟩
    unfold symS
    rw [ht]
    have := h p hp y ih2
    rw [hl] at this
    simpa using this
theorem Sound.row {b : Bn} {k : Int} {S : Sts} (hok : ∀ p ∈ b.l, prOk b p = true) (h : Sound b k S) (l : List Sy) (hl : ∀ s ∈ l, s.tok = false → 0 ≤ s.n ∧ s.n < b.of.length) : ∀ x ∈ rowS k S l, FD b k l x := by
  induction l using sym_ind with
  | h0 => intro x hx; rw [List.mem_singleton.1 hx]; exact .nil
  | h1 l s ih =>
    intro x hx
    rw [rowS_snoc, catL_mem] at hx
    obtain ⟨a, ha, y, hy, rfl⟩ := hx
    have h1 := ih (fun s hs => hl s (List.mem_append_left _ hs)) a ha
    unfold symS at hy
    cases ht : s.tok with
    | true =>
      rw [ht] at hy
      have e : y = [UInt8.ofNat s.n.toNat] := by simpa using hy
      rw [e]
      exact .tok h1 ht
    | false =>
      rw [ht] at hy
      obtain ⟨p, hp, hpl, hd⟩ := h.der s.n y (by simpa using hy)
      have h2 := prOk_left (hok p hp)
      have h3 := hl s (by simp) ht
      exact .non h1 ht hp (by omega) hd
/-- Sound sets are within closed ones. -/
theorem Sound.sub {b : Bn} {k : Int} {S T : Sts} (hok : ∀ p ∈ b.l, prOk b p = true) (h : Sound b k S) (hT : Closed b k T) : Sub S T := fun n x hx => by
  obtain ⟨p, hp, hl, hd⟩ := h.der n x hx
  have h1 := hT p hp x (hT.der hd)
  have e : stAt T p.left = stAt T n := by unfold stAt; rw [hl]
  rwa [e] at h1
theorem stAt_nat (S : Sts) (j : Nat) (h : j < S.length) : stAt S (j : Int) = S[j] := by unfold stAt; rw [Int.toNat_natCast, List.getElem?_eq_getElem h]; rfl
theorem stAt_set (S : Sts) (n : Int) : ∀ _ : ∀ l ∈ S, IsSet l, IsSet (stAt S n) := fun h => by
  unfold stAt
  cases e : S[n.toNat]? with
  | none => exact List.Pairwise.nil
  | some l => exact h l (List.mem_of_getElem? e)
theorem Sound.uniq {b : Bn} {k : Int} {S T : Sts} (hok : ∀ p ∈ b.l, prOk b p = true) (hS : Sound b k S) (hT : Sound b k T) (cS : Closed b k S) (cT : Closed b k T) : S = T := by
  refine List.ext_getElem (hS.len.trans hT.len.symm) fun j h1 h2 => ?_
  rw [← stAt_nat S j h1, ← stAt_nat T j h2]
  exact set_ext (stAt_set S _ hS.set) (stAt_set T _ hT.set) fun x => ⟨hS.sub hok cT _ x, hT.sub hok cS _ x⟩
/-- What is too much stays too much. -/
theorem OverR.sub {k : Int} {most : Nat} {S T : Sts} {l : List Sy} (h : OverR k most S l) (hs : Sub S T) : OverR k most T l := by
  obtain ⟨i, hi, h1⟩ := h
  exact ⟨i, hi, Nat.lt_of_lt_of_le h1 (tset_sub (rowS_set _ _ _) (rowS_sub hs k _))⟩
theorem joinL_mem (a b : List Tx) (x : Tx) : x ∈ joinL a b ↔ x ∈ a ∨ x ∈ b := by unfold joinL; rw [toSet_mem, List.mem_append]
/-- Too much, somewhere: rules of which the answer is a limit. -/
def Over (b : Bn) (k : Int) (most : Nat) (S : Sts) : Prop := ∃ p ∈ b.l, OverR k most S p.right ∨ most < (joinL (stAt S p.left) (rowS k S p.right)).length
theorem Over.not {b : Bn} {k : Int} {most : Nat} {S T : Sts} (h : Over b k most S) (hs : Sub S T) (hT : ∀ l ∈ T, IsSet l) (cT : Closed b k T) (h1 : ∀ p ∈ b.l, ¬ OverR k most T p.right) (h2 : ∀ n, (stAt T n).length ≤ most) : False := by
  obtain ⟨p, hp, h3 | h3⟩ := h
  · exact h1 p hp (h3.sub hs)
  · have : (joinL (stAt S p.left) (rowS k S p.right)).length ≤ (stAt T p.left).length := tset_sub (toSet_set _) fun x hx => by
      rcases (joinL_mem _ _ _).1 hx with h4 | h4
      · exact hs _ _ h4
      · exact cT p hp x (rowS_sub hs k _ x h4)
    have := h2 p.left
    omega
/-- A set that grows. -/
theorem stAt_put (S : Sts) (j : Nat) (l : List Tx) (hj : j < S.length) (n : Int) : stAt (S.set j l) n = if n.toNat = j then l else stAt S n := by
  unfold stAt
  rw [List.getElem?_set]
  by_cases e : j = n.toNat
  · subst e; simp [hj]
  · rw [if_neg e, if_neg (Ne.symm e)]
theorem Sound.put {b : Bn} {k : Int} {S : Sts} (hok : ∀ p ∈ b.l, prOk b p = true) (h : Sound b k S) (p : Pr) (hp : p ∈ b.l) : Sound b k (S.set p.left.toNat (joinL (stAt S p.left) (rowS k S p.right))) := by
  have h2 := prOk_left (hok p hp)
  have hj : p.left.toNat < S.length := by rw [h.len]; omega
  refine ⟨by rw [List.length_set]; exact h.len, fun l hl => ?_, fun n x hx => ?_⟩
  · rcases List.mem_or_eq_of_mem_set hl with h1 | h1
    · exact h.set l h1
    · rw [h1]; exact toSet_set _
  · rw [stAt_put S _ _ hj] at hx
    by_cases e : n.toNat = p.left.toNat
    · rw [if_pos e] at hx
      rcases (joinL_mem _ _ _).1 hx with h1 | h1
      · obtain ⟨q, a, b', c⟩ := h.der _ x h1
        exact ⟨q, a, b'.trans e.symm, c⟩
      · exact ⟨p, hp, e.symm, h.row hok p.right (fun s hs ht => prOk_sym (hok p hp) hs ht) x h1⟩
    · rw [if_neg e] at hx; exact h.der n x hx
theorem sub_put {S : Sts} (p : Pr) (l : List Tx) (hj : p.left.toNat < S.length) (h : ∀ x ∈ stAt S p.left, x ∈ l) : Sub S (S.set p.left.toNat l) := fun n x hx => by
  rw [stAt_put S _ _ hj]
  by_cases e : n.toNat = p.left.toNat
  · rw [if_pos e]
    have e2 : stAt S n = stAt S p.left := by unfold stAt; rw [e]
    rw [e2] at hx; exact h x hx
  · rw [if_neg e]; exact hx
theorem join_same {a b : List Tx} (ha : IsSet a) (h : (joinL a b).length = a.length) : joinL a b = a ∧ ∀ x ∈ b, x ∈ a := by
  have e : a = joinL a b := tset_eq ha (toSet_set _) (fun x hx => (joinL_mem _ _ _).2 (.inl hx)) (by rw [h]; exact Nat.le_refl _)
  exact ⟨e.symm, fun x hx => by rw [e]; exact (joinL_mem _ _ _).2 (.inr hx)⟩
theorem join_le {a b : List Tx} (ha : IsSet a) : a.length ≤ (joinL a b).length := tset_sub ha fun x hx => (joinL_mem _ _ _).2 (.inl hx)
end Go.Proofs.Ytimgnbacgdmiiaa
namespace Go.Proofs.Ytimgnbacgdmiiaa
open Go.RowKit PK
set_option linter.unusedVariables false
set_option linter.unusedSimpArgs false
attribute [local go_sem ↓] append_appM

theorem info_byte : (Try.prog.info? 5).map (fun i => (i.zero, i.size, i.bytes)) = some (some (.int .u8 0), 1, 1) := by kernel_rfl
def toB (n : Int) : UInt8 := UInt8.ofNat (n % 256).toNat
theorem toB_nat (n : Int) : ((toB n).toNat : Int) = n % 256 := by
  unfold toB; rw [UInt8.toNat_ofNat']; omega
/-- The text of some numbers' last bytes. -/
def ofB (l : List Int) : ByteArray := ⟨(l.map toB).toArray⟩
/-- The bytes of the first k numbers, zeros behind. -/
def half (l : List Int) (k : Nat) : List Value := bys ((l.take k).map toB) ++ List.replicate (l.length - k) (.int .u8 0)
theorem half_zero (l : List Int) : half l 0 = List.replicate l.length (.int .u8 0) := by simp [half, bys]
theorem half_all (l : List Int) : half l l.length = bys (l.map toB) := by simp [half]
theorem half_set (l : List Int) (k : Nat) (h : k < l.length) : (half l k).set k (.int .u8 (l[k] % 256)) = half l (k + 1) := by
  unfold half
  rw [List.set_append, if_neg (by simp [bys]; omega)]
  have hk : (bys ((l.take k).map toB)).length = k := by simp [bys]; omega
  rw [hk, Nat.sub_self]
  obtain ⟨r, hr⟩ : ∃ r, l.length - k = r + 1 := ⟨l.length - k - 1, by omega⟩
  rw [hr, List.replicate_succ, List.set_cons_zero, show l.length - (k + 1) = r from by omega]
  rw [List.take_succ_eq_append_getElem h, List.map_append]
  simp [bys, toB_nat]

set_option maxHeartbeats 400000 in
theorem tupleOf_any (v : Value) (B : Nat) (l : List Int) (w : World) (hr : Row w B 1 v l.length (ints l)) (hB : B ≤ w.heap.size) (hl : l.length ≤ 140737488355328) :
    Calls Try.prog 94 #[v] w fun e w' => e = .returned (.string (ofB l)) ∧ Below w.heap.size w w' := by
  obtain ⟨i0, hi, hz0, hz1, hz2⟩ := info_parts info_byte
  obtain ⟨ao, c, rfl, _, _⟩ := hr.val
  go_enter Try.func94, Try.ntmps94
  go_wp2_with (at_make; refine wpList_make_full _ rfl _ _ 66 rfl w.heap.size 5 i0 (.int .u8 0) 1 Try.underlying66 hi hz0 hz1 .i64 .i64 _ _ l.length rfl rfl rfl rfl (by rw [hz2]; omega) (by unfold maxLen; omega) (Nat.le_refl _) ?_; intro w1 hown hgrow)
  have hown1 : w1.ownsRow w.heap.size 5 1 (.slice (some ⟨w.heap.size, 0, none⟩) l.length l.length) l.length (half l 0) := by
    rw [half_zero]
    have : (madeCells (Value.int .u8 0).cells (l.length * 1)).toList = List.replicate l.length (.int .u8 0) := by rw [Nat.mul_one]; exact toList_madeCells_one _ _
    rw [← this]; exact hown
  have hb1 : Below w.heap.size w w1 := (Below.refl _ w).grown hgrow (Nat.le_refl _) (fun k hk => by cases hk)
  clear hown hgrow
  go_loopw [11] (fun i wr => ∃ k : Nat, k ≤ l.length ∧ i = .int .i64 k ∧ wr.ownsRow w.heap.size 5 1 (.slice (some ⟨w.heap.size, 0, none⟩) l.length l.length) l.length (half l k) ∧ Below w.heap.size w wr) (fun i _ => l.length - (intOf i).toNat)
  case atStart => exact ⟨0, by omega, rfl, hown1, hb1⟩
  case round =>
    obtain ⟨k, hk, rfl, hown, hbel⟩ := hrel
    clear hown1 hb1
    by_cases hlt : k < l.length
    · have hrk := (hr.below (hbel.mono hB))
      obtain ⟨b, off, rfl, hbB, _⟩ := hrk.at (by rw [ints_length]; omega)
      have hc := hrk.cell k _ (ints_at l k hlt)
      have ho := hown.cellAt k (by omega)
      have hof := hown.frozenAt k
      have hst := hown.stored k (.int .u8 (l[k] % 256))
      rw [half_set l k hlt] at hst
      obtain ⟨u, hu⟩ : ∃ u, (half l k)[k]? = some u := ⟨_, List.getElem?_eq_getElem (by have := hown.1; omega)⟩
      rw [hu] at ho
      have Hst := Lib.hid hst; have Hr := Lib.hid hr; have Hrk := Lib.hid hrk
      clear hu hst hown hrk hr
      go_wp2
      go_roundw
      case rel => exact ⟨k + 1, by omega, by go_num, Hst.out.1, hbel.grown Hst.out.2 hbel.size (fun j hj => by cases hj; exact Nat.le_refl _)⟩
      case measure => simp [intOf]; omega
    · obtain rfl : k = l.length := by omega
      rw [half_all] at hown
      have hrow := Row.of_owns hown
      have hcv := run_bytes_row (P := Try.prog) (src := 66) (dst := 9) (l := l.map toB) Try.underlying66 Try.underlying5 Try.underlying9 (by rw [List.length_map]; exact hrow)
      clear hrow hown
      go_wp2
      go_ret
      exact ⟨rfl, hbel⟩
theorem ofB_one (n : Int) (h0 : 0 ≤ n) (h1 : n ≤ 255) : ofB [n] = ⟨([UInt8.ofNat n.toNat] : Tx).toArray⟩ := by
  unfold ofB toB
  rw [List.map_cons, List.map_nil, show n % 256 = n by omega]
set_option maxHeartbeats 1000000 in
theorem rnothing_any (v : Value) (a : List Tx) (B : Nat) (w : World) (r : Row w B 1 v a.length (svt a)) :
    Calls Try.prog 61 #[v] w fun e w' => e = .returned (.bool (decide (a = [[]]))) ∧ w' = w := by
  obtain ⟨ao, c, rfl, hc1, hc2⟩ := r.val
  by_cases h1 : a.length = 1
  · obtain ⟨b1, o1, rfl, hbb1, _⟩ := r.at (by rw [svt_length]; omega)
    obtain ⟨x, rfl⟩ := List.length_eq_one_iff.1 h1
    have c10 := r.cell 0 _ (svt_at [x] 0 (by simp))
    rw [Nat.add_zero] at c10
    simp only [List.getElem_cons_zero, List.length_singleton] at c10 ⊢
    have hx : decide ([x] = [([] : Tx)]) = decide (x = []) := by simp
    rw [hx]
    clear r h1 hx hc1 hc2 hbb1
    cases x with
    | nil =>
      go_enter Try.func61, Try.ntmps61
      go_wp2_with fail
      go_ret
      exact ⟨rfl, rfl⟩
    | cons x0 xr =>
      have hs : ¬ (⟨(x0 :: xr).toArray⟩ : ByteArray).toList = [] := by rw [ByteArray.toList_eq]; simp
      generalize (⟨(x0 :: xr).toArray⟩ : ByteArray) = s at *
      go_enter Try.func61, Try.ntmps61
      go_wp2_with fail
      go_ret
      exact ⟨by simp [hs], rfl⟩
  · have hq : ((a.length : Int) == 1) = false := by rw [beq_eq_false_iff_ne]; omega
    have hq2 : (a.length == 1) = false := by rw [beq_eq_false_iff_ne]; exact h1
    have hq3 : decide (a.length = 1) = false := decide_eq_false h1
    have hne : decide (a = [[]]) = false := decide_eq_false fun h => h1 (by rw [h]; rfl)
    rw [hne]
    generalize a.length = n at *
    clear r h1 hne
    go_enter Try.func61, Try.ntmps61
    go_wp2_with fail
    go_ret
    exact ⟨rfl, rfl⟩
theorem wholeP_any (k : Int) (b : Nat) (w : World) (hc : w.cell? ⟨b, 0, none⟩ = some (.int .i64 k)) (hb : b < w.heap.size) :
    PredAt Try.prog 90 #[.pointer (some ⟨b, 0, none⟩)] (fun t : Tx => .string ⟨t.toArray⟩) (fun t => decide ((t.length : Int) < k)) w := by
  intro W x hB
  have c := (hB.cell (p := ⟨b, 0, none⟩) hb).trans hc
  show Calls Try.prog 90 #[.string ⟨x.toArray⟩, .pointer (some ⟨b, 0, none⟩)] W (fun e w' => e = .returned (.bool (decide ((x.length : Int) < k))) ∧ ∃ q, w' = W.drewN q)
  have hs := tx_size x
  generalize (⟨x.toArray⟩ : ByteArray) = s at *
  rw [← hs]
  clear hs hB hc
  go_enter Try.func90, Try.ntmps90
  go_wp2_with fail
  go_ret
  exact ⟨by first | rfl | simp, 0, rfl⟩
theorem containsW_any (k : Int) (b : Nat) (v : Value) (l : List Tx) (B : Nat) (w : World) (hc : w.cell? ⟨b, 0, none⟩ = some (.int .i64 k)) (hb : b < w.heap.size) (r : Row w B 1 v l.length (svt l)) :
    Calls Try.prog 89 #[v, .func (.func 90) #[] #[.pointer (some ⟨b, 0, none⟩)]] w fun e w' => e = .returned (.bool (l.any fun t => decide ((t.length : Int) < k))) ∧ ∃ q, w' = w.drewN q := by
  obtain ⟨ao, c, rfl, hc1, hc2⟩ := r.val
  unfold maxLen at hc2
  rcases Nat.eq_zero_or_pos l.length with h0 | h0
  · rw [h0]
    have : l = [] := List.length_eq_zero_iff.1 h0
    subst this
    exact (Try.slices_ContainsFunc_empty (α := Tx) ao c _ w).mono fun e w' h => ⟨h.1, 0, h.2⟩
  · obtain ⟨g, o, rfl, h1, _⟩ := r.at (by rw [svt_length]; omega)
    have h := Try.slices_ContainsFunc (fun t : Tx => .string ⟨t.toArray⟩) (fun t => decide ((t.length : Int) < k)) 90 #[.pointer (some ⟨b, 0, none⟩)] (enters_of Try.func90 (by kernel_rfl) rfl) g o l.length c l w (wholeP_any k b w hc hb) (Nat.le_refl _) (by omega) (fun j hj => by
      have := r.cell j _ (svt_at l j hj)
      rw [this, getElem!_pos l j hj])
    rw [List.take_length] at h
    exact h
/-- Can nothing stand behind a set's texts? -/
def wholeB (a : List Tx) (k : Int) : Bool := !(a.any fun t => decide ((t.length : Int) < k))
theorem whole_any (k : Int) (v : Value) (l : List Tx) (B : Nat) (w : World) (hB : B ≤ w.heap.size) (r : Row w B 1 v l.length (svt l)) :
    Calls Try.prog 62 #[v, .int .i64 k] w (BoolB w (wholeB l k)) := by
  obtain ⟨ao, c, rfl, hc1, hc2⟩ := r.val
  have hb := (Below.refl w.heap.size w).alloc (Nat.le_refl _) (.cells #[.int .i64 k] 3)
  have Hc := Lib.hid (containsW_any k w.heap.size (.slice ao l.length c) l B (w.alloc (.cells #[.int .i64 k] 3)) (cell_new w _ _ 0 _ rfl) (by simp) (r.below (hb.mono hB)))
  have Hb := Lib.hid hb
  have Hw : Hid (wholeB l k = !(l.any fun t => decide ((t.length : Int) < k))) := Lib.hid rfl
  generalize wholeB l k = y at *
  generalize (l.any fun t => decide ((t.length : Int) < k)) = x at *
  clear r hb hB hc1 hc2
  go_enter Try.func62, Try.ntmps62
  go_wp2_with fail
  refine (Hc.out).mono ?_
  rintro e w2 ⟨rfl, q, rfl⟩
  have Hd := Lib.hid (Hb.out.trans (below_drewsP (w.alloc (.cells #[.int .i64 k] 3)) q |>.mono Hb.out.size))
  clear Hc
  cases x
  all_goals
    go_wp2_with fail
    go_ret
    exact ⟨by rw [Hw.out]; rfl, Hd.out⟩
end Go.Proofs.Ytimgnbacgdmiiaa
namespace Go.Proofs.Ytimgnbacgdmiiaa
open Go.RowKit PK
set_option linter.unusedVariables false
set_option linter.unusedSimpArgs false
attribute [local go_sem ↓] append_appM

/-- Texts of at most k bytes. -/
def Le (k : Int) (a : List Tx) : Prop := ∀ x ∈ a, (x.length : Int) ≤ k
theorem catT_le (x y : Tx) (k : Int) (h : 0 ≤ k) : ((catT x y k).length : Int) ≤ k := by unfold catT; rw [List.length_take]; omega
theorem catL_le (a b : List Tx) (k : Int) (h : 0 ≤ k) : Le k (catL a b k) := fun z hz => by
  obtain ⟨x, _, y, _, rfl⟩ := (catL_mem _ _ _ _).1 hz
  exact catT_le x y k h
theorem catL_none (a : List Tx) (k : Int) : catL a [] k = [] := by
  refine List.eq_nil_iff_forall_not_mem.2 fun z hz => ?_
  obtain ⟨x, _, y, hy, _⟩ := (catL_mem _ _ _ _).1 hz
  cases hy
theorem take_all (x : Tx) (k : Int) (h : (x.length : Int) ≤ k) : x.take k.toNat = x := List.take_of_length_le (by omega)
theorem catL_left (b : List Tx) (k : Int) (hb : IsSet b) (h : Le k b) : catL [[]] b k = b := by
  refine set_ext (catL_set _ _ _) hb fun z => ?_
  rw [catL_mem]
  constructor
  · rintro ⟨x, hx, y, hy, rfl⟩
    rw [List.mem_singleton.1 hx]
    unfold catT; rw [List.nil_append, take_all y k (h y hy)]; exact hy
  · intro hz; exact ⟨[], List.mem_singleton.2 rfl, z, hz, by unfold catT; rw [List.nil_append, take_all z k (h z hz)]⟩
theorem catL_right (a : List Tx) (k : Int) (ha : IsSet a) (h : Le k a) : catL a [[]] k = a := by
  refine set_ext (catL_set _ _ _) ha fun z => ?_
  rw [catL_mem]
  constructor
  · rintro ⟨x, hx, y, hy, rfl⟩
    rw [List.mem_singleton.1 hy]
    unfold catT; rw [List.append_nil, take_all x k (h x hx)]; exact hx
  · intro hz; exact ⟨z, hz, [], List.mem_singleton.2 rfl, by unfold catT; rw [List.append_nil, take_all z k (h z hz)]⟩
theorem catL_whole (a b : List Tx) (k : Int) (ha : IsSet a) (h : Le k a) (hw : wholeB a k = true) (hb : b ≠ []) : catL a b k = a := by
  have hlen : ∀ x ∈ a, (x.length : Int) = k := fun x hx => by
    unfold wholeB at hw
    rw [Bool.not_eq_true', List.any_eq_false] at hw
    have h1 := hw x hx
    rw [decide_eq_true_eq] at h1
    have := h x hx; omega
  have htk : ∀ x ∈ a, ∀ y : Tx, catT x y k = x := fun x hx y => by
    have h1 := hlen x hx
    unfold catT
    have e : k.toNat = x.length := by omega
    rw [e, List.take_left']
    rfl
  refine set_ext (catL_set _ _ _) ha fun z => ?_
  rw [catL_mem]
  constructor
  · rintro ⟨x, hx, y, hy, rfl⟩; rw [htk x hx]; exact hx
  · intro hz
    obtain ⟨y, hy⟩ := List.exists_mem_of_ne_nil b hb
    exact ⟨z, hz, y, hy, (htk z hz y).symm⟩
/-- What a call that puts sets together answers: a row, maybe one of both. -/
def CatV (w : World) (r : List Tx) (e : Ending) (w' : World) : Prop := ∃ v, e = .returned v ∧ Row w' w'.heap.size 1 v r.length (svt r) ∧ Below w.heap.size w w'
theorem CatV.at {w w' : World} {r : List Tx} {e : Ending} (h : CatV w r e w') : ∃ a c, e = .returned (.slice a r.length c) ∧ Row w' w'.heap.size 1 (.slice a r.length c) r.length (svt r) ∧ Below w.heap.size w w' := by
  obtain ⟨v, he, hr, hb⟩ := h
  obtain ⟨a, c, rfl, _, _⟩ := hr.val
  exact ⟨a, c, he, hr, hb⟩
set_option maxHeartbeats 2000000 in
set_option maxRecDepth 100000 in
theorem ahead_any (k : Int) (kb : Nat) (va vb : Value) (a b : List Tx) (w : World) (hc : w.cell? ⟨kb, 0, none⟩ = some (.int .i64 k)) (hkb : kb < w.heap.size) (hk : 1 ≤ k ∧ k ≤ 4) (ra : Row w w.heap.size 1 va a.length (svt a)) (rb : Row w w.heap.size 1 vb b.length (svt b)) (ha : IsSet a) (hb : IsSet b) (la : Le k a) (lb : Le k b) (na : a.length ≤ 650) (nb : b.length ≤ 650) :
    Calls Try.prog 60 #[va, vb, .pointer (some ⟨kb, 0, none⟩)] w (CatV w (catL a b k)) := by
  obtain ⟨ao, ac, rfl, _, _⟩ := ra.val
  obtain ⟨bo, bc, rfl, _, _⟩ := rb.val
  have Ra := Lib.hid ra; have Rb := Lib.hid rb
  have hna := Lib.hid (fun (w : World) (r : Row w w.heap.size 1 (.slice ao a.length ac) a.length (svt a)) => rnothing_any (.slice ao a.length ac) a w.heap.size w r)
  have hnb := Lib.hid (fun (w : World) (r : Row w w.heap.size 1 (.slice bo b.length bc) b.length (svt b)) => rnothing_any (.slice bo b.length bc) b w.heap.size w r)
  have hwh := Lib.hid (whole_any k (.slice ao a.length ac) a w.heap.size w (Nat.le_refl _) ra)
  have hct := Lib.hid (fun W (hW : Below w.heap.size w W) => packCat_any (.slice ao a.length ac) (.slice bo b.length bc) a b k w.heap.size w.heap.size W hW.size hW.size (ra.below hW) (rb.below hW) na nb (fun x hx => by have := la x hx; omega) (fun x hx => by have := lb x hx; omega) (by omega))
  have HE : Hid ((b = [] ∨ a = [[]]) → catL a b k = b) := Lib.hid fun h => by
    rcases h with h | h
    · rw [h]; exact catL_none a k
    · rw [h]; exact catL_left b k hb lb
  have HE2 : Hid (b ≠ [] → (b = [[]] ∨ wholeB a k = true) → catL a b k = a) := Lib.hid fun h0 h => by
    rcases h with h | h
    · rw [h]; exact catL_right a k ha la
    · exact catL_whole a b k ha la h h0
  have HPb : Hid (catL a b k = b → CatV w (catL a b k) (.returned (.slice bo b.length bc)) w) := Lib.hid fun h => by rw [h]; exact ⟨_, rfl, rb, Below.refl _ _⟩
  have HPa : Hid (catL a b k = a → ∀ W, Below w.heap.size w W → CatV w (catL a b k) (.returned (.slice ao a.length ac)) W) := Lib.hid fun h W hW => by rw [h]; exact ⟨_, rfl, (ra.below hW).mono hW.size, hW⟩
  by_cases hb0 : b = []
  · have HP := Lib.hid (HPb.out (HE.out (.inl hb0)))
    have hl : b.length = 0 := by rw [hb0]; rfl
    rw [hl] at HP ⊢
    clear hb0 ra rb ha hb la lb HE HE2 HPb HPa hl
    generalize a.length = n at *
    go_enter Try.func60, Try.ntmps60
    go_wp2_with fail
    go_ret
    exact HP.out
  · have hbl : b.length ≠ 0 := fun h => hb0 (List.length_eq_zero_iff.1 h)
    have q1 : ((b.length : Int) == 0) = false := by rw [beq_eq_false_iff_ne]; omega
    have q2 : (b.length == 0) = false := by rw [beq_eq_false_iff_ne]; exact hbl
    have q3 : decide (b.length = 0) = false := decide_eq_false hbl
    have q4 : ¬ (b = []) := hb0
    have Hb0 := Lib.hid hb0
    have HNa := Lib.hid (hna.out w ra); have HNb := Lib.hid (hnb.out w rb)
    by_cases ha1 : a = [[]]
    · have HP := Lib.hid (HPb.out (HE.out (.inr ha1)))
      rw [decide_eq_true ha1] at HNa
      obtain ⟨n, hn⟩ : ∃ n, n = a.length := ⟨_, rfl⟩
      obtain ⟨m, hm⟩ : ∃ m, m = b.length := ⟨_, rfl⟩
      rw [← hn] at HNa ⊢
      rw [← hm] at HP q1 q2 q3 hbl ⊢
      clear hb0 ha1 ra rb ha hb la lb HE HE2 HPb HPa hn hm hna hnb hwh hct q4
      go_enter Try.func60, Try.ntmps60
      go_wp2_with fail
      refine (HNa.out).mono ?_
      rintro e w2 ⟨rfl, rfl⟩
      go_wp2_with fail
      go_ret
      exact HP.out
    · rw [decide_eq_false ha1] at HNa
      by_cases hb1 : b = [[]]
      · have HP := Lib.hid (HPa.out (HE2.out hb0 (.inl hb1)) w (Below.refl _ _))
        rw [decide_eq_true hb1] at HNb
        obtain ⟨n, hn⟩ : ∃ n, n = a.length := ⟨_, rfl⟩
        obtain ⟨m, hm⟩ : ∃ m, m = b.length := ⟨_, rfl⟩
        rw [← hn] at HNa HP ⊢
        rw [← hm] at HNb q1 q2 q3 hbl ⊢
        clear hb0 ha1 hb1 ra rb ha hb la lb HE HE2 HPb HPa hn hm hna hnb hwh hct q4
        go_enter Try.func60, Try.ntmps60
        go_wp2_with fail
        refine (HNa.out).mono ?_
        rintro e w2 ⟨rfl, rfl⟩
        go_wp2_with fail
        refine (HNb.out).mono ?_
        rintro e w2 ⟨rfl, rfl⟩
        go_wp2_with fail
        go_ret
        exact HP.out
      · rw [decide_eq_false hb1] at HNb
        have HP : Hid (wholeB a k = true → ∀ W, Below w.heap.size w W → CatV w (catL a b k) (.returned (.slice ao a.length ac)) W) := Lib.hid fun h => HPa.out (HE2.out hb0 (.inr h))
        generalize catL a b k = r at *
        generalize wholeB a k = y at *
        obtain ⟨n, hn⟩ : ∃ n, n = a.length := ⟨_, rfl⟩
        obtain ⟨m, hm⟩ : ∃ m, m = b.length := ⟨_, rfl⟩
        rw [← hn] at HNa HP hwh hct ⊢
        rw [← hm] at HNb hct q1 q2 q3 hbl ⊢
        clear hb0 ha1 hb1 ra rb ha hb la lb HE HE2 HPb HPa hn hm hna hnb q4
        go_enter Try.func60, Try.ntmps60
        go_wp2_with fail
        refine (HNa.out).mono ?_
        rintro e w2 ⟨rfl, rfl⟩
        go_wp2_with fail
        refine (HNb.out).mono ?_
        rintro e w3 ⟨rfl, rfl⟩
        go_wp2_with fail
        refine (hwh.out).mono ?_
        rintro e w4 ⟨rfl, hb4⟩
        have c4 := (hb4.cell (p := ⟨kb, 0, none⟩) hkb).trans hc
        have HB4 := Lib.hid hb4
        clear hb4
        cases y with
        | true =>
          have HE := Lib.hid (HP.out rfl _ HB4.out)
          go_wp2_with fail
          go_ret
          exact HE.out
        | false =>
          have Hc := Lib.hid (hct.out w4 HB4.out)
          go_wp2_with fail
          refine (Hc.out).mono ?_
          rintro e w5 ⟨v5, rfl, own5, hb5⟩
          have HE : Hid (CatV _ r (.returned v5) w5) := Lib.hid ⟨v5, rfl, Row.of_owns own5, HB4.out.trans (hb5.mono HB4.out.size)⟩
          clear own5 hb5
          go_wp2_with fail
          go_ret
          exact HE.out
/-- Sets in a world. -/
structure SetsR (w : World) (g N c : Nat) (S : Sts) : Prop where
  len : S.length = N
  lt : g < w.heap.size
  at_ : ∀ j (hj : j < S.length), ∃ v, w.cell? ⟨g, j, none⟩ = some v ∧ Row w w.heap.size 1 v S[j].length (svt S[j])
theorem SetsR.below {w w' : World} {g N c : Nat} {S : Sts} (h : SetsR w g N c S) (hb : Below w.heap.size w w') : SetsR w' g N c S :=
  ⟨h.len, Nat.lt_of_lt_of_le h.lt hb.size, fun j hj => by
    obtain ⟨v, h1, h2⟩ := h.at_ j hj
    exact ⟨v, (hb.cell (p := ⟨g, j, none⟩) h.lt).trans h1, (h2.below hb).mono hb.size⟩⟩
set_option maxHeartbeats 2000000 in
theorem rowSet_any (s : Sy) (g N c : Nat) (S : Sts) (w : World) (h : SetsR w g N c S) (hN : N ≤ 1000) (h1 : s.tok = true → 0 ≤ s.n ∧ s.n ≤ 255) (h2 : s.tok = false → 0 ≤ s.n ∧ s.n < N) :
    Calls Try.prog 66 #[.agg #[.bool s.tok, .int .i64 s.n], .slice (some ⟨g, 0, none⟩) N c] w (CatV w (symS S s)) := by
  obtain ⟨t, n⟩ := s
  simp only at h1 h2 ⊢
  have hb := (Below.refl w.heap.size w).alloc (Nat.le_refl _) (.cells #[.bool t, .int .i64 n] 39)
  cases t with
  | true =>
    obtain ⟨n0, n1⟩ := h1 rfl
    have hr1 : Row ((w.alloc (.cells #[.bool true, .int .i64 n] 39)).alloc (.cells #[.int .i64 n] 3)) (w.heap.size + 1 + 1) 1 (.slice (some ⟨w.heap.size + 1, 0, none⟩) 1 1) 1 (ints [n]) := by
      have := row_cellsB (w.alloc (.cells #[.bool true, .int .i64 n] 39)) (ints [n]) 1 1 1 3 rfl (Nat.le_refl _) (by unfold maxLen; omega)
      have hs : (w.alloc (.cells #[.bool true, .int .i64 n] 39)).heap.size = w.heap.size + 1 := by simp
      rw [hs] at this; exact this
    have Ht := Lib.hid (tupleOf_any (.slice (some ⟨w.heap.size + 1, 0, none⟩) 1 1) (w.heap.size + 1 + 1) [n] _ hr1 (by simp) (by simp))
    rw [ofB_one n n0 n1] at Ht
    have Hb2 := Lib.hid (hb.alloc hb.size (.cells #[.int .i64 n] 3))
    have e : symS S ⟨true, n⟩ = [[UInt8.ofNat n.toNat]] := by unfold symS; rfl
    rw [e]
    generalize ([UInt8.ofNat n.toNat] : Tx) = x at *
    clear h1 h2 hb hr1 n0 n1 h e
    go_enter Try.func66, Try.ntmps66
    go_wp2_with fail
    refine (Ht.out).mono ?_
    rintro e w2 ⟨rfl, hb2⟩
    have hb3 := (Below.refl w2.heap.size w2).alloc (Nat.le_refl _) (.cells #[.string ⟨x.toArray⟩] 9)
    have hr3 : Row (w2.alloc (.cells #[.string ⟨x.toArray⟩] 9)) (w2.alloc (.cells #[.string ⟨x.toArray⟩] 9)).heap.size 1 (.slice (some ⟨w2.heap.size, 0, none⟩) 1 1) 1 (svt [x]) := (row_cellsB w2 (svt [x]) 1 1 1 9 rfl (Nat.le_refl _) (by unfold maxLen; omega)).mono (by simp)
    have h02 : Below w.heap.size w w2 := Hb2.out.trans (hb2.mono Hb2.out.size)
    have HE : Hid (CatV w [x] (.returned (.slice (some ⟨w2.heap.size, 0, none⟩) 1 1)) (w2.alloc (.cells #[.string ⟨x.toArray⟩] 9))) := Lib.hid ⟨_, rfl, hr3, h02.trans (hb3.mono h02.size)⟩
    clear hb2 hb3 hr3 h02 Ht
    generalize (⟨x.toArray⟩ : ByteArray) = s at *
    go_wp2_with fail
    go_ret
    exact HE.out
  | false =>
    obtain ⟨n0, n1⟩ := h2 rfl
    obtain ⟨q, rfl⟩ : ∃ q : Nat, n = (q : Int) := ⟨n.toNat, by omega⟩
    have h' := h.below hb
    have hq : q < S.length := by rw [h.len]; omega
    obtain ⟨v, hv, hr⟩ := h'.at_ q hq
    have e : symS S ⟨false, (q : Int)⟩ = S[q] := by unfold symS; simp only [Bool.false_eq_true, if_false]; exact stAt_nat S q hq
    rw [e]
    have HE : Hid (CatV w S[q] (.returned v) (w.alloc (.cells #[.bool false, .int .i64 (q : Int)] 39))) := Lib.hid ⟨v, rfl, hr, hb⟩
    obtain ⟨va, vc, rfl, _, _⟩ := hr.val
    generalize S[q] = r at *
    generalize r.length = rn at *
    have hq1 : (q : Int) < (N : Int) := by omega
    have hq2 : (0 : Int) ≤ (q : Int) := by omega
    clear h1 h2 hb h h' hq hr e n0 n1
    go_enter Try.func66, Try.ntmps66
    go_wp2_with fail
    go_ret
    exact HE.out
end Go.Proofs.Ytimgnbacgdmiiaa
namespace Go.Proofs.Ytimgnbacgdmiiaa
open Go.RowKit PK
set_option linter.unusedVariables false
set_option linter.unusedSimpArgs false
attribute [local go_sem ↓] append_appM

/-- What row.Of answers. -/
def RowOfP (w : World) (k : Int) (most : Nat) (S : Sts) (l : List Sy) (e : Ending) (w' : World) : Prop :=
  ((¬ OverR k most S l ∧ ∃ v, e = .returned (.tuple #[v, .bool true]) ∧ Row w' w'.heap.size 1 v (rowS k S l).length (svt (rowS k S l))) ∨ (OverR k most S l ∧ e = .returned (.tuple #[.slice none 0 0, .bool false]))) ∧ Below w.heap.size w w'
/-- Sets as they are kept: each a set, of texts of at most k bytes, not too great. -/
def SOk (k : Int) (S : Sts) : Prop := ∀ a ∈ S, IsSet a ∧ Le k a ∧ a.length ≤ 600
theorem symS_ok {k : Int} (hk : 1 ≤ k) {S : Sts} (h : SOk k S) (s : Sy) : IsSet (symS S s) ∧ Le k (symS S s) ∧ (symS S s).length ≤ 650 := by
  unfold symS
  cases s.tok with
  | true => exact ⟨List.pairwise_singleton _ _, (fun x hx => by
      have e : x = [UInt8.ofNat s.n.toNat] := by simpa using hx
      rw [e]; simp; omega), by simp⟩
  | false =>
    simp only [Bool.false_eq_true, if_false]
    unfold stAt
    cases e : S[s.n.toNat]? with
    | none => exact ⟨List.Pairwise.nil, (fun x hx => by cases hx), by simp⟩
    | some a => obtain ⟨h1, h2, h3⟩ := h a (List.mem_of_getElem? e); exact ⟨h1, h2, Nat.le_trans h3 (by omega)⟩
theorem rowS_le {k : Int} (hk : 0 ≤ k) (S : Sts) (l : List Sy) : Le k (rowS k S l) := by
  rcases List.eq_nil_or_concat l with rfl | ⟨r, s, rfl⟩
  · intro x hx
    have e : x = [] := by simpa [rowS] using hx
    rw [e]; simpa using hk
  · rw [List.concat_eq_append, rowS_snoc]; exact catL_le _ _ _ hk
set_option maxHeartbeats 2000000 in
set_option maxRecDepth 100000 in
theorem rowOf_any (l : List Sy) (lv : Value) (k : Int) (kb g N c most : Nat) (S : Sts) (BL : Nat) (w : World) (rl : SR w BL lv l) (hBL : BL ≤ w.heap.size) (h : SetsR w g N c S) (hc : w.cell? ⟨kb, 0, none⟩ = some (.int .i64 k)) (hkb : kb < w.heap.size) (hk : 1 ≤ k ∧ k ≤ 4) (hm : most ≤ 600) (hS : SOk k S) (hs : ∀ s ∈ l, (s.tok = true → 0 ≤ s.n ∧ s.n ≤ 255) ∧ (s.tok = false → 0 ≤ s.n ∧ s.n < N)) (hN : N ≤ 1000) :
    Calls Try.prog 38 #[lv, .slice (some ⟨g, 0, none⟩) N c, .int .i64 (most : Nat), .func (.func 60) #[] #[.pointer (some ⟨kb, 0, none⟩)]] w (RowOfP w k most S l) := by
  obtain ⟨la, lc, rfl, hl1, hl2⟩ := Row.val rl
  unfold maxLen at hl2
  have hr0 : Row (w.alloc (.cells #[.string ⟨#[]⟩] 9)) (w.alloc (.cells #[.string ⟨#[]⟩] 9)).heap.size 1 (.slice (some ⟨w.heap.size, 0, none⟩) 1 1) 1 (svt [[]]) := (row_cellsB w (svt [[]]) 1 1 1 9 rfl (Nat.le_refl _) (by unfold maxLen; omega)).mono (by simp)
  have hb0 := (Below.refl w.heap.size w).alloc (Nat.le_refl _) (.cells #[.string ⟨#[]⟩] 9)
  obtain ⟨ln, hln⟩ : ∃ ln, ln = l.length := ⟨_, rfl⟩
  have Rl := Lib.hid (fun W (hW : Below w.heap.size w W) => (show SR W BL (.slice la l.length lc) l from Row.below rl (hW.mono hBL)))
  rw [← hln] at Rl hl1 ⊢
  have HS := Lib.hid h; have Hc := Lib.hid hc; have Hkb := Lib.hid hkb; have Hk := Lib.hid hk; have HSo := Lib.hid hS; have Hs := Lib.hid hs; have Hr0 := Lib.hid hr0; have Hb0 := Lib.hid hb0; have Hln := Lib.hid hln; have Hm := Lib.hid hm; have HN := Lib.hid hN
  have hl63 : (ln : Int) ≤ 9223372036854775807 := by omega
  have hm63 : (most : Int) ≤ 1000 := by omega
  clear rl hBL h hc hkb hk hS hs hr0 hb0 hln hl1 hl2 hm hN
  go_enter Try.func38, Try.ntmps38
  go_wp2_with fail
  go_loopw [10, 16] (fun rv iv wr => ∃ i : Nat, i ≤ ln ∧ iv = .int .i64 (i : Nat) ∧ Hid (Row wr wr.heap.size 1 rv (rowS k S (l.take i)).length (svt (rowS k S (l.take i)))) ∧ Hid (∀ j, j < i → (rowS k S (l.take (j + 1))).length ≤ most) ∧ Hid (Below w.heap.size w wr)) (fun _ iv _ => ln - (intOf iv).toNat)
  case atStart => exact ⟨0, Nat.zero_le _, rfl, Hr0, Lib.hid (fun j hj => by omega), Hb0⟩
  case round =>
    clear Hr0 Hb0
    obtain ⟨i, hi, rfl, HR, HO, HB⟩ := hrel
    obtain ⟨ra, rc, rfl, _, _⟩ := HR.out.val
    by_cases hlt : i < ln
    · have hil : i < l.length := by have := Hln.out; omega
      obtain ⟨b6, o6, hao, hb6, f0, f1⟩ := SR.get (show SR wr BL (.slice la l.length lc) l by have := Rl.out wr HB.out; rw [Hln.out] at this; exact this) i hil
      subst hao
      have hsn := Hs.out l[i] (List.getElem_mem hil)
      have Hsu := Lib.hid (rowS_succ k S l i hil)
      generalize l[i] = s at *
      have hok := symS_ok Hk.out.1 HSo.out s
      obtain ⟨t, n⟩ := s
      simp only at f0 f1 hsn
      have hbs := (Below.refl wr.heap.size wr).alloc (Nat.le_refl _) (.cells #[.bool t, .int .i64 n] 39)
      have hx0 : (wr.alloc (.cells #[.bool t, .int .i64 n] 39)).cell? ⟨wr.heap.size, 0, none⟩ = some (.bool t) := cell_new wr _ _ 0 _ rfl
      have hx1 : (wr.alloc (.cells #[.bool t, .int .i64 n] 39)).cell? ⟨wr.heap.size, 1, none⟩ = some (.int .i64 n) := cell_new wr _ _ 1 _ rfl
      have HBs := Lib.hid (HB.out.trans (hbs.mono HB.out.size))
      have HRs := Lib.hid ((HR.out.below hbs).mono hbs.size)
      have Hset := Lib.hid (rowSet_any ⟨t, n⟩ g N c S _ (HS.out.below HBs.out) HN.out hsn.1 hsn.2)
      have hrl : Le k (rowS k S (l.take i)) := rowS_le (by have := Hk.out; omega) S _
      have hrn : (rowS k S (l.take i)).length ≤ 650 := by
        rcases Nat.eq_zero_or_pos i with rfl | hp
        · show (rowS k S []).length ≤ 650
          show ([[]] : List Tx).length ≤ 650
          simp
        · have := HO.out (i - 1) (by omega)
          rw [show i - 1 + 1 = i by omega] at this
          have := Hm.out; omega
      have Hcat := Lib.hid (fun W vb (hW : Below w.heap.size w W) (hr : Row W W.heap.size 1 (.slice ra (rowS k S (l.take i)).length rc) (rowS k S (l.take i)).length (svt (rowS k S (l.take i)))) (hr2 : Row W W.heap.size 1 vb (symS S ⟨t, n⟩).length (svt (symS S ⟨t, n⟩))) => ahead_any k kb _ vb _ _ W ((hW.cell (p := ⟨kb, 0, none⟩) Hkb.out).trans Hc.out) (Nat.lt_of_lt_of_le Hkb.out hW.size) Hk.out hr hr2 (rowS_set _ _ _) hok.1 hrl hok.2.1 hrn hok.2.2)
      rw [← Hsu.out] at Hcat
      have Hlt := Lib.hid hlt
      have hi1 : (i : Int) < (ln : Int) := by omega
      have hi2 : (0 : Int) ≤ (i : Int) := by omega
      have Hov : Hid (most < (rowS k S (l.take (i + 1))).length → OverR k most S l) := Lib.hid fun h => ⟨i, hil, h⟩
      obtain ⟨rn, hrn2⟩ : ∃ rn, rn = (rowS k S (l.take i)).length := ⟨_, rfl⟩
      rw [← hrn2] at HRs Hcat HR ⊢
      clear hil hb6 hbs hsn hok hlt hi hrl hrn hrn2 HR
      obtain ⟨r2, hr2⟩ : ∃ r2, r2 = rowS k S (l.take (i + 1)) := ⟨_, rfl⟩
      rw [← hr2] at Hcat Hov
      have Hr2 := Lib.hid hr2
      clear hr2 Hsu
      generalize symS S ⟨t, n⟩ = y at *
      go_upto_region 5 with fail
      generalize wr.alloc (.cells #[.bool t, .int .i64 n] 39) = ws at *
      clear f0 f1
      go_wp2_with fail
      refine (Hset.out).mono ?_
      intro e w3 hp3
      obtain ⟨a3, c3, rfl, hr3, hb3⟩ := hp3.at
      have HB3 := Lib.hid (HBs.out.trans (hb3.mono HBs.out.size))
      have Hcall := Lib.hid (Hcat.out w3 _ HB3.out ((HRs.out.below hb3).mono hb3.size) hr3)
      generalize y.length = yn at *
      clear hp3 hr3 hb3 Hset Hcat hx0 hx1
      go_wp2_with fail
      refine (Hcall.out).mono ?_
      intro e w4 hp4
      obtain ⟨a4, c4, rfl, hr4, hb4⟩ := hp4.at
      have HB4 := Lib.hid (HB3.out.trans (hb4.mono HB3.out.size))
      have Hr4 := Lib.hid hr4
      obtain ⟨r2n, hr2n⟩ : ∃ r2n, r2n = r2.length := ⟨_, rfl⟩
      rw [← hr2n] at Hr4 Hov ⊢
      have Hr2n := Lib.hid hr2n
      clear hp4 hr4 hb4 Hcall hr2n
      by_cases hov : most < r2n
      · have q1 : decide (most < r2n) = true := decide_eq_true hov
        have q2 : decide ((most : Int) < (r2n : Int)) = true := decide_eq_true (by omega)
        have HE : Hid (RowOfP w k most S l (.returned (.tuple #[.slice none 0 0, .bool false])) w4) := Lib.hid ⟨.inr ⟨Hov.out hov, rfl⟩, HB4.out⟩
        clear hov
        go_wp2_with fail
        go_ret2
        exact HE.out
      · have q1 : decide (most < r2n) = false := decide_eq_false hov
        have q2 : decide ((most : Int) < (r2n : Int)) = false := decide_eq_false (by omega)
        have Hle := Lib.hid (Nat.not_lt.1 hov)
        clear hov
        go_wp2_with fail
        go_roundw
        case rel => exact ⟨i + 1, Hlt.out, by go_num, Lib.hid (by rw [← Hr2.out, ← Hr2n.out]; exact Hr4.out), Lib.hid (fun j hj => by
          rcases Nat.lt_or_ge j i with h1 | h1
          · exact HO.out j h1
          · obtain rfl : j = i := by omega
            rw [← Hr2.out, ← Hr2n.out]; exact Hle.out), HB4⟩
        case measure => have := Hlt.out; simp [intOf]; omega
    · obtain rfl : i = ln := by omega
      have Hno : Hid (¬ OverR k most S l) := Lib.hid fun ⟨j, hj, h1⟩ => by
        have := HO.out j (by have := Hln.out; omega); omega
      have hR := HR.out
      rw [Hln.out, List.take_length] at hR
      have hi0 : decide (i < i) = false := by simp
      obtain ⟨rn, hrn2⟩ : ∃ rn, rn = (rowS k S (l.take i)).length := ⟨_, rfl⟩
      have hrn3 : rn = (rowS k S l).length := by rw [hrn2, Hln.out, List.take_length]
      rw [← hrn2]
      have HE : Hid (RowOfP w k most S l (.returned (.tuple #[.slice ra rn rc, .bool true])) wr) := Lib.hid ⟨.inl ⟨Hno.out, _, rfl, by rw [hrn3]; exact hR⟩, HB.out⟩
      clear hR hrn2 hrn3 hlt hi
      go_wp2_with fail
      go_ret2
      exact HE.out
end Go.Proofs.Ytimgnbacgdmiiaa
namespace Go.Proofs.Ytimgnbacgdmiiaa
open Go.RowKit PK
set_option linter.unusedVariables false
set_option linter.unusedSimpArgs false

def overB (k : Int) (most : Nat) (S : Sts) (l : List Sy) : Bool := (List.range l.length).any fun i => decide (most < (rowS k S (l.take (i + 1))).length)
theorem overB_iff (k : Int) (most : Nat) (S : Sts) (l : List Sy) : overB k most S l = true ↔ OverR k most S l := by
  unfold overB OverR
  rw [List.any_eq_true]
  constructor
  · rintro ⟨i, h1, h2⟩; exact ⟨i, List.mem_range.1 h1, of_decide_eq_true h2⟩
  · rintro ⟨i, h1, h2⟩; exact ⟨i, List.mem_range.2 h1, decide_eq_true h2⟩
theorem overB_not (k : Int) (most : Nat) (S : Sts) (l : List Sy) : overB k most S l = false ↔ ¬ OverR k most S l := by
  rw [← overB_iff, Bool.not_eq_true]
/-- A production's look: a state without sets is one in which too much was found. -/
def lookG (b : Bn) (k : Int) (most : Nat) (st : Option Sts) (i : Nat) : Option Sts × Int :=
  match st with
  | none => (none, -1)
  | some S => match b.l[i]? with
    | none => (some S, -1)
    | some p =>
      if overB k most S p.right = true ∨ most < (joinL (stAt S p.left) (rowS k S p.right)).length then (none, 0)
      else if (joinL (stAt S p.left) (rowS k S p.right)).length = (stAt S p.left).length then (some S, -1)
      else (some (S.set p.left.toNat (joinL (stAt S p.left) (rowS k S p.right))), p.left)
def muG (most : Nat) (st : Option Sts) : Nat := match st with
  | none => 0
  | some S => 1 + (S.map fun a => most - a.length).sum
structure InvS (b : Bn) (k : Int) (most : Nat) (S : Sts) : Prop where
  sound : Sound b k S
  le : ∀ a ∈ S, Le k a
  few : ∀ a ∈ S, a.length ≤ most
def InvG (b : Bn) (k : Int) (most : Nat) (st : Option Sts) : Prop := match st with
  | none => True
  | some S => InvS b k most S
theorem lookG_at {b : Bn} {k : Int} {most : Nat} {S : Sts} {i : Nat} {p : Pr} (hp : b.l[i]? = some p) : lookG b k most (some S) i =
    if overB k most S p.right = true ∨ most < (joinL (stAt S p.left) (rowS k S p.right)).length then (none, 0)
      else if (joinL (stAt S p.left) (rowS k S p.right)).length = (stAt S p.left).length then (some S, -1)
      else (some (S.set p.left.toNat (joinL (stAt S p.left) (rowS k S p.right))), p.left) := by
  unfold lookG; simp only [hp]
theorem lookG_none (b : Bn) (k : Int) (most : Nat) (i : Nat) : lookG b k most none i = (none, -1) := rfl
theorem sum_set_lt (l : List Nat) (j v : Nat) (hj : j < l.length) (h : v < l[j]) : (l.set j v).sum < l.sum := by
  induction l generalizing j with
  | nil => simp at hj
  | cons x r ih =>
    cases j with
    | zero => simp at h ⊢; omega
    | succ j => simp at h ⊢; exact ih j (by simpa using hj) h
theorem InvS.put {b : Bn} {k : Int} {most : Nat} {S : Sts} (hok : ∀ p ∈ b.l, prOk b p = true) (hk : 0 ≤ k) (h : InvS b k most S) (p : Pr) (hp : p ∈ b.l) (hm : ¬ most < (joinL (stAt S p.left) (rowS k S p.right)).length) : InvS b k most (S.set p.left.toNat (joinL (stAt S p.left) (rowS k S p.right))) := by
  refine ⟨h.sound.put hok p hp, fun a ha => ?_, fun a ha => ?_⟩
  · rcases List.mem_or_eq_of_mem_set ha with h1 | h1
    · exact h.le a h1
    · rw [h1]
      intro x hx
      rcases (joinL_mem _ _ _).1 hx with h2 | h2
      · unfold stAt at h2
        cases e : S[p.left.toNat]? with
        | none => rw [e] at h2; cases h2
        | some c => rw [e] at h2; exact h.le c (List.mem_of_getElem? e) x h2
      · exact rowS_le hk S _ x h2
  · rcases List.mem_or_eq_of_mem_set ha with h1 | h1
    · exact h.few a h1
    · rw [h1]; omega
theorem stAt_few {most : Nat} {S : Sts} (n : Int) (h : ∀ a ∈ S, a.length ≤ most) : (stAt S n).length ≤ most := by
  unfold stAt
  cases e : S[n.toNat]? with
  | none => simp
  | some a => exact h a (List.mem_of_getElem? e)
theorem stAt_isSet {b : Bn} {k : Int} {most : Nat} {S : Sts} (h : InvS b k most S) (n : Int) : IsSet (stAt S n) := stAt_set S n h.sound.set
/-- A look is as Settle asks. -/
theorem look_grow (b : Bn) (k : Int) (most : Nat) (ask : Int → List Int) (hok : ∀ p ∈ b.l, prOk b p = true) (hk : 0 ≤ k) (hN : b.of.length ≤ 500)
    (hask : ∀ (j : Nat) p, b.l[j]? = some p → ∀ s ∈ p.right, s.tok = false → (j : Int) ∈ ask s.n) : Look b.l.length ask (lookG b k most) (muG most) (InvG b k most) := by
  have hat : ∀ i, i < b.l.length → ∃ p, b.l[i]? = some p ∧ p ∈ b.l := fun i hi => ⟨_, List.getElem?_eq_getElem hi, List.getElem_mem hi⟩
  refine ⟨fun st i hi hI hl => ?_, fun st i hi hI => ?_, fun st i hi hI hl => ?_, fun st i j hi hj hI hl hn hor => ?_, fun st i hi hI => ?_⟩
  · cases st with
    | none => rfl
    | some S =>
      obtain ⟨p, hp, hpm⟩ := hat i hi
      have h1 := prOk_left (hok p hpm)
      rw [lookG_at hp] at hl ⊢
      split at hl
      · simp at hl
      · split at hl
        · rename_i h2 h3; rw [if_neg h2, if_pos h3]
        · simp only at hl; omega
  · cases st with
    | none => trivial
    | some S =>
      obtain ⟨p, hp, hpm⟩ := hat i hi
      rw [lookG_at hp]
      split
      · trivial
      · rename_i h2
        split
        · exact hI
        · exact InvS.put hok hk hI p hpm fun h => h2 (.inr h)
  · cases st with
    | none => rw [lookG_none] at hl; simp at hl
    | some S =>
      obtain ⟨p, hp, hpm⟩ := hat i hi
      have h1 := prOk_left (hok p hpm)
      rw [lookG_at hp] at hl ⊢
      split
      · show 0 < 1 + _; omega
      · rename_i h2
        rw [if_neg h2] at hl
        split
        · rename_i h3; rw [if_pos h3] at hl; simp at hl
        · rename_i h3
          have hjl : p.left.toNat < S.length := by rw [hI.sound.len]; omega
          show 1 + _ < 1 + _
          rw [List.map_set]
          have e : stAt S p.left = S[p.left.toNat] := by unfold stAt; rw [List.getElem?_eq_getElem hjl]; rfl
          have h4 := join_le (b := rowS k S p.right) (stAt_isSet hI p.left)
          have h5 : (joinL (stAt S p.left) (rowS k S p.right)).length ≤ most := Nat.not_lt.1 fun h => h2 (.inr h)
          have := sum_set_lt (S.map fun a => most - a.length) p.left.toNat (most - (joinL (stAt S p.left) (rowS k S p.right)).length) (by simpa using hjl) (by
            rw [List.getElem_map, ← e]; omega)
          omega
  · cases st with
    | none => rw [lookG_none] at hl; simp at hl
    | some S =>
      obtain ⟨p, hp, hpm⟩ := hat i hi
      obtain ⟨q, hq, hqm⟩ := hat j hj
      have h1 := prOk_left (hok p hpm)
      have h1q := prOk_left (hok q hqm)
      have hjl : p.left.toNat < S.length := by rw [hI.sound.len]; omega
      rw [lookG_at hp] at hl hn ⊢
      split at hl
      · rename_i h2; rw [if_pos h2]; exact (by decide : (-1 : Int) < 0)
      · rename_i h2
        rw [if_neg h2] at hn ⊢
        split at hl
        · simp at hl
        · rename_i h3
          rw [if_neg h3] at hn ⊢
          simp only at hn ⊢
          have hr : rowS k (S.set p.left.toNat (joinL (stAt S p.left) (rowS k S p.right))) q.right = rowS k S q.right := rowS_congr k q.right fun s hs ht => by
            rw [stAt_put S _ _ hjl]
            by_cases e : s.n.toNat = p.left.toNat
            · have hs2 := prOk_sym (hok q hqm) hs ht
              have e2 : s.n = p.left := by omega
              exact absurd (e2 ▸ hask j q hq s hs ht) hn
            · rw [if_neg e]
          have hrt : ∀ m, rowS k (S.set p.left.toNat (joinL (stAt S p.left) (rowS k S p.right))) (q.right.take m) = rowS k S (q.right.take m) := fun m => rowS_congr k _ fun s hs ht => by
            rw [stAt_put S _ _ hjl]
            by_cases e : s.n.toNat = p.left.toNat
            · have hs1 := List.mem_of_mem_take hs
              have hs2 := prOk_sym (hok q hqm) hs1 ht
              have e2 : s.n = p.left := by omega
              exact absurd (e2 ▸ hask j q hq s hs1 ht) hn
            · rw [if_neg e]
          have hov : overB k most (S.set p.left.toNat (joinL (stAt S p.left) (rowS k S p.right))) q.right = overB k most S q.right := by
            unfold overB; simp only [hrt]
          have hIq := InvS.put hok hk hI p hpm fun h => h2 (.inr h)
          -- what the row of q holds is in the set of its left side by now
          have hin : (overB k most S q.right = false) ∧ ∀ x ∈ rowS k S q.right, x ∈ stAt (S.set p.left.toNat (joinL (stAt S p.left) (rowS k S p.right))) q.left := by
            rcases hor with h4 | h4
            · rw [lookG_at hq] at h4
              split at h4
              · simp at h4
              · rename_i h5
                split at h4
                · rename_i h6
                  refine ⟨?_, fun x hx => ?_⟩
                  · cases e : overB k most S q.right with
                    | false => rfl
                    | true => exact absurd (.inl e) h5
                  · exact sub_put p _ hjl (fun y hy => (joinL_mem _ _ _).2 (.inl hy)) _ _ ((join_same (stAt_isSet hI q.left) h6).2 x hx)
                · simp only at h4; omega
            · subst h4
              rw [hp] at hq
              cases hq
              refine ⟨?_, fun x hx => ?_⟩
              · cases e : overB k most S p.right with
                | false => rfl
                | true => exact absurd (.inl e) h2
              · rw [stAt_put S _ _ hjl, if_pos rfl]; exact (joinL_mem _ _ _).2 (.inr hx)
          have hsame : joinL (stAt (S.set p.left.toNat (joinL (stAt S p.left) (rowS k S p.right))) q.left) (rowS k S q.right) = stAt (S.set p.left.toNat (joinL (stAt S p.left) (rowS k S p.right))) q.left := by
            refine set_ext (toSet_set _) (stAt_isSet hIq q.left) fun x => ?_
            rw [joinL_mem]
            exact ⟨fun h => h.elim id (hin.2 x), .inl⟩
          have hfew : ¬ most < (stAt (S.set p.left.toNat (joinL (stAt S p.left) (rowS k S p.right))) q.left).length := by
            intro h6
            have := stAt_few q.left hIq.few
            omega
          rw [lookG_at hq, hr, hov, hsame, hin.1, if_neg (by simp [hfew]), if_pos rfl]
          exact (by decide : (-1 : Int) < 0)
  · cases st with
    | none => rw [lookG_none]; unfold In64; simp
    | some S =>
      obtain ⟨p, hp, hpm⟩ := hat i hi
      have h1 := prOk_left (hok p hpm)
      rw [lookG_at hp]
      split
      · unfold In64; simp
      · split
        · unfold In64; simp
        · unfold In64; simp only; omega
/-- When all is quiet, sets are closed, and nothing is too much. -/
theorem quiet_grow {b : Bn} {k : Int} {most : Nat} {S : Sts} (hI : InvS b k most S) (hok : ∀ p ∈ b.l, prOk b p = true) (h : ∀ q, q < b.l.length → (lookG b k most (some S) q).2 < 0) : Closed b k S ∧ ∀ p ∈ b.l, ¬ OverR k most S p.right := by
  have key : ∀ p ∈ b.l, ¬ OverR k most S p.right ∧ ∀ x ∈ rowS k S p.right, x ∈ stAt S p.left := fun p hp => by
    obtain ⟨i, hi, rfl⟩ := List.getElem_of_mem hp
    have h1 := h i hi
    have h2 := prOk_left (hok _ hp)
    rw [lookG_at (List.getElem?_eq_getElem hi)] at h1
    split at h1
    · simp at h1
    · rename_i h5
      split at h1
      · rename_i h6
        exact ⟨fun ho => h5 (.inl ((overB_iff _ _ _ _).2 ho)), (join_same (stAt_isSet hI _) h6).2⟩
      · simp only at h1; omega
  exact ⟨fun p hp => (key p hp).2, fun p hp => (key p hp).1⟩
end Go.Proofs.Ytimgnbacgdmiiaa
