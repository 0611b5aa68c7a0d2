/-
  Plain rules, plain and in memory; rules that came in.
-/
import Derived.Test.YtimgnbacgdmiiaaGen
import Derived.Lib.SmallJoins
namespace Go.Proofs.Ytimgnbacgdmiiaa
open Go.RowKit
set_option linter.unusedVariables false
set_option linter.unusedSimpArgs false

structure Sy where
  tok : Bool
  n : Int
structure Pr where
  left : Int
  right : List Sy
structure Bn where
  toks : Int
  look : Int
  of : List Int
  l : List Pr
def symC (l : List Sy) : List Value := l.flatMap fun s => [.bool s.tok, .int .i64 s.n]
theorem symC_length (l : List Sy) : (symC l).length = l.length * 2 := by
  induction l with
  | nil => rfl
  | cons t r ih =>
    have : symC (t :: r) = [.bool t.tok, .int .i64 t.n] ++ symC r := rfl
    rw [this, List.length_append, ih]; simp; omega
theorem symC_one (l : List Sy) : ∀ u ∈ symC l, u.oneCell' = true := by
  intro u hu
  obtain ⟨s, _, hs⟩ := List.mem_flatMap.1 hu
  simp only [List.mem_cons, List.not_mem_nil, or_false] at hs
  rcases hs with rfl | rfl <;> rfl
theorem symC_at (l : List Sy) (k : Nat) (hk : k < l.length) : (symC l)[k * 2]? = some (.bool l[k].tok) ∧ (symC l)[k * 2 + 1]? = some (.int .i64 l[k].n) := by
  induction l generalizing k with
  | nil => simp at hk
  | cons t r ih =>
    have e : symC (t :: r) = [.bool t.tok, .int .i64 t.n] ++ symC r := rfl
    rw [e]
    cases k with
    | zero => exact ⟨rfl, rfl⟩
    | succ k =>
      have := ih k (by simpa using hk)
      rw [List.getElem?_append_right (by simp; omega), List.getElem?_append_right (by simp; omega)]
      simpa [Nat.succ_mul, Nat.add_sub_cancel] using this
theorem symC_take (l : List Sy) (k : Nat) : (symC l).take (k * 2) = symC (l.take k) := by
  induction l generalizing k with
  | nil => simp [symC]
  | cons t r ih =>
    cases k with
    | zero => simp [symC]
    | succ k =>
      have e : symC (t :: r) = (.bool t.tok) :: (.int .i64 t.n) :: symC r := rfl
      have e2 : symC ((t :: r).take (k + 1)) = (.bool t.tok) :: (.int .i64 t.n) :: symC (r.take k) := rfl
      rw [e, e2, show (k + 1) * 2 = (k * 2) + 1 + 1 by omega, List.take_succ_cons, List.take_succ_cons, ih]
/-- A row of symbols, of two cells each. -/
def SR (w : World) (B : Nat) (v : Value) (l : List Sy) : Prop := Row w B 2 v l.length (symC l)
/-- A row of productions, of two cells each. -/
def PR (w : World) (B : Nat) (v : Value) (L : List Pr) : Prop :=
  ∃ cs : List (List Value), Row w B 2 v L.length cs.flatten ∧ cs.length = L.length ∧ (∀ c ∈ cs, c.length = 2) ∧
    ∀ i (hi : i < L.length), ∃ r, cs[i]? = some [.int .i64 L[i].left, r] ∧ SR w B r L[i].right
theorem PR.below {w w' : World} {B : Nat} {v : Value} {L : List Pr} (h : PR w B v L) (hb : Below B w w') : PR w' B v L := by
  obtain ⟨cs, h1, h2, h3, h4⟩ := h
  exact ⟨cs, h1.below hb, h2, h3, fun i hi => by obtain ⟨r, h5, h6⟩ := h4 i hi; exact ⟨r, h5, Row.below h6 hb⟩⟩
theorem PR.mono {w : World} {B B' : Nat} {v : Value} {L : List Pr} (h : PR w B v L) (hB : B ≤ B') : PR w B' v L := by
  obtain ⟨cs, h1, h2, h3, h4⟩ := h
  exact ⟨cs, h1.mono hB, h2, h3, fun i hi => by obtain ⟨r, h5, h6⟩ := h4 i hi; exact ⟨r, h5, Row.mono h6 hB⟩⟩
theorem PR.val {w : World} {B : Nat} {v : Value} {L : List Pr} (h : PR w B v L) : ∃ ao c, v = .slice ao L.length c ∧ L.length ≤ c ∧ c ≤ maxLen := by
  obtain ⟨cs, h1, _⟩ := h; exact h1.val
theorem PR.get {w : World} {B n c : Nat} {ao : Option Addr} {L : List Pr} (h : PR w B (.slice ao n c) L) (i : Nat) (hi : i < L.length) :
    ∃ b off a1 c1, ao = some ⟨b, off, none⟩ ∧ b < B ∧ w.cell? ⟨b, off + i * 2, none⟩ = some (.int .i64 L[i].left) ∧
      w.cell? ⟨b, off + i * 2 + 1, none⟩ = some (.slice a1 L[i].right.length c1) ∧ SR w B (.slice a1 L[i].right.length c1) L[i].right ∧ L[i].right.length ≤ c1 ∧ c1 ≤ maxLen := by
  obtain ⟨cs, h1, h2, h3, h4⟩ := h
  obtain ⟨r, h5, h6⟩ := h4 i hi
  obtain ⟨a1, c1, rfl, hc1, hc2⟩ := Row.val h6
  obtain ⟨a3, c3, hv, _, _⟩ := h1.val
  simp only [Value.slice.injEq] at hv
  obtain ⟨rfl, rfl, rfl⟩ := hv
  have hci : i < cs.length := by omega
  have hx : cs[i] = [.int .i64 L[i].left, .slice a1 L[i].right.length c1] := by
    rw [List.getElem?_eq_getElem hci] at h5; exact Option.some.inj h5
  have hfl := flat_len cs 2 h3
  obtain ⟨b, off, rfl, hb, _⟩ := h1.at (by omega)
  have e0 := flat_at cs 2 h3 i hci 0 (by omega)
  have e1 := flat_at cs 2 h3 i hci 1 (by omega)
  rw [hx] at e0 e1
  exact ⟨b, off, a1, c1, rfl, hb, h1.cell (i * 2) _ e0, by have := h1.cell (i * 2 + 1) _ e1; rw [← Nat.add_assoc] at this; exact this, h6, hc1, hc2⟩
/-- Rules: the two rows. -/
structure BR (w : World) (B : Nat) (o v : Value) (b : Bn) : Prop where
  of : Row w B 1 o b.of.length (ints b.of)
  l : PR w B v b.l
theorem BR.below {w w' : World} {B : Nat} {o v : Value} {b : Bn} (h : BR w B o v b) (hb : Below B w w') : BR w' B o v b := ⟨h.of.below hb, h.l.below hb⟩
theorem BR.mono {w : World} {B B' : Nat} {o v : Value} {b : Bn} (h : BR w B o v b) (hB : B ≤ B') : BR w B' o v b := ⟨h.of.mono hB, h.l.mono hB⟩

section
variable {H : Type} {enc : TypeId × Value → H} {w : World} {base : Nat} {spare : Nat → Bool} {held : Bool}
def I64 (n : Int) : Prop := -9223372036854775808 ≤ n ∧ n ≤ 9223372036854775807
set_option maxRecDepth 100000 in
theorem sym_of {n : Nat} {c : List Value} {y : DataW H × List MemPlace} (h : DataW.trod enc Try.prog w base spare held n 39 c = some y) (hl : c.length = 2) :
    ∃ x : Sy, c = [.bool x.tok, .int .i64 x.n] ∧ I64 x.n := by
  obtain ⟨xs, n', _, _, _, hx, hf⟩ := DataW.trod_struct Try.underlying39 h
  match c, hl with
  | [c0, c1], _ =>
    have h0 := hf 0 _ rfl; have h1 := hf 1 _ rfl
    obtain ⟨y0, e0⟩ : ∃ y, xs[0]? = some y := ⟨_, List.getElem?_eq_getElem (by rw [hx]; decide)⟩; rw [e0] at h0
    obtain ⟨y1, e1⟩ : ∃ y, xs[1]? = some y := ⟨_, List.getElem?_eq_getElem (by rw [hx]; decide)⟩; rw [e1] at h1
    have h0' : DataW.trod enc Try.prog w base spare held n' 4 [c0] = some y0 := h0
    have h1' : DataW.trod enc Try.prog w base spare held n' 3 [c1] = some y1 := h1
    obtain ⟨b, hb, _⟩ := DataW.trod_bool Try.underlying4 h0'
    obtain ⟨d, hd, _, wd⟩ := DataW.trod_int Try.underlying3 h1'
    simp only [List.cons.injEq, and_true] at hb hd
    subst hb hd
    exact ⟨⟨b, d⟩, rfl, i64_of_wfT wd⟩
theorem symBuild : ∀ xs : List (List Value), (∀ c ∈ xs, ∃ x : Sy, c = [.bool x.tok, .int .i64 x.n] ∧ I64 x.n) → ∃ l : List Sy, l.length = xs.length ∧ xs.flatten = symC l ∧ ∀ x ∈ l, I64 x.n := by
  intro xs
  induction xs with
  | nil => intro _; exact ⟨[], rfl, rfl, fun x hx => by cases hx⟩
  | cons c r ih =>
    intro h
    obtain ⟨l, h1, h2, h3⟩ := ih fun d hd => h d (List.mem_cons_of_mem _ hd)
    obtain ⟨x, rfl, hx⟩ := h c List.mem_cons_self
    refine ⟨x :: l, by simp [h1], by rw [List.flatten_cons, h2]; rfl, fun z hz => ?_⟩
    rcases List.mem_cons.1 hz with rfl | hz
    · exact hx
    · exact h3 z hz
set_option maxRecDepth 100000 in
theorem symsOf {v : Value} {d : DataW H} {p : List MemPlace} (hok : ∃ a len cap, v = .slice a len cap) (h : DataW.Trod enc Try.prog w base spare held 35 v d p) :
    ∃ l : List Sy, SR w w.heap.size v l ∧ ∀ x ∈ l, I64 x.n := by
  obtain ⟨xs, hrow, hel⟩ := rowOfElems Try.underlying35 (size := 2) (by kernel_rfl) (by decide) hok h
  obtain ⟨l, h1, h2, h3⟩ := symBuild xs fun c hc => by
    obtain ⟨hl, n, y, hf⟩ := hel c hc
    exact sym_of hf hl
  exact ⟨l, by unfold SR; rw [h1, ← h2]; exact hrow, h3⟩
set_option maxRecDepth 100000 in
theorem prod_of {n : Nat} {c : List Value} {y : DataW H × List MemPlace} (h : DataW.trod enc Try.prog w base spare held n 57 c = some y) (hl : c.length = 2) :
    ∃ (x : Pr) (r : Value), c = [.int .i64 x.left, r] ∧ SR w w.heap.size r x.right ∧ I64 x.left ∧ ∀ s ∈ x.right, I64 s.n := by
  obtain ⟨xs, n', _, _, _, hx, hf⟩ := DataW.trod_struct Try.underlying57 h
  match c, hl with
  | [c0, c1], _ =>
    have h0 := hf 0 _ rfl; have h1 := hf 1 _ rfl
    obtain ⟨y0, e0⟩ : ∃ y, xs[0]? = some y := ⟨_, List.getElem?_eq_getElem (by rw [hx]; decide)⟩; rw [e0] at h0
    obtain ⟨y1, e1⟩ : ∃ y, xs[1]? = some y := ⟨_, List.getElem?_eq_getElem (by rw [hx]; decide)⟩; rw [e1] at h1
    have h0' : DataW.trod enc Try.prog w base spare held n' 3 [c0] = some y0 := h0
    have h1' : DataW.trod enc Try.prog w base spare held n' 35 [c1] = some y1 := h1
    obtain ⟨d, hd, _, wd⟩ := DataW.trod_int Try.underlying3 h0'
    simp only [List.cons.injEq, and_true] at hd
    subst hd
    have hk : ∃ a len cap, c1 = .slice a len cap := by
      rcases DataW.trod_slice Try.underlying35 h1' with ⟨hc, _⟩ | ⟨a, len, cap, _, _, _, _, hc, _⟩
      · simp only [List.cons.injEq, and_true] at hc; exact ⟨_, _, _, hc⟩
      · simp only [List.cons.injEq, and_true] at hc; exact ⟨_, _, _, hc⟩
    obtain ⟨l, hr, hi⟩ := symsOf (enc := enc) (base := base) (spare := spare) (held := held) (v := c1) (d := y1.1) (p := y1.2) hk ⟨n', by obtain ⟨a, len, cap, rfl⟩ := hk; exact h1'⟩
    exact ⟨⟨d, l⟩, c1, rfl, hr, i64_of_wfT wd, hi⟩
end
theorem prodBuild (w : World) : ∀ xs : List (List Value), (∀ c ∈ xs, ∃ (x : Pr) (r : Value), c = [.int .i64 x.left, r] ∧ SR w w.heap.size r x.right ∧ I64 x.left ∧ ∀ s ∈ x.right, I64 s.n) →
    ∃ L : List Pr, L.length = xs.length ∧ (∀ i (hi : i < L.length), ∃ r, xs[i]? = some [.int .i64 L[i].left, r] ∧ SR w w.heap.size r L[i].right) ∧ ∀ x ∈ L, I64 x.left ∧ ∀ s ∈ x.right, I64 s.n := by
  intro xs
  induction xs with
  | nil => intro _; exact ⟨[], rfl, (fun i hi => by simp at hi), (fun x hx => by cases hx)⟩
  | cons c r ih =>
    intro h
    obtain ⟨L, h1, h2, h3⟩ := ih fun d hd => h d (List.mem_cons_of_mem _ hd)
    obtain ⟨x, rv, rfl, q1, q2⟩ := h c List.mem_cons_self
    refine ⟨x :: L, by simp [h1], fun i hi => ?_, fun z hz => ?_⟩
    · cases i with
      | zero => exact ⟨rv, by simp, q1⟩
      | succ i =>
        obtain ⟨t, a, b⟩ := h2 i (by simpa using hi)
        exact ⟨t, by simpa using a, by simpa using b⟩
    · rcases List.mem_cons.1 hz with rfl | hz
      · exact q2
      · exact h3 z hz
/-- All numbers of rules are of 64 bits. -/
structure Bn.Wide (b : Bn) : Prop where
  toks : I64 b.toks
  look : I64 b.look
  of : ∀ n ∈ b.of, I64 n
  l : ∀ x ∈ b.l, I64 x.left ∧ ∀ s ∈ x.right, I64 s.n
set_option maxRecDepth 100000 in
/-- Rules that came in. -/
theorem bnfOf {H : Type} {enc : TypeId × Value → H} {w : World} {b0 : Nat} {v : Value} {d : DataW H} {p : List MemPlace}
    (hok : Value.okWide Try.prog w .any b0 25 v) (h : DataW.Trod enc Try.prog w 0 (fun _ => true) true 25 v d p) :
    ∃ (b : Bn) (o l : Value), v = .agg #[.int .i64 b.toks, .int .i64 b.look, o, l] ∧ BR w w.heap.size o l b ∧ b.Wide := by
  obtain ⟨v0, v1, v2, v3, y0, y1, y2, y3, n, rfl, _, _, h0, h1, h2, h3⟩ := Go.Joins.open_agg4 Try.underlying25 (by kernel_rfl) (by kernel_rfl) hok h
  obtain ⟨a, ha, _, wa⟩ := DataW.trod_int Try.underlying3 h0
  obtain ⟨k, hk, _, wk⟩ := DataW.trod_int Try.underlying3 h1
  simp only [List.cons.injEq, and_true] at ha hk
  subst ha hk
  have h2' : DataW.trod enc Try.prog w 0 (fun _ => true) true n 22 [v2] = some y2 := h2
  have h3' : DataW.trod enc Try.prog w 0 (fun _ => true) true n 23 [v3] = some y3 := h3
  have hk2 : ∃ a len cap, v2 = .slice a len cap := by
    rcases DataW.trod_slice Try.underlying22 h2' with ⟨hc, _⟩ | ⟨a, len, cap, _, _, _, _, hc, _⟩
    · simp only [List.cons.injEq, and_true] at hc; exact ⟨_, _, _, hc⟩
    · simp only [List.cons.injEq, and_true] at hc; exact ⟨_, _, _, hc⟩
  have hk3 : ∃ a len cap, v3 = .slice a len cap := by
    rcases DataW.trod_slice Try.underlying23 h3' with ⟨hc, _⟩ | ⟨a, len, cap, _, _, _, _, hc, _⟩
    · simp only [List.cons.injEq, and_true] at hc; exact ⟨_, _, _, hc⟩
    · simp only [List.cons.injEq, and_true] at hc; exact ⟨_, _, _, hc⟩
  obtain ⟨l, hr, hw⟩ := Row.of_ints (v := v2) Try.underlying22 Try.underlying3 (by kernel_rfl) hk2 ⟨n, by obtain ⟨a, len, cap, rfl⟩ := hk2; exact h2'⟩
  obtain ⟨xs, hrow, hel⟩ := rowOfElems (enc := enc) (base := 0) (spare := fun _ => true) (held := true) (d := y3.1) (p := y3.2) (v := v3) Try.underlying23 (size := 2) (by kernel_rfl) (by decide) hk3 ⟨n, by obtain ⟨a, len, cap, rfl⟩ := hk3; exact h3'⟩
  obtain ⟨L, q1, q2, q3⟩ := prodBuild w xs fun c hc => by
    obtain ⟨hl, m, y, hf⟩ := hel c hc
    exact prod_of hf hl
  exact ⟨⟨a, k, l, L⟩, v2, v3, rfl, ⟨hr, xs, by rw [q1]; exact hrow, q1.symm, fun c hc => (hel c hc).1, q2⟩, i64_of_wfT wa, i64_of_wfT wk, fun m hm => i64_of_wfT (hw m hm), q3⟩
end Go.Proofs.Ytimgnbacgdmiiaa
