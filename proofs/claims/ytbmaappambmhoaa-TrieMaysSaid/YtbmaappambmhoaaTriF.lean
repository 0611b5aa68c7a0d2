/-
  A trie's nodes in a world; what a trie's shape is, plain.
-/
import Derived.Test.YtbmaappambmhoaaTriA
import Derived.Test.YtbmaappambmhoaaSlC
namespace Go.Proofs.Ytbmaappambmhoaa
open Go.RowKit PK
set_option linter.unusedVariables false

/-- A node. -/
structure Nd where
  leaf : Int
  toks : List Int
  kids : List Int
/-- A row of nodes, of three cells each. -/
def NR (w : World) (B : Nat) (v : Value) (N : List Nd) : Prop :=
  ∃ cs : List (List Value), Row w B 3 v N.length cs.flatten ∧ cs.length = N.length ∧ (∀ c ∈ cs, c.length = 3) ∧
    ∀ i (hi : i < N.length), ∃ t k, cs[i]? = some [.int .i64 N[i].leaf, t, k] ∧ Row w B 1 t N[i].toks.length (ints N[i].toks) ∧ Row w B 1 k N[i].kids.length (ints N[i].kids)
theorem NR.below {w w' : World} {B : Nat} {v : Value} {N : List Nd} (h : NR w B v N) (hb : Below B w w') : NR w' B v N := by
  obtain ⟨cs, h1, h2, h3, h4⟩ := h
  exact ⟨cs, h1.below hb, h2, h3, fun i hi => by obtain ⟨t, k, h5, h6, h7⟩ := h4 i hi; exact ⟨t, k, h5, h6.below hb, h7.below hb⟩⟩
theorem NR.mono {w : World} {B B' : Nat} {v : Value} {N : List Nd} (h : NR w B v N) (hB : B ≤ B') : NR w B' v N := by
  obtain ⟨cs, h1, h2, h3, h4⟩ := h
  exact ⟨cs, h1.mono hB, h2, h3, fun i hi => by obtain ⟨t, k, h5, h6, h7⟩ := h4 i hi; exact ⟨t, k, h5, h6.mono hB, h7.mono hB⟩⟩
theorem NR.val {w : World} {B : Nat} {v : Value} {N : List Nd} (h : NR w B v N) : ∃ ao c, v = .slice ao N.length c ∧ N.length ≤ c ∧ c ≤ maxLen := by
  obtain ⟨cs, h1, _⟩ := h; exact h1.val
theorem NR.get {w : World} {B n c : Nat} {ao : Option Addr} {N : List Nd} (h : NR w B (.slice ao n c) N) (i : Nat) (hi : i < N.length) :
    ∃ b off a1 c1 a2 c2, ao = some ⟨b, off, none⟩ ∧ b < B ∧ w.cell? ⟨b, off + i * 3, none⟩ = some (.int .i64 N[i].leaf) ∧
      w.cell? ⟨b, off + i * 3 + 1, none⟩ = some (.slice a1 N[i].toks.length c1) ∧ w.cell? ⟨b, off + i * 3 + 2, none⟩ = some (.slice a2 N[i].kids.length c2) ∧
      Row w B 1 (.slice a1 N[i].toks.length c1) N[i].toks.length (ints N[i].toks) ∧ Row w B 1 (.slice a2 N[i].kids.length c2) N[i].kids.length (ints N[i].kids) ∧
      N[i].toks.length ≤ c1 ∧ c1 ≤ maxLen ∧ N[i].kids.length ≤ c2 ∧ c2 ≤ maxLen := by
  obtain ⟨cs, h1, h2, h3, h4⟩ := h
  obtain ⟨t, k, h5, h6, h7⟩ := h4 i hi
  obtain ⟨a1, c1, rfl, hc1, hc2⟩ := h6.val
  obtain ⟨a2, c2, rfl, hd1, hd2⟩ := h7.val
  obtain ⟨a3, c3, hv, _, _⟩ := h1.val
  simp only [Value.slice.injEq] at hv
  obtain ⟨rfl, rfl, rfl⟩ := hv
  have hci : i < cs.length := by omega
  have hx : cs[i] = [.int .i64 N[i].leaf, .slice a1 N[i].toks.length c1, .slice a2 N[i].kids.length c2] := by
    rw [List.getElem?_eq_getElem hci] at h5; exact Option.some.inj h5
  have hp : 0 < cs.flatten.length := by rw [h1.1]; omega
  obtain ⟨b, off, rfl, hb, hc⟩ := h1.at hp
  refine ⟨b, off, a1, c1, a2, c2, rfl, hb, ?_, ?_, ?_, h6, h7, hc1, hc2, hd1, hd2⟩
  · have h8 := flat_at cs 3 h3 i hci 0 (by omega)
    rw [hx] at h8
    exact hc (i * 3 + 0) _ h8
  · have h8 := flat_at cs 3 h3 i hci 1 (by omega)
    rw [hx] at h8
    have := hc (i * 3 + 1) _ h8
    rw [← Nat.add_assoc] at this; exact this
  · have h8 := flat_at cs 3 h3 i hci 2 (by omega)
    rw [hx] at h8
    have := hc (i * 3 + 2) _ h8
    rw [← Nat.add_assoc] at this; exact this

/-- Do the edges of a node stand as they should, from 'next' on? 'sub': what stands below a node. -/
def kidsB (sub : Int → Option Int) : Option Int → List Int → List Int → Int → Option Int
  | _, [], _, next => some next
  | last, t :: ts, ks, next =>
    if t < 0 ∨ 255 < t ∨ (∃ l, last = some l ∧ t ≤ l) ∨ ks.head? ≠ some next then none
    else (sub next).bind fun e => kidsB sub (some t) ts ks.tail e
/-- The place behind node i and all below it, 'left' levels above the leaves; none, if they do not stand as they should. -/
def belowB (N : List Nd) (root : Bool) : Nat → Int → Option Int
  | 0, i =>
    if i < 0 then none else
    match N[i.toNat]? with
    | none => none
    | some x => if 0 ≤ x.leaf ∧ x.leaf < 20000 ∧ x.toks = [] ∧ x.kids = [] then some (i + 1) else none
  | n + 1, i =>
    if i < 0 then none else
    match N[i.toNat]? with
    | none => none
    | some x => if x.leaf ≠ -1 ∨ x.toks.length ≠ x.kids.length ∨ (x.toks = [] ∧ root = false) then none else kidsB (belowB N false n) none x.toks x.kids (i + 1)
/-- Is it a trie? -/
def mayB18 (K : Int) (N : List Nd) : Bool := decide (1 ≤ K) && decide (K ≤ 4) && decide (N.length ≤ 20000) && decide (belowB N true K.toNat 0 = some (N.length : Int))
end Go.Proofs.Ytbmaappambmhoaa
