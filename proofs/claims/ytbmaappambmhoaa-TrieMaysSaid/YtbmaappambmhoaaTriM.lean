/-
  Tries as trees of a depth, plain: their nodes one behind the other; the tree of some texts with numbers.
-/
import Derived.Test.YtbmaappambmhoaaTriF
namespace Go.Proofs.Ytbmaappambmhoaa
open Go.RowKit PK
set_option linter.unusedVariables false

/-- A tree of depth n: a leaf's number; or tokens with trees. -/
def Tr : Nat → Type
  | 0 => Nat
  | n + 1 => List (UInt8 × Tr n)
section
variable {T : Type}
def sizes (sz : T → Nat) (ks : List (UInt8 × T)) : Nat := (ks.map fun p => sz p.2).sum
def starts (sz : T → Nat) : Nat → List (UInt8 × T) → List Int
  | _, [] => []
  | s, p :: r => (s : Int) :: starts sz (s + sz p.2) r
def flats (fl : Nat → T → List Nd) (sz : T → Nat) : Nat → List (UInt8 × T) → List Nd
  | _, [] => []
  | s, p :: r => fl s p.2 ++ flats fl sz (s + sz p.2) r
def tokL (ks : List (UInt8 × T)) : List Int := ks.map fun p => (p.1.toNat : Int)
theorem sizes_snoc (sz : T → Nat) (ks : List (UInt8 × T)) (p : UInt8 × T) : sizes sz (ks ++ [p]) = sizes sz ks + sz p.2 := by simp [sizes]
theorem tokL_snoc (ks : List (UInt8 × T)) (p : UInt8 × T) : tokL (ks ++ [p]) = tokL ks ++ [(p.1.toNat : Int)] := by simp [tokL]
theorem starts_snoc (sz : T → Nat) (ks : List (UInt8 × T)) (p : UInt8 × T) (s : Nat) : starts sz s (ks ++ [p]) = starts sz s ks ++ [((s + sizes sz ks : Nat) : Int)] := by
  induction ks generalizing s with
  | nil => simp [starts, sizes]
  | cons q r ih => simp only [List.cons_append, starts, ih]; simp [sizes, Nat.add_assoc]
theorem flats_snoc (fl : Nat → T → List Nd) (sz : T → Nat) (ks : List (UInt8 × T)) (p : UInt8 × T) (s : Nat) : flats fl sz s (ks ++ [p]) = flats fl sz s ks ++ fl (s + sizes sz ks) p.2 := by
  induction ks generalizing s with
  | nil => simp [flats, sizes]
  | cons q r ih => simp only [List.cons_append, flats, ih, List.append_assoc]; simp [sizes, Nat.add_assoc]
theorem flats_len (fl : Nat → T → List Nd) (sz : T → Nat) (h : ∀ i t, (fl i t).length = sz t) (ks : List (UInt8 × T)) (s : Nat) : (flats fl sz s ks).length = sizes sz ks := by
  induction ks generalizing s with
  | nil => rfl
  | cons q r ih => rw [flats, List.length_append, h, ih]; simp [sizes]
theorem starts_len (sz : T → Nat) (ks : List (UInt8 × T)) (s : Nat) : (starts sz s ks).length = ks.length := by
  induction ks generalizing s with
  | nil => rfl
  | cons q r ih => simp [starts, ih]
theorem tokL_len (ks : List (UInt8 × T)) : (tokL ks).length = ks.length := by simp [tokL]
end
def tsize : (n : Nat) → Tr n → Nat
  | 0, _ => 1
  | n + 1, ks => 1 + sizes (tsize n) ks
def flat : (n : Nat) → Nat → Tr n → List Nd
  | 0, _, x => [⟨(show Nat from x : Nat), [], []⟩]
  | n + 1, i, ks => ⟨-1, tokL (show List (UInt8 × Tr n) from ks), starts (tsize n) (i + 1) ks⟩ :: flats (flat n) (tsize n) (i + 1) ks
theorem flatT_len (n : Nat) : ∀ (i : Nat) (t : Tr n), (flat n i t).length = tsize n t := by
  induction n with
  | zero => intro i t; rfl
  | succ n ih => intro i t; simp only [flat, tsize, List.length_cons]; have := flats_len (T := Tr n) (flat n) (tsize n) ih t (i + 1); omega
/-- The tree of some texts with numbers, which stand in groups by their first bytes. -/
def grp {X : Type} : List (UInt8 × X) → List (UInt8 × List X)
  | [] => []
  | p :: r => match grp r with
    | q :: g => if p.1 = q.1 then (p.1, p.2 :: q.2) :: g else (p.1, [p.2]) :: q :: g
    | [] => [(p.1, [p.2])]
abbrev En := List (Tx × Nat)
def hdE (E : En) : List (UInt8 × (Tx × Nat)) := E.map fun e => (e.1.headD 0, (e.1.tail, e.2))
def mkT : (n : Nat) → En → Tr n
  | 0, E => (show Nat from (E.head?.map (·.2)).getD 0)
  | n + 1, E => (show List (UInt8 × Tr n) from (grp (hdE E)).map fun p => (p.1, mkT n p.2))
theorem grp_head {X : Type} (p : UInt8 × X) (r : List (UInt8 × X)) : ∃ xs g, grp (p :: r) = (p.1, p.2 :: xs) :: g := by
  simp only [grp]
  cases grp r with
  | nil => exact ⟨[], [], rfl⟩
  | cons q g =>
    by_cases h : p.1 = q.1
    · simp only [if_pos h]; exact ⟨_, _, rfl⟩
    · simp only [if_neg h]; exact ⟨_, _, rfl⟩
theorem grp_run {X : Type} (b : UInt8) (R S : List (UInt8 × X)) (hR : R ≠ []) (hb : ∀ p ∈ R, p.1 = b) (hS : ∀ p, S.head? = some p → p.1 ≠ b) : grp (R ++ S) = (b, R.map (·.2)) :: grp S := by
  induction R with
  | nil => exact absurd rfl hR
  | cons p r ih =>
    have hp := hb p List.mem_cons_self
    cases r with
    | nil =>
      rw [List.cons_append, List.nil_append]
      cases S with
      | nil => simp [grp, hp]
      | cons q s =>
        obtain ⟨xs, g, hg⟩ := grp_head q s
        have hne := hS q rfl
        rw [grp, hg]
        simp only
        rw [if_neg (by rw [hp]; exact fun e => hne e.symm), hp]; rfl
    | cons q r =>
      rw [List.cons_append, grp, ih (by simp) (fun p hp => hb p (List.mem_cons_of_mem _ hp))]
      simp only [hp, if_true, List.map_cons]
theorem grp_ne {X : Type} (l : List (UInt8 × X)) : ∀ p ∈ grp l, p.2 ≠ [] := by
  induction l with
  | nil => simp [grp]
  | cons a r ih =>
    rw [grp]
    cases hg : grp r with
    | nil => simp
    | cons q g =>
      rw [hg] at ih
      simp only
      by_cases h : a.1 = q.1
      · rw [if_pos h]
        intro p hp
        rcases List.mem_cons.1 hp with rfl | hp
        · simp
        · exact ih p (List.mem_cons_of_mem _ hp)
      · rw [if_neg h]
        intro p hp
        rcases List.mem_cons.1 hp with rfl | hp
        · simp
        · exact ih p hp
theorem grp_flat {X : Type} (l : List (UInt8 × X)) : (grp l).flatMap (fun p => p.2.map fun x => (p.1, x)) = l := by
  induction l with
  | nil => rfl
  | cons a r ih =>
    rw [grp]
    cases hg : grp r with
    | nil => rw [hg] at ih; simp at ih; simp [← ih]
    | cons q g =>
      rw [hg] at ih
      simp only
      by_cases h : a.1 = q.1
      · rw [if_pos h, List.flatMap_cons]
        rw [List.flatMap_cons] at ih
        simp only [List.map_cons, List.cons_append]
        rw [h, ih]
        exact congrArg (· :: r) (Prod.ext h.symm rfl)
      · rw [if_neg h, List.flatMap_cons, ih]; simp
theorem grp_total {X : Type} (l : List (UInt8 × X)) : ((grp l).map fun p => p.2.length).sum = l.length := by
  have h := congrArg List.length (grp_flat l)
  rw [List.length_flatMap] at h
  simpa using h
theorem tsize_mk (n : Nat) : ∀ (E : En), tsize n (mkT n E) ≤ 1 + n * E.length := by
  induction n with
  | zero => intro E; simp [tsize]
  | succ n ih =>
    intro E
    have h : ∀ (G : List (UInt8 × List (Tx × Nat))), (∀ p ∈ G, p.2 ≠ []) → sizes (tsize n) (G.map fun p => (p.1, mkT n p.2)) ≤ (n + 1) * (G.map fun p => p.2.length).sum := by
      intro G
      induction G with
      | nil => intro _; simp [sizes]
      | cons p r ih2 =>
        intro hne
        have h1 := ih2 fun q hq => hne q (List.mem_cons_of_mem _ hq)
        have h2 := ih p.2
        have h3 : 1 ≤ p.2.length := List.length_pos_iff.2 (hne p List.mem_cons_self)
        simp only [sizes, List.map_cons, List.sum_cons] at h1 ⊢
        rw [Nat.mul_add]
        have h4 : tsize n (mkT n p.2) ≤ (n + 1) * p.2.length := by rw [Nat.succ_mul]; omega
        omega
    have h2 := h _ (grp_ne (hdE E))
    rw [grp_total] at h2
    have h3 : (hdE E).length = E.length := by simp [hdE]
    rw [h3] at h2
    simp only [tsize, mkT]
    exact Nat.add_le_add_left h2 1
theorem hdE_len (E : En) : (hdE E).length = E.length := by simp [hdE]
/-- A run of texts that begin alike: its tree, and the rest's. -/
theorem mk_run (b : UInt8) (R S : En) (hR : R ≠ []) (hb : ∀ e ∈ R, e.1.headD 0 = b) (hS : ∀ e, S.head? = some e → e.1.headD 0 ≠ b) (n : Nat) :
    (grp (hdE (R ++ S))).map (fun p => (p.1, mkT n p.2)) = (b, mkT n (R.map fun e => (e.1.tail, e.2))) :: (grp (hdE S)).map fun p => (p.1, mkT n p.2) := by
  have h1 : hdE (R ++ S) = hdE R ++ hdE S := by simp [hdE]
  rw [h1, grp_run b (hdE R) (hdE S) (by simpa [hdE] using hR) (by intro p hp; simp only [hdE, List.mem_map] at hp; obtain ⟨e, he, rfl⟩ := hp; exact hb e he) (by
    intro p hp
    cases S with
    | nil => simp [hdE] at hp
    | cons e s => simp only [hdE, List.map_cons, List.head?_cons, Option.some.injEq] at hp; subst hp; exact hS e rfl)]
  rw [List.map_cons]
  congr 3
  simp [hdE]
end Go.Proofs.Ytbmaappambmhoaa
