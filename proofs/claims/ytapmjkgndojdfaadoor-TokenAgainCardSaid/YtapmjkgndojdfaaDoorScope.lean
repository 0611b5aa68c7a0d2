/-
  A scope with several labels; a text's number; a token as a value.
-/
import Derived.Test.YtapmjkgndojdfaaDoorLexS
import Derived.Test.YtapmjkgndojdfaaDoorDigitP
import Derived.ScopeJumps
import Derived.Scope
namespace Go.Proofs.YtapmjkgndojdfaaDoor
open Go.RowKit LX
set_option linter.unusedVariables false

/-- As Q; by a goto to a label l: J l. -/
def Exit.jumps (J : Nat → Act → World → Prop) (Q : Exit → Act → World → Prop) : Exit → Act → World → Prop
  | .goto l, a, w => J l a w
  | e, a, w => Q e a w
section
variable {P : Program} {a : Act} {w : World} {Q : Exit → Act → World → Prop}
/-- A scope with many labels: what holds at every jump, and a measure that every pass from a label lowers. -/
theorem wp_scope_many {c : Code} (J : Nat → Act → World → Prop) (μ : Act → World → Nat) (rest : Nat → Code) (hf : ∀ l a w, J l a w → findLabel c l = some (rest l))
    (first : c.wp P (Exit.jumps J Q) a w)
    (pass : ∀ l a w, J l a w → (rest l).wp P (Exit.jumps (fun l' a' w' => J l' a' w' ∧ μ a' w' < μ a w) Q) a w) : (Code.scope c).wp P Q a w := by
  intro b k cs
  have hg : ∀ l a w, J l a w → gotoIn l (.inScope c :: k) = some (.code (rest l) :: .inScope c :: k) := fun l a w h => by simp [gotoIn, hf l a w h]
  have key : ∀ n l a w, μ a w = n → J l a w → ∃ e a' w', Q e a' w' ∧ Arrives P (lone (b.at a (.code (rest l) :: .inScope c :: k)) cs w) b k cs e a' w' := by
    intro n
    induction n using Nat.strongRecOn with
    | _ n ih =>
      intro l a w hn hJ
      obtain ⟨e, a₁, w₁, hq, harr⟩ := pass l a w hJ b (.inScope c :: k) cs
      cases e with
      | normal => exact ⟨.normal, a₁, w₁, hq, Steps.trans harr (.one step_inScope)⟩
      | exit id => exact ⟨.exit id, a₁, w₁, hq, fun k' hk => harr k' (by simp [exitTo, hk])⟩
      | goto l' =>
        obtain ⟨hJ', hlt⟩ := hq
        obtain ⟨e₂, a₂, w₂, hq₂, harr₂⟩ := ih _ (by omega) l' a₁ w₁ rfl hJ'
        exact ⟨e₂, a₂, w₂, hq₂, .of_steps (harr _ (hg _ _ _ hJ')) harr₂⟩
      | ret => exact ⟨_, a₁, w₁, hq, harr⟩
      | panic ch => exact ⟨_, a₁, w₁, hq, harr⟩
      | outgrown => exact ⟨_, a₁, w₁, hq, harr⟩
  obtain ⟨e, a₁, w₁, hq, harr⟩ := first b (.inScope c :: k) cs
  cases e with
  | normal => exact ⟨.normal, a₁, w₁, hq, .head step_scope (Steps.trans harr (.one step_inScope))⟩
  | exit id => exact ⟨.exit id, a₁, w₁, hq, fun k' hk => .head step_scope (harr k' (by simp [exitTo, hk]))⟩
  | goto l' =>
    obtain ⟨e₂, a₂, w₂, hq₂, harr₂⟩ := key _ l' a₁ w₁ rfl hq
    exact ⟨e₂, a₂, w₂, hq₂, .of_steps (.head step_scope (harr _ (hg _ _ _ hq))) harr₂⟩
  | ret => exact ⟨_, a₁, w₁, hq, .of_steps (.one step_scope) harr⟩
  | panic ch => exact ⟨_, a₁, w₁, hq, .of_steps (.one step_scope) harr⟩
  | outgrown => exact ⟨_, a₁, w₁, hq, .of_steps (.one step_scope) harr⟩
end

section
variable {P : Program} {a : Act} {w : World} {Q : Exit → Act → World → Prop}
/-- 'wp_scope_many' at five labels. -/
theorem wp_scope_five {c : Code} (J : Nat → Act → World → Prop) (μ : Act → World → Nat) {r0 r1 r2 r3 r4 : Code} (h0 : findLabel c 0 = some r0) (h1 : findLabel c 1 = some r1) (h2 : findLabel c 2 = some r2) (h3 : findLabel c 3 = some r3) (h4 : findLabel c 4 = some r4)
    (hJ : ∀ l a w, J l a w → l < 5)
    (first : c.wp P (Exit.jumps J Q) a w)
    (p0 : ∀ a w, J 0 a w → r0.wp P (Exit.jumps (fun l' a' w' => J l' a' w' ∧ μ a' w' < μ a w) Q) a w)
    (p1 : ∀ a w, J 1 a w → r1.wp P (Exit.jumps (fun l' a' w' => J l' a' w' ∧ μ a' w' < μ a w) Q) a w)
    (p2 : ∀ a w, J 2 a w → r2.wp P (Exit.jumps (fun l' a' w' => J l' a' w' ∧ μ a' w' < μ a w) Q) a w)
    (p3 : ∀ a w, J 3 a w → r3.wp P (Exit.jumps (fun l' a' w' => J l' a' w' ∧ μ a' w' < μ a w) Q) a w)
    (p4 : ∀ a w, J 4 a w → r4.wp P (Exit.jumps (fun l' a' w' => J l' a' w' ∧ μ a' w' < μ a w) Q) a w) : (Code.scope c).wp P Q a w := by
  refine wp_scope_many J μ (fun l => match l with | 0 => r0 | 1 => r1 | 2 => r2 | 3 => r3 | _ => r4) ?_ first ?_
  · intro l a w h
    have := hJ l a w h
    match l, this with
    | 0, _ => exact h0
    | 1, _ => exact h1
    | 2, _ => exact h2
    | 3, _ => exact h3
    | 4, _ => exact h4
  · intro l a w h
    have := hJ l a w h
    match l, this with
    | 0, _ => exact p0 a w h
    | 1, _ => exact p1 a w h
    | 2, _ => exact p2 a w h
    | 3, _ => exact p3 a w h
    | 4, _ => exact p4 a w h
end
def tokV : Option Tok → Value
  | some t => .agg #[.int .i64 t.k, .string t.s, .int .i64 t.n, .int .i64 t.p]
  | none => .agg #[.int .i64 0, .string ByteArray.empty, .int .i64 0, .int .i64 0]
noncomputable def numB (s : ByteArray) : Option Nat := by
  classical exact if h : ∃ n, IsNum s n then some (Classical.choose h) else none
theorem isNum_one {s : ByteArray} {n m : Nat} (h1 : IsNum s n) (h2 : IsNum s m) : n = m := by
  have h := h1.1.symm.trans h2.1
  have h3 : Lib.decDigits n = Lib.decDigits m := congrArg (fun a : ByteArray => a.data.toList) h
  have := val_dec n; rw [h3, val_dec] at this; omega
theorem numB_of {s : ByteArray} {n : Nat} (h : IsNum s n) : numB s = some n := by
  unfold numB
  have h' : ∃ n, IsNum s n := ⟨n, h⟩
  rw [dif_pos h', isNum_one (Classical.choose_spec h') h]
theorem numB_none {s : ByteArray} (h : ∀ n, ¬ IsNum s n) : numB s = none := by
  unfold numB
  rw [dif_neg (fun ⟨n, hn⟩ => h n hn)]
theorem numB_some {s : ByteArray} {n : Nat} (h : numB s = some n) : IsNum s n := by
  unfold numB at h
  split at h
  · rename_i h'
    simp only [Option.some.injEq] at h
    rw [← h]; exact Classical.choose_spec h'
  · cases h
end Go.Proofs.YtapmjkgndojdfaaDoor
