/-
  The walk of package lex's reader of one piece of a text: it goes from label to label.
-/
import Derived.Test.YteijndfacjgfbaaDoorWord
import Derived.Test.YteijndfacjgfbaaDoorDigitP
import Derived.Test.YteijndfacjgfbaaDoorLexA
import Derived.ScopeJumps
import Derived.Scope
namespace Go.Proofs.YteijndfacjgfbaaDoor
open Go.RowKit
set_option linter.unusedVariables false

/-- As Q; by a goto to a label l: J l. -/
def Exit.jumps (J : Nat → Act → World → Prop) (Q : Exit → Act → World → Prop) : Exit → Act → World → Prop
  | .goto l, a, w => J l a w
  | e, a, w => Q e a w
section
variable {P : Program} {a : Act} {w : World} {Q : Exit → Act → World → Prop}
/-- A scope with many labels: what holds at every jump, and a measure that every pass from a label lowers. -/
theorem wp_scope_many {c : Code} (J : Nat → Act → World → Prop) (μ : Act → World → Nat) (rest : Nat → Code) (hf : ∀ l a w, J l a w → findLabel c l = some (rest l))
    (first : c.wp P (Exit.jumps J Q) a w)
    (pass : ∀ l a w, J l a w → (rest l).wp P (Exit.jumps (fun l' a' w' => J l' a' w' ∧ μ a' w' < μ a w) Q) a w) : (Code.scope c).wp P Q a w := by
  intro b k cs
  have hg : ∀ l a w, J l a w → gotoIn l (.inScope c :: k) = some (.code (rest l) :: .inScope c :: k) := fun l a w h => by simp [gotoIn, hf l a w h]
  have key : ∀ n l a w, μ a w = n → J l a w → ∃ e a' w', Q e a' w' ∧ Arrives P (lone (b.at a (.code (rest l) :: .inScope c :: k)) cs w) b k cs e a' w' := by
    intro n
    induction n using Nat.strongRecOn with
    | _ n ih =>
      intro l a w hn hJ
      obtain ⟨e, a₁, w₁, hq, harr⟩ := pass l a w hJ b (.inScope c :: k) cs
      cases e with
      | normal => exact ⟨.normal, a₁, w₁, hq, Steps.trans harr (.one step_inScope)⟩
      | exit id => exact ⟨.exit id, a₁, w₁, hq, fun k' hk => harr k' (by simp [exitTo, hk])⟩
      | goto l' =>
        obtain ⟨hJ', hlt⟩ := hq
        obtain ⟨e₂, a₂, w₂, hq₂, harr₂⟩ := ih _ (by omega) l' a₁ w₁ rfl hJ'
        exact ⟨e₂, a₂, w₂, hq₂, .of_steps (harr _ (hg _ _ _ hJ')) harr₂⟩
      | ret => exact ⟨_, a₁, w₁, hq, harr⟩
      | panic ch => exact ⟨_, a₁, w₁, hq, harr⟩
      | outgrown => exact ⟨_, a₁, w₁, hq, harr⟩
  obtain ⟨e, a₁, w₁, hq, harr⟩ := first b (.inScope c :: k) cs
  cases e with
  | normal => exact ⟨.normal, a₁, w₁, hq, .head step_scope (Steps.trans harr (.one step_inScope))⟩
  | exit id => exact ⟨.exit id, a₁, w₁, hq, fun k' hk => .head step_scope (harr k' (by simp [exitTo, hk]))⟩
  | goto l' =>
    obtain ⟨e₂, a₂, w₂, hq₂, harr₂⟩ := key _ l' a₁ w₁ rfl hq
    exact ⟨e₂, a₂, w₂, hq₂, .of_steps (.head step_scope (harr _ (hg _ _ _ hq))) harr₂⟩
  | ret => exact ⟨_, a₁, w₁, hq, .of_steps (.one step_scope) harr⟩
  | panic ch => exact ⟨_, a₁, w₁, hq, .of_steps (.one step_scope) harr⟩
  | outgrown => exact ⟨_, a₁, w₁, hq, .of_steps (.one step_scope) harr⟩
end

open LX
theorem within_any (c lo hi : Nat) (w : World) (hc : c ≤ 255) (hl : lo ≤ 255) (hh : hi ≤ 255) :
    Calls Tryd.prog 66 #[.int .u8 c, .int .u8 lo, .int .u8 hi] w fun e w' => e = .returned (.bool (decide (lo ≤ c ∧ c ≤ hi))) ∧ w = w' := by
  by_cases h1 : lo ≤ c
  · by_cases h2 : c ≤ hi
    · have H := Lib.hid (decide_eq_true (show lo ≤ c ∧ c ≤ hi from ⟨h1, h2⟩))
      have h1' : (lo : Int) ≤ c := by omega
      have h2' : (c : Int) ≤ hi := by omega
      go_enter Tryd.func66, Tryd.ntmps66
      go_wp2
      go_ret
      exact ⟨ret_bool H.out.symm, rfl⟩
    · have H := Lib.hid (decide_eq_false (show ¬ (lo ≤ c ∧ c ≤ hi) from fun h => h2 h.2))
      have h1' : (lo : Int) ≤ c := by omega
      have h2' : (hi : Int) < c := by omega
      clear h2
      go_enter Tryd.func66, Tryd.ntmps66
      go_wp2
      go_ret
      exact ⟨ret_bool (by rw [H.out]; first | rfl | (simp; omega)), rfl⟩
  · have H := Lib.hid (decide_eq_false (show ¬ (lo ≤ c ∧ c ≤ hi) from fun h => h1 h.1))
    have h1' : (c : Int) < lo := by omega
    clear h1
    go_enter Tryd.func66, Tryd.ntmps66
    go_wp2
    go_ret
    exact ⟨ret_bool H.out.symm, rfl⟩
theorem eqb_true (c k : Nat) (h : c = k) : ((c : Int) == (k : Int)) = true := by subst h; simp
theorem eqb_false (c k : Nat) (h : c ≠ k) : ((c : Int) == (k : Int)) = false := by simp; omega
theorem more_any (c : Nat) (w : World) (hc : c ≤ 255) :
    Calls Tryd.prog 68 #[.int .u8 c] w fun e w' => e = .returned (.bool (isMore c)) ∧ w = w' := by
  have h1 := within_any c 48 57 w hc (by omega) (by omega)
  have hm : isMore c = (decide (48 ≤ c ∧ c ≤ 57) || decide (c = 95)) := by unfold isMore; simp [Bool.decide_or]
  have H := Lib.hid hm
  clear hm
  generalize decide (48 ≤ c ∧ c ≤ 57) = b at *
  go_enter Tryd.func68, Tryd.ntmps68
  go_wp2_with fail
  refine h1.mono ?_
  rintro e w' ⟨rfl, rfl⟩
  cases b with
  | true =>
    go_wp2_with fail
    go_ret
    exact ⟨ret_bool (by rw [H.out]; rfl), rfl⟩
  | false =>
    by_cases h : c = 95
    · have h' : ((c : Int) == 95) = true := eqb_true c 95 h
      have H2 := Lib.hid (decide_eq_true h); clear h
      go_wp2_with fail
      go_ret
      exact ⟨ret_bool (by rw [H.out, H2.out]; rfl), rfl⟩
    · have h' : ((c : Int) == 95) = false := eqb_false c 95 h
      have H2 := Lib.hid (decide_eq_false h); clear h
      go_wp2_with fail
      go_ret
      exact ⟨ret_bool (by rw [H.out, H2.out]; rfl), rfl⟩
theorem blank_any (c : Nat) (w : World) (hc : c ≤ 255) :
    Calls Tryd.prog 65 #[.int .u8 c] w fun e w' => e = .returned (.bool (isBlank c)) ∧ w = w' := by
  have hm : isBlank c = (decide (c = 32) || (decide (c = 9) || (decide (c = 10) || decide (c = 13)))) := by unfold isBlank; simp [Bool.decide_or]
  have H := Lib.hid hm
  clear hm
  have key : ∀ b0 b1 b2 b3 : Bool, decide (c = 32) = b0 → decide (c = 9) = b1 → decide (c = 10) = b2 → decide (c = 13) = b3 →
      Calls Tryd.prog 65 #[.int .u8 c] w fun e w' => e = .returned (.bool (b0 || (b1 || (b2 || b3)))) ∧ w = w' := by
    intro b0 b1 b2 b3 h0 h1 h2 h3
    have e0 : ((c : Int) == 32) = b0 := by rw [← h0]; cases hb : decide (c = 32) <;> simp at hb ⊢ <;> omega
    have e1 : ((c : Int) == 9) = b1 := by rw [← h1]; cases hb : decide (c = 9) <;> simp at hb ⊢ <;> omega
    have e2 : ((c : Int) == 10) = b2 := by rw [← h2]; cases hb : decide (c = 10) <;> simp at hb ⊢ <;> omega
    have e3 : ((c : Int) == 13) = b3 := by rw [← h3]; cases hb : decide (c = 13) <;> simp at hb ⊢ <;> omega
    clear h0 h1 h2 h3 H
    cases b0 <;> cases b1 <;> cases b2 <;> cases b3
    all_goals
      go_enter Tryd.func65, Tryd.ntmps65
      go_wp2
      go_ret
      exact ⟨rfl, rfl⟩
  refine (key _ _ _ _ rfl rfl rfl rfl).mono ?_
  rintro e w' ⟨rfl, rfl⟩
  exact ⟨ret_bool H.out.symm, rfl⟩

def tokV : Option Tok → Value
  | some t => .agg #[.int .i64 t.k, .string t.s, .int .i64 t.n, .int .i64 t.p]
  | none => .agg #[.int .i64 0, .string ByteArray.empty, .int .i64 0, .int .i64 0]
noncomputable def numB (s : ByteArray) : Option Nat := by
  classical exact if h : ∃ n, IsNum s n then some (Classical.choose h) else none
theorem isNum_one {s : ByteArray} {n m : Nat} (h1 : IsNum s n) (h2 : IsNum s m) : n = m := by
  have h := h1.1.symm.trans h2.1
  have h3 : Lib.decDigits n = Lib.decDigits m := congrArg (fun a : ByteArray => a.data.toList) h
  have := val_dec n; rw [h3, val_dec] at this; omega
theorem numB_of {s : ByteArray} {n : Nat} (h : IsNum s n) : numB s = some n := by
  unfold numB
  have h' : ∃ n, IsNum s n := ⟨n, h⟩
  rw [dif_pos h', isNum_one (Classical.choose_spec h') h]
theorem numB_none {s : ByteArray} (h : ∀ n, ¬ IsNum s n) : numB s = none := by
  unfold numB
  rw [dif_neg (fun ⟨n, hn⟩ => h n hn)]
theorem numB_some {s : ByteArray} {n : Nat} (h : numB s = some n) : IsNum s n := by
  unfold numB at h
  split at h
  · rename_i h'
    simp only [Option.some.injEq] at h
    rw [← h]; exact Classical.choose_spec h'
  · cases h
def kwB (s : ByteArray) : Bool := inB s kwT

/-- What is told of a piece of letters. -/
def namedV (s : ByteArray) (i j k : Nat) : Value := .tuple (if s.size ≤ 20 then #[tokV (some ⟨if kwB s then 1 else k, s, 0, i⟩), .int .i64 j, .int .i64 0] else #[tokV none, .int .i64 i, .int .i64 5])
set_option maxRecDepth 100000 in
set_option maxHeartbeats 1600000 in
theorem named_any (s : ByteArray) (i j k : Nat) (w : World) (hs : s.size ≤ maxLen) (hi : i ≤ 9223372036854775807) (hj : j ≤ 9223372036854775807) (hk : k ≤ 9) (hkw : StrsIs w 0 kwT) :
    Calls Tryd.prog 69 #[.string s, .int .i64 i, .int .i64 j, .int .i64 k] w fun e w' => e = .returned (namedV s i j k) ∧ Below w.heap.size w w' := by
  have h1 := fun w' h => keyword_any s w' hs h
  unfold maxLen at hs
  have HK : Hid (kwB s = inB s kwT) := rfl
  generalize inB s kwT = b at *
  have Hkw := Lib.hid hkw; clear hkw
  have hb1 : Below w.heap.size w (w.alloc (.cells #[.int .i64 0, .string ByteArray.empty, .int .i64 0, .int .i64 0] 37)) := (Below.refl _ w).alloc (Nat.le_refl _) _
  have hk1 := Hkw.out.below hb1 (Nat.le_refl _)
  have H1 := Lib.hid h1; clear h1
  go_enter Tryd.func69, Tryd.ntmps69
  go_wp2_with fail
  refine (H1.out _ hk1).mono ?_
  rintro e w' ⟨rfl, rfl⟩
  by_cases hl : s.size ≤ 20
  · have hl' : (s.size : Int) ≤ 20 := by omega
    have HL := Lib.hid hl; clear hl
    cases b
    · have HV : Hid (namedV s i j k = .tuple #[.agg #[.int .i64 k, .string s, .int .i64 0, .int .i64 i], .int .i64 j, .int .i64 0]) := by show namedV s i j k = _; unfold namedV; rw [if_pos HL.out, HK.out]; rfl
      clear HK HL
      go_wp2_with fail
      exact bodyPost_ret (v := .tuple #[.agg #[.int .i64 k, .string s, .int .i64 0, .int .i64 i], .int .i64 j, .int .i64 0]) (by simp [results, Tryd.results69, go_sem]) rfl ⟨by rw [HV.out], (Below.refl _ _).alloc (Nat.le_refl _) _⟩
    · have HV : Hid (namedV s i j k = .tuple #[.agg #[.int .i64 1, .string s, .int .i64 0, .int .i64 i], .int .i64 j, .int .i64 0]) := by show namedV s i j k = _; unfold namedV; rw [if_pos HL.out, HK.out]; rfl
      clear HK HL
      go_wp2_with fail
      exact bodyPost_ret (v := .tuple #[.agg #[.int .i64 1, .string s, .int .i64 0, .int .i64 i], .int .i64 j, .int .i64 0]) (by simp [results, Tryd.results69, go_sem]) rfl ⟨by rw [HV.out], (Below.refl _ _).alloc (Nat.le_refl _) _⟩
  · have hl' : (20 : Int) < (s.size : Int) := by omega
    have HV : Hid (namedV s i j k = .tuple #[.agg #[.int .i64 0, .string ⟨#[]⟩, .int .i64 0, .int .i64 0], .int .i64 i, .int .i64 5]) := by show namedV s i j k = _; unfold namedV; rw [if_neg hl]; rfl
    clear hl HK
    cases b
    all_goals
      go_wp2_with fail
      exact bodyPost_ret (v := .tuple #[.agg #[.int .i64 0, .string ⟨#[]⟩, .int .i64 0, .int .i64 0], .int .i64 i, .int .i64 5]) (by simp [results, Tryd.results69, go_sem]) rfl ⟨by rw [HV.out], (Below.refl _ _).alloc (Nat.le_refl _) _⟩
end Go.Proofs.YteijndfacjgfbaaDoor
