/-
  Stage 14: what its works() asks.
-/
import Derived.Test.YtimgnbacgdmiiaaFirO
namespace Go.Proofs.Ytimgnbacgdmiiaa
open Go.RowKit PK
set_option linter.unusedVariables false
set_option linter.unusedSimpArgs false
attribute [local go_sem ↓] append_appM

theorem first_smp14 (o l : Value) (B : Nat) (w : World) (hB : B ≤ w.heap.size) (r : BR w B o l smp14) :
    Calls Try.prog 11 #[.agg #[.int .i64 2, .int .i64 2, o, l]] w fun e w' => ∃ g v, e = .returned (.tuple #[.slice (some ⟨g, 0, none⟩) 1 1, .int .i64 0]) ∧ w'.cell? ⟨g, 0, none⟩ = some v ∧ g < w'.heap.size ∧ Row w' w'.heap.size 1 v 3 (svt [[1, 1], [1, 2], [2]]) ∧ Below w.heap.size w w' :=
  (firstOf_any smp14 2 2 o l B w rfl rfl hB r).mono fun e w' h => by
    obtain ⟨h, hb⟩ := h
    rcases h with ⟨h0, _⟩ | ⟨_, ⟨g, S, he, hI, hc, _, hS⟩ | ⟨_, S, h1, h2⟩⟩
    · exact absurd may_smp14 h0
    · have e1 := sol_uniq S hI.sound hc
      subst e1
      obtain ⟨v, h3, h4⟩ := hS.at_ 0 (by decide)
      exact ⟨g, v, he, h3, hS.lt, h4, hb⟩
    · exact absurd h2 (not_over14 S h1)
set_option maxHeartbeats 4000000 in
set_option maxRecDepth 100000 in
theorem works14_any (w : World) : Calls Try.prog 14 #[] w (BoolB w true) := by
  have Hs := Lib.hid any_smp14
  go_enter Try.func14, Try.ntmps14
  go_wp2_with fail
  refine (Hs.out _).mono ?_
  rintro e w1 ⟨o1, l1, rfl, r1, b1⟩
  have Hn := Lib.hid (first_smp14 o1 l1 _ w1 (Nat.le_refl _) r1)
  have B1 := Lib.hid b1
  clear r1 b1
  go_wp2_with fail
  refine (Hn.out).mono ?_
  rintro e w2 ⟨g, v, rfl, hc, hg, r2, b2⟩
  obtain ⟨va, vc, rfl, _⟩ := r2.val
  have B2 := Lib.hid (B1.out.trans (b2.mono B1.out.size))
  have b3 := (Below.refl w2.heap.size w2).alloc (Nat.le_refl _) (.cells (svt [[1, 1], [1, 2], [2]]).toArray 9)
  have Hc := Lib.hid (sameTexts_any (.slice va 3 vc) (.slice (some ⟨w2.heap.size, 0, none⟩) 3 3) [[1, 1], [1, 2], [2]] [[1, 1], [1, 2], [2]] _ _ (w2.alloc (.cells (svt [[1, 1], [1, 2], [2]]).toArray 9)) b3.size (by simp) (r2.below b3) (row_cellsB w2 (svt [[1, 1], [1, 2], [2]]) 1 3 3 9 rfl (Nat.le_refl _) (by unfold maxLen; omega)))
  have B3 := Lib.hid (B2.out.trans (b3.mono B2.out.size))
  clear b2 b3 r2 Hn
  have esv : (svt [[1, 1], [1, 2], [2]]).toArray = #[.string ⟨#[1, 1]⟩, .string ⟨#[1, 2]⟩, .string ⟨#[2]⟩] := rfl
  rw [esv] at Hc B3
  simp only [decide_true] at Hc
  go_wp2_with fail
  refine (Hc.out).mono ?_
  rintro e w4 ⟨rfl, b4⟩
  have B4 := Lib.hid (B3.out.trans (b4.mono B3.out.size))
  clear b4 Hc
  go_wp2_with fail
  go_ret
  exact ⟨rfl, B4.out⟩
end Go.Proofs.Ytimgnbacgdmiiaa
