/-
  The chapter's example (layer 18).
-/
import Derived.Test.YtbmaappambmhoaaTriS
import Derived.Test.YtbmaappambmhoaaTriU
namespace Go.Proofs.Ytbmaappambmhoaa
open Go.RowKit PK
set_option linter.unusedVariables false
set_option linter.unusedSimpArgs false

theorem rr_two (w : World) (A1 A2 : List Tx) (h1 : A1.length ≤ 1000) (h2 : A2.length ≤ 1000) : RR (((w.alloc (.cells (svt A1).toArray 9)).alloc (.cells (svt A2).toArray 9)).alloc (.cells #[.slice (some ⟨w.heap.size, 0, none⟩) A1.length A1.length, .slice (some ⟨w.heap.size + 1, 0, none⟩) A2.length A2.length] 22)) (w.heap.size + 3) (.slice (some ⟨w.heap.size + 2, 0, none⟩) 2 2) [A1, A2] := by
  have s1 : (w.alloc (.cells (svt A1).toArray 9)).heap.size = w.heap.size + 1 := by simp
  have s2 : ((w.alloc (.cells (svt A1).toArray 9)).alloc (.cells (svt A2).toArray 9)).heap.size = w.heap.size + 2 := by simp
  have r1 := row_cellsB w (svt A1) 1 A1.length A1.length 9 (by rw [svt_length]; omega) (Nat.le_refl _) (by unfold maxLen; omega)
  have r2 := row_cellsB (w.alloc (.cells (svt A1).toArray 9)) (svt A2) 1 A2.length A2.length 9 (by rw [svt_length]; omega) (Nat.le_refl _) (by unfold maxLen; omega)
  have r3 := row_cellsB ((w.alloc (.cells (svt A1).toArray 9)).alloc (.cells (svt A2).toArray 9)) [.slice (some ⟨w.heap.size, 0, none⟩) A1.length A1.length, .slice (some ⟨w.heap.size + 1, 0, none⟩) A2.length A2.length] 1 2 2 22 rfl (Nat.le_refl _) (by unfold maxLen; omega)
  rw [s1] at r2
  rw [s2] at r3
  have b2 := (Below.refl (w.heap.size + 1) (w.alloc (.cells (svt A1).toArray 9))).alloc (by rw [s1]; exact Nat.le_refl _) (.cells (svt A2).toArray 9)
  have b3 := (Below.refl (w.heap.size + 2) ((w.alloc (.cells (svt A1).toArray 9)).alloc (.cells (svt A2).toArray 9))).alloc (by rw [s2]; exact Nat.le_refl _) (.cells #[.slice (some ⟨w.heap.size, 0, none⟩) A1.length A1.length, .slice (some ⟨w.heap.size + 1, 0, none⟩) A2.length A2.length] 22)
  refine ⟨_, r3, fun i hi => ?_⟩
  match i, hi with
  | 0, _ => exact ⟨_, rfl, ((r1.below b2).below (b3.mono (by omega))).mono (by omega)⟩
  | 1, _ => exact ⟨_, rfl, ((r2.below b3).mono (by omega))⟩
def wS1 : List (List Tx) := [[[97]], [[98]]]
def wS2 : List (List Tx) := [[[97, 98], [97, 99]], [[98]]]
theorem wE1 : errI 1 wS1 = 0 := by kernel_rfl
theorem wE2 : errI 2 wS2 = 4 := by kernel_rfl
theorem wEnt : entS wS1 = [([97], 0), ([98], 1)] := by
  have h : toSet wS1.flatten = [[97], [98]] := toSet_id (show IsSet [[97], [98]] by decide)
  have h2 : ([[97], [98]] : List Tx).map (fun t => (t, (whichI wS1 t).toNat)) = [([97], 0), ([98], 1)] := by kernel_rfl
  unfold entS
  rw [h]
  exact h2
theorem wF1 : flat 1 0 (mkT 1 (entS wS1)) = [⟨-1, [97, 98], [1, 2]⟩, ⟨0, [], []⟩, ⟨1, [], []⟩] := by rw [wEnt]; kernel_rfl
theorem wC1 : chooseI 1 (mkT 1 (entS wS1)) [98] = 1 := by rw [wEnt]; kernel_rfl
theorem wC2 : chooseI 1 (mkT 1 (entS wS1)) [99] = -1 := by rw [wEnt]; kernel_rfl
theorem wT1 : tsize 1 (mkT 1 (entS wS1)) = 3 := by rw [wEnt]; kernel_rfl
theorem wU1 : Up 1 (mkT 1 (entS wS1)) := by
  rw [wEnt]
  refine up_mk 1 _ (fun e he => ?_) ?_ (fun h => by cases h)
  · simp only [List.mem_cons, List.not_mem_nil, or_false] at he
    rcases he with rfl | rfl <;> exact ⟨rfl, by decide⟩
  · simp only [List.pairwise_cons, List.mem_cons, List.not_mem_nil, or_false, forall_eq, List.Pairwise.nil, and_true, false_implies, implies_true]
    decide

/-- What trie.Make's answer is, when it is one. -/
theorem TMPost.yes {w w' : World} {k : Int} {S : List (List Tx)} {e : Ending} (h : TMPost w k S e w') (hE : errI k S = 0) : Below w.heap.size w w' ∧ ∃ vo, e = .returned (.tuple #[.agg #[.int .i64 k, vo], .int .i64 0]) ∧ NR w' w'.heap.size vo (flat k.toNat 0 (mkT k.toNat (entS S))) :=
  ⟨h.1, h.2.elim (fun ⟨h1, _⟩ => absurd hE h1) fun ⟨_, h2⟩ => h2⟩
theorem TMPost.no {w w' : World} {k : Int} {S : List (List Tx)} {e : Ending} (h : TMPost w k S e w') (hE : errI k S ≠ 0) : Below w.heap.size w w' ∧ e = .returned (.tuple #[.agg #[.int .i64 0, .slice none 0 0], .int .i64 (errI k S)]) :=
  ⟨h.1, h.2.elim (fun ⟨_, h1⟩ => h1) fun ⟨h1, _⟩ => absurd h1 hE⟩
theorem wMake1 (w : World) : Calls Try.prog 28 #[.int .i64 1, .slice (some ⟨w.heap.size + 2, 0, none⟩) 2 2] (((w.alloc (.cells #[.string ⟨#[97]⟩] 9)).alloc (.cells #[.string ⟨#[98]⟩] 9)).alloc (.cells #[.slice (some ⟨w.heap.size, 0, none⟩) 1 1, .slice (some ⟨w.heap.size + 1, 0, none⟩) 1 1] 22)) fun e w' =>
    Below w.heap.size w w' ∧ ∃ ao c, e = .returned (.tuple #[.agg #[.int .i64 1, .slice ao 3 c], .int .i64 0]) ∧ NR w' w'.heap.size (.slice ao 3 c) (flat 1 0 (mkT 1 (entS wS1))) := by
  have hr := rr_two w [[97]] [[98]] (by decide) (by decide)
  have hb : Below w.heap.size w (((w.alloc (.cells #[.string ⟨#[97]⟩] 9)).alloc (.cells #[.string ⟨#[98]⟩] 9)).alloc (.cells #[.slice (some ⟨w.heap.size, 0, none⟩) 1 1, .slice (some ⟨w.heap.size + 1, 0, none⟩) 1 1] 22)) := ((((Below.refl w.heap.size w).alloc (Nat.le_refl _) _).alloc (by simp) _).alloc (by simp; omega) _)
  have hm := triMake_any 1 (.slice (some ⟨w.heap.size + 2, 0, none⟩) 2 2) wS1 (w.heap.size + 3) _ (by simp) hr (by decide) (by decide) (by decide) (by decide)
  refine hm.mono fun e w' h => ?_
  obtain ⟨h1, vo, h2, h3⟩ := h.yes wE1
  obtain ⟨ao, c, hv, _, _⟩ := h3.val
  have hl : (flat (1 : Int).toNat 0 (mkT (1 : Int).toNat (entS wS1))).length = 3 := (flatT_len 1 0 _).trans wT1
  rw [hl] at hv
  subst hv
  exact ⟨hb.trans (h1.mono hb.size), ao, c, h2, h3⟩
theorem wMake2 (w : World) : Calls Try.prog 28 #[.int .i64 2, .slice (some ⟨w.heap.size + 2, 0, none⟩) 2 2] (((w.alloc (.cells #[.string ⟨#[97, 98]⟩, .string ⟨#[97, 99]⟩] 9)).alloc (.cells #[.string ⟨#[98]⟩] 9)).alloc (.cells #[.slice (some ⟨w.heap.size, 0, none⟩) 2 2, .slice (some ⟨w.heap.size + 1, 0, none⟩) 1 1] 22)) fun e w' =>
    Below w.heap.size w w' ∧ e = .returned (.tuple #[.agg #[.int .i64 0, .slice none 0 0], .int .i64 4]) := by
  have hr := rr_two w [[97, 98], [97, 99]] [[98]] (by decide) (by decide)
  have hb : Below w.heap.size w (((w.alloc (.cells #[.string ⟨#[97, 98]⟩, .string ⟨#[97, 99]⟩] 9)).alloc (.cells #[.string ⟨#[98]⟩] 9)).alloc (.cells #[.slice (some ⟨w.heap.size, 0, none⟩) 2 2, .slice (some ⟨w.heap.size + 1, 0, none⟩) 1 1] 22)) := ((((Below.refl w.heap.size w).alloc (Nat.le_refl _) _).alloc (by simp) _).alloc (by simp; omega) _)
  have hm := triMake_any 2 (.slice (some ⟨w.heap.size + 2, 0, none⟩) 2 2) wS2 (w.heap.size + 3) _ (by simp) hr (by decide) (by decide) (by decide) (by decide)
  refine hm.mono fun e w' h => ?_
  obtain ⟨h1, h2⟩ := h.no (by rw [wE2]; decide)
  rw [wE2] at h2
  exact ⟨hb.trans (h1.mono hb.size), h2⟩
theorem wChoose (B : Nat) (ao : Option Addr) (c : Nat) (W : World) (hB : B ≤ W.heap.size) (r : NR W B (.slice ao 3 c) (flat 1 0 (mkT 1 (entS wS1)))) (b : UInt8) (x : Int) (hx : chooseI 1 (mkT 1 (entS wS1)) [b] = x) :
    Calls Try.prog 34 #[.agg #[.int .i64 1, .slice ao 3 c], .string ⟨#[b]⟩] W fun e w' => e = .returned (.int .i64 x) ∧ Below W.heap.size W w' := by
  rw [← hx]
  exact choose_any 1 (mkT 1 (entS wS1)) (.slice ao 3 c) [b] B W hB (by decide) (by decide) wU1 (by rw [wT1]; decide) r (by simp)
theorem wMay (B : Nat) (ao : Option Addr) (c : Nat) (W : World) (hB : B ≤ W.heap.size) (r : NR W B (.slice ao 3 c) (flat 1 0 (mkT 1 (entS wS1)))) :
    Calls Try.prog 33 #[.agg #[.int .i64 1, .slice ao 3 c]] W (BoolB W true) := by
  have h := triMay_any (.slice ao 3 c) (flat 1 0 (mkT 1 (entS wS1))) 1 B W hB r (by rw [flatT_len, wT1]; decide)
  have h2 : mayB18 1 (flat 1 0 (mkT 1 (entS wS1))) = true := may_flat 1 _ (by decide) (by decide) wU1 (by rw [wT1]; decide)
  rw [h2] at h
  exact h
set_option maxHeartbeats 2000000 in
set_option maxRecDepth 100000 in
theorem works18_any (w : World) : Calls Try.prog 30 #[] w (BoolB w true) := by
  have H1 := Lib.hid (wMake1 w)
  go_enter Try.func30, Try.ntmps30
  go_wp2_with fail
  refine (H1.out).mono ?_
  rintro e w1 ⟨b1, ao, c, rfl, r1⟩
  have Hb1 := Lib.hid b1; have Hr1 := Lib.hid r1
  have H2 := Lib.hid (wMake2 (w1.alloc (.cells #[.int .i64 1, .slice ao 3 c] 41)))
  have hb2 : Below w1.heap.size w1 (w1.alloc (.cells #[.int .i64 1, .slice ao 3 c] 41)) := (Below.refl _ w1).alloc (Nat.le_refl _) _
  have hs2 : (w1.alloc (.cells #[.int .i64 1, .slice ao 3 c] 41)).heap.size = w1.heap.size + 1 := by simp
  have g0 : (w1.alloc (.cells #[.int .i64 1, .slice ao 3 c] 41)).cell? ⟨w1.heap.size, 0, none⟩ = some (.int .i64 1) := cell_new w1 _ _ 0 _ rfl
  have g1 : (w1.alloc (.cells #[.int .i64 1, .slice ao 3 c] 41)).cell? ⟨w1.heap.size, 1, none⟩ = some (.slice ao 3 c) := cell_new w1 _ _ 1 _ rfl
  have Hb2 := Lib.hid hb2; have Hs2 := Lib.hid hs2; have Hg0 := Lib.hid g0; have Hg1 := Lib.hid g1
  clear b1 r1 hb2 hs2 g0 g1
  go_upto_region 2 with fail
  generalize w1.alloc (.cells #[.int .i64 1, .slice ao 3 c] 41) = w2 at *
  go_wp2_with fail
  refine (H2.out).mono ?_
  rintro e w3 ⟨b3, rfl⟩
  have HG : Hid (∀ W, Below w2.heap.size w2 W → W.cell? ⟨w1.heap.size, 0, none⟩ = some (.int .i64 1) ∧ W.cell? ⟨w1.heap.size, 1, none⟩ = some (.slice ao 3 c) ∧ NR W w1.heap.size (.slice ao 3 c) (flat 1 0 (mkT 1 (entS wS1))) ∧ w1.heap.size ≤ W.heap.size) := Lib.hid fun W hW =>
    ⟨(hW.cell (p := ⟨w1.heap.size, 0, none⟩) (by have := Hs2.out; show w1.heap.size < _; omega)).trans Hg0.out, (hW.cell (p := ⟨w1.heap.size, 1, none⟩) (by have := Hs2.out; show w1.heap.size < _; omega)).trans Hg1.out, Hr1.out.below (Hb2.out.trans (hW.mono Hb2.out.size)), Nat.le_trans Hb2.out.size hW.size⟩
  have Hb4 : Hid (Below w2.heap.size w2 (w3.alloc (.cells #[.int .i64 0, .slice none 0 0] 41))) := Lib.hid (b3.alloc b3.size _)
  clear b3 H1 H2
  go_upto_region 3 with fail
  generalize w3.alloc (.cells #[.int .i64 0, .slice none 0 0] 41) = w4 at *
  obtain ⟨c0, c1, r4, z4⟩ := HG.out w4 Hb4.out
  have Hc1 := Lib.hid (wChoose w1.heap.size ao c w4 z4 r4 98 1 wC1)
  clear r4 z4
  go_wp2_with fail
  refine (Hc1.out).mono ?_
  rintro e w5 ⟨rfl, b5⟩
  have Hb5 := Lib.hid (Hb4.out.trans (b5.mono Hb4.out.size))
  obtain ⟨c0, c1, r5, z5⟩ := HG.out w5 Hb5.out
  have Hc2 := Lib.hid (wChoose w1.heap.size ao c w5 z5 r5 99 (-1) wC2)
  clear r5 z5 b5
  go_wp2_with fail
  refine (Hc2.out).mono ?_
  rintro e w6 ⟨rfl, b6⟩
  have Hb6 := Lib.hid (Hb5.out.trans (b6.mono Hb5.out.size))
  obtain ⟨c0, c1, r6, z6⟩ := HG.out w6 Hb6.out
  have Hm := Lib.hid (wMay w1.heap.size ao c w6 z6 r6)
  clear r6 z6 b6
  go_wp2_with fail
  refine (Hm.out).mono ?_
  rintro e w7 ⟨rfl, b7⟩
  have Hb7 := Lib.hid (Hb6.out.trans (b7.mono Hb6.out.size))
  have Hend := Lib.hid ((Hb1.out.trans (Hb2.out.mono Hb1.out.size)).trans (Hb7.out.mono (Nat.le_trans Hb1.out.size Hb2.out.size)))
  clear b7
  go_wp2_with fail
  go_ret
  exact ⟨rfl, Hend.out⟩
end Go.Proofs.Ytbmaappambmhoaa
