/-
  row.Know.
-/
import Derived.Test.YtimgnbacgdmiiaaKnD
namespace Go.Proofs.Ytimgnbacgdmiiaa
open Go.RowKit PK Go.Maps Go.WideMaps
set_option linter.unusedVariables false
set_option linter.unusedSimpArgs false
attribute [local go_sem ↓] append_appM

/-- A Known that has come to the empty text's set alone, or further. -/
def KnNew (W : World) (n0 : Nat) (g N c : Nat) (k : Int) (kk : Nat) (S : Sts) (e : Ending) (W' : World) : Prop :=
  ∃ kb am nm cv C, e = .returned (.pointer (some ⟨kb, 0, none⟩)) ∧ (∃ na nx fa fx, Kn (fun _ => False) W' n0 kb am nm cv g N c k kk S 1 C na nx fa fx) ∧ (∃ x, C[0]? = some x ∧ x.2 = [[]]) ∧ Below n0 W W'
set_option maxHeartbeats 2000000 in
set_option maxRecDepth 100000 in
theorem know_any (W : World) (g N c : Nat) (k : Int) (kk : Nat) (S : Sts) (h : SetsR W g N c S) (hk : 1 ≤ k ∧ k ≤ 4) (hkx : W.cell? ⟨kk, 0, none⟩ = some (.int .i64 k)) (hkk : kk < W.heap.size) :
    Calls Try.prog 71 #[.slice (some ⟨g, 0, none⟩) N c, .int .i64 600, .func (.func 60) #[] #[.pointer (some ⟨kk, 0, none⟩)]] W (KnNew W W.heap.size g N c k kk S) := by
  have b1 := (Below.refl W.heap.size W).alloc (Nat.le_refl _) (.map #[] 0)
  have s1 : (W.alloc (.map #[] 0)).heap.size = W.heap.size + 1 := by simp
  have m1 := MapG.made 9 W
  have m2 := MapG.made 131 (W.alloc (.map #[] 0))
  have b2 := b1.alloc b1.size (.map #[] 0)
  have s2 : ((W.alloc (.map #[] 0)).alloc (.map #[] 0)).heap.size = W.heap.size + 2 := by simp
  have b3 := b2.alloc b2.size (.cells #[.slice (some ⟨g, 0, none⟩) N c, .int .i64 600, .func (.func 60) #[] #[.pointer (some ⟨kk, 0, none⟩)], .slice none 0 0, .map (some W.heap.size), .map (some (W.heap.size + 1))] 128)
  have hK : Kn (fun _ => False) (((W.alloc (.map #[] 0)).alloc (.map #[] 0)).alloc (.cells #[.slice (some ⟨g, 0, none⟩) N c, .int .i64 600, .func (.func 60) #[] #[.pointer (some ⟨kk, 0, none⟩)], .slice none 0 0, .map (some W.heap.size), .map (some (W.heap.size + 1))] 128)) W.heap.size (W.heap.size + 2) W.heap.size (W.heap.size + 1) (.slice none 0 0) g N c k kk S 0 [] 0 0 (fun _ => none) (fun _ => none) := by
    refine ⟨?_, (b3.cell (p := ⟨kk, 0, none⟩) hkk).trans hkx, ⟨hkk, h.lt, by omega, Nat.le_refl _, by omega, b3.size⟩, ⟨by omega, by omega, by omega⟩, h.len, fun j hj => ?_, World.ownsRow_nil _ _ _ _, (fun q e => by cases e), (fun x hx => by cases hx), (fun q hq => hq.elim), ?_, ?_, ⟨Nat.le_refl _, Nat.le_refl _, Nat.le_refl _⟩, (fun x hx => by cases hx), (fun s v hv => by cases hv), (fun j t n v hv => by cases hv)⟩
    · rw [← s2]; exact Array.getElem?_push_size
    · obtain ⟨v, h1, h2⟩ := h.at_ j hj
      exact ⟨v, (b3.cell (p := ⟨g, j, none⟩) h.lt).trans h1, h2.below b3⟩
    · refine m1.kept ?_
      rw [Below.heap_alloc _ _ _ (by rw [s2]; omega), Below.heap_alloc _ _ _ (by rw [s1]; omega)]
    · rw [s1] at m2
      refine m2.kept ?_
      rw [Below.heap_alloc _ _ _ (by rw [s2]; omega)]
  have s3 : (((W.alloc (.map #[] 0)).alloc (.map #[] 0)).alloc (.cells #[.slice (some ⟨g, 0, none⟩) N c, .int .i64 600, .func (.func 60) #[] #[.pointer (some ⟨kk, 0, none⟩)], .slice none 0 0, .map (some W.heap.size), .map (some (W.heap.size + 1))] 128)).heap.size = W.heap.size + 3 := by simp
  have HK := Lib.hid hK; have HB3 := Lib.hid b3; have Hs3 := Lib.hid s3; have Hk := Lib.hid hk
  have hmm := @run_makeMap Try.prog
  clear b1 b2 b3 s1 s2 s3 m1 m2 hK h hkx hk
  go_enter Try.func71, Try.ntmps71
  go_upto_region 2 with fail
  generalize ((W.alloc (.map #[] 0)).alloc (.map #[] 0)).alloc (.cells #[.slice (some ⟨g, 0, none⟩) N c, .int .i64 600, .func (.func 60) #[] #[.pointer (some ⟨kk, 0, none⟩)], .slice none 0 0, .map (some W.heap.size), .map (some (W.heap.size + 1))] 128) = w3 at *
  have b4 := (Below.refl w3.heap.size w3).alloc (Nat.le_refl _) (.cells #[.string ⟨#[]⟩] 9)
  have hr4 : Row (w3.alloc (.cells #[.string ⟨#[]⟩] 9)) (w3.alloc (.cells #[.string ⟨#[]⟩] 9)).heap.size 1 (.slice (some ⟨w3.heap.size, 0, none⟩) ([[]] : List Tx).length 1) ([[]] : List Tx).length (svt [[]]) := (row_cellsB w3 (svt [[]]) 1 1 1 9 rfl (Nat.le_refl _) (by unfold maxLen; omega)).mono (by simp)
  have Hp := Lib.hid (place_any (fun _ => False) _ W.heap.size _ _ _ _ g N c k kk S 0 [] 0 0 _ _ (HK.out.below b4) (some ⟨w3.heap.size, 0, none⟩) 1 [[]] hr4 (fun _ q e => by
    have e2 : w3.heap.size = q := by have := Option.some.inj e; exact this
    refine ⟨fun h => ?_, by rw [← e2]; simp, fun h => h⟩
    have := HK.out.own_lt q h; omega) ⟨List.pairwise_singleton _ _, (fun x hx => by rw [List.mem_singleton.1 hx]; simp; have := Hk.out; omega)⟩ Hk.out.2 (by omega))
  have HB4 := Lib.hid (HB3.out.trans (b4.mono HB3.out.size))
  clear b4 hr4 hmm
  go_wp2_with fail
  refine (Hp.out).mono ?_
  intro e w5 hp5
  have h6 : ∃ i : Nat, e = .returned (.int .i64 (i : Nat)) ∧ ∃ cv C, (∃ na nx fa fx, Kn (fun _ => False) w5 W.heap.size (W.heap.size + 2) W.heap.size (W.heap.size + 1) cv g N c k kk S 1 C na nx fa fx) ∧ (∃ x, C[0]? = some x ∧ x.2 = [[]]) ∧ Below W.heap.size W w5 := by
    rcases hp5 with ⟨h1, _⟩ | ⟨_, i, cv5, C5, na5, fa5, rfl, h2, ⟨x, h3, h4⟩, _, h6, _⟩
    · simp at h1
    · have h7 := (List.getElem?_eq_some_iff.1 h3).1
      have h8 := h2.cnt.1
      obtain rfl : i = 0 := by omega
      refine ⟨0, rfl, cv5, C5, ⟨na5, 0, fa5, _, h2⟩, ⟨x, h3, h4⟩, HB4.out.trans (h6.low HB4.out.size fun q hq => ?_)⟩
      rcases hq with rfl | rfl | rfl | hq
      · omega
      · omega
      · omega
      · cases hq
  obtain ⟨i, rfl, cv5, C5, h7, h8, h9⟩ := h6
  have HE : Hid (KnNew W W.heap.size g N c k kk S (.returned (.pointer (some ⟨W.heap.size + 2, 0, none⟩))) w5) := Lib.hid ⟨_, _, _, cv5, C5, rfl, h7, h8, h9⟩
  clear h7 h8 h9 hp5 Hp
  go_wp2_with fail
  go_ret
  exact HE.out
end Go.Proofs.Ytimgnbacgdmiiaa
