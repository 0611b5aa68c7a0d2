/-
  A text put behind a row of its own, within a region that draws; the statements' few; the document's Has.
-/
import Derived.Test.YtimgnbacgdmiiaaKPackB
namespace Go.Proofs.Ytimgnbacgdmiiaa
open Go.RowKit PK
set_option linter.unusedVariables false
attribute [local go_sem ↓] append_appM

/-- A text put behind a row of its own. -/
theorem pushT (X : World) (base n : Nat) (v : Value) (l : List Tx) (x : Tx) (hb : base ≤ X.heap.size) (hn : l.length = n) (hown : X.ownsRow base 9 1 v n (svt l)) (hm : n + 1 ≤ 1000000) (s : ByteArray) (hs : s = ⟨x.toArray⟩) :
    ∃ ao c w', Sem.run Try.prog (appM #[32, 32] 32 #[v, .slice (some ⟨X.heap.size, 0, none⟩) 1 1]) (X.alloc (.cells #[.string s] 9)).drew = .ok (.slice ao (n + 1) c) w' ∧ w'.ownsRow base 9 1 (.slice ao (n + 1) c) (n + 1) (svt (l ++ [x])) ∧ Below base X w' ∧ n + 1 ≤ c ∧ c ≤ maxLen := by
  subst hs
  obtain ⟨i0, hi, hz0, hz1, hz2⟩ := info_parts info_str
  have hrow : Row (X.alloc (.cells #[.string ⟨x.toArray⟩] 9)).drew (X.heap.size + 1) 1 (.slice (some ⟨X.heap.size, 0, none⟩) 1 1) 1 (svt [x]) := (row_cellsB X (svt [x]) 1 1 1 _ rfl (Nat.le_refl _) (by unfold maxLen; omega)).below (Below.refl _ _).drew
  obtain ⟨v', w', h1, h2, h3, _⟩ := run_append_row (P := Try.prog) (X.alloc (.cells #[.string ⟨x.toArray⟩] 9)).drew 32 32 base 9 i0 (.string ByteArray.empty) 1 16 Try.underlying32 hi hz0 hz1 hz2 rfl (by decide) v n (svt l) ((hown.alloc _).drew) (X.heap.size + 1) _ 1 (svt [x]) hrow (svt_one _) (by unfold maxLen; omega) (by omega) (by simp; omega)
  obtain ⟨ao, c, rfl, hc1, hc2⟩ := owns_valPK h2
  rw [← svt_append] at h2
  refine ⟨ao, c, w', h1, h2, ?_, hc1, hc2⟩
  exact (((Below.refl base X).alloc hb _).drew).grown h3 (by simp; omega) (fun k hk => (hown.lt k hk).1)

/-- Not too many texts. -/
def fewT (l : List Tx) : List Tx := (l.take 30).map (·.take 10)
theorem fewT_succ (l : List Tx) (k : Nat) (hk : k < l.length) (h30 : k < 30) : ((l.take k).map (·.take 10)) ++ [l[k].take 10] = (l.take (k + 1)).map (·.take 10) := by
  rw [List.take_succ_eq_append_getElem hk, List.map_append]; rfl
theorem fewT_len (l : List Tx) : (fewT l).length ≤ 30 := by unfold fewT; rw [List.length_map, List.length_take]; omega
theorem fewT_each (l : List Tx) : ∀ x ∈ fewT l, x.length ≤ 10 := by
  intro x hx; obtain ⟨y, _, rfl⟩ := List.mem_map.1 hx; rw [List.length_take]; omega
theorem fewT_fewT (l : List Tx) : fewT (fewT l) = fewT l := by
  unfold fewT
  rw [← List.map_take, List.take_take, List.map_map]
  simp [Function.comp_def, List.take_take]
theorem tx_extract (x : Tx) (n : Nat) : (ByteArray.mk x.toArray).extract 0 n = ⟨(x.take n).toArray⟩ := by
  apply ByteArray.ext; simp

end Go.Proofs.Ytimgnbacgdmiiaa
