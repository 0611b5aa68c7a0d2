/-
  The walks of package gramaryebase's helpers on slices.
-/
import Derived.Test.YtimgnbacgdmiiaaRows
import Derived.Test.YtimgnbacgdmiiaaSl
namespace Go.Proofs.Ytimgnbacgdmiiaa
open Go.RowKit

theorem info_int : (Try.prog.info? 3).map (fun i => (i.zero, i.size, i.bytes)) = some (some (.int .i64 0), 1, 8) := by kernel_rfl

/-- What a call hands back: a row of its own, n elements; below the heap's old size nothing has turned. -/
def Owns (w : World) (e : TypeId) (size n : Nat) (xs : List Value) (en : Ending) (w' : World) : Prop := ∃ v, en = .returned v ∧ w'.ownsRow w.heap.size e size v n xs ∧ Below w.heap.size w w'

set_option maxHeartbeats 400000 in
theorem ints_any (v : Value) (n B : Nat) (l : List Int) (w : World) (hr : Row w B 1 v n (ints l)) (hB : B ≤ w.heap.size) (hl : n * 8 ≤ 140737488355328) :
    Calls Try.prog 57 #[v] w (Owns w 3 1 n (ints l)) := by
  obtain ⟨i0, hi, hz0, hz1, hz2⟩ := info_parts info_int
  obtain ⟨ao, c, rfl, _, _⟩ := hr.val
  have hown := World.ownsRow_made (base := w.heap.size) (e := 3) (size := 1) w #[] 0 (Nat.le_refl _) (Nat.zero_le _) rfl
  have hr1 : Row (w.alloc (.cells #[] 3)) B 1 (.slice ao n c) n (ints l) := hr.below ((Below.refl B w).alloc hB _)
  have hm := hr.2.1
  go_enter Try.func57, Try.ntmps57
  go_wp2_with (at_builtin; refine wpList_append_row rfl (.tmp 3) (.tmp 4) 22 rfl w.heap.size 3 i0 (.int .i64 0) 1 8 Try.underlying22 hi hz0 hz1 hz2 rfl (by decide) _ 0 [] rfl hown B _ n (ints l) rfl hr1 (ints_one l) (by omega) (by omega) (by simp) ?_; intro v' w1 hown1 hgrow)
  go_ret
  rw [Nat.zero_add] at hown1
  exact ⟨v', rfl, hown1, ((Below.refl _ w).alloc (Nat.le_refl _) _).grown hgrow (by simp) (fun k hk => by cases hk; exact Nat.le_refl _)⟩
end Go.Proofs.Ytimgnbacgdmiiaa
