/-
  The document's Make, Join, Meet: walked.
-/
import Derived.Test.YtimgnbacgdmiiaaKPackD
namespace Go.Proofs.Ytimgnbacgdmiiaa
open Go.RowKit PK
set_option linter.unusedVariables false

def joinL (a b : List Tx) : List Tx := toSet (a ++ b)
def meetL (a b : List Tx) : List Tx := toSet (a.filter fun x => decide (x ∈ b))
theorem putL_toSet (l : List Tx) (x : Tx) : putL (toSet l) x = toSet (l ++ [x]) := set_ext (toSet_set _) (toSet_set _) fun y => by
  unfold putL; simp only [toSet_mem, List.mem_append]
theorem toSet_take (l : List Tx) (k : Nat) (hk : k < l.length) : putL (toSet (l.take k)) l[k] = toSet (l.take (k + 1)) := by
  rw [putL_toSet, ← List.take_succ_eq_append_getElem hk]
theorem joinL_take (a l : List Tx) (k : Nat) (hk : k < l.length) : putL (joinL a (l.take k)) l[k] = joinL a (l.take (k + 1)) := by
  unfold joinL; rw [putL_toSet, List.append_assoc, ← List.take_succ_eq_append_getElem hk]
theorem meetL_yes (l b : List Tx) (k : Nat) (hk : k < l.length) (h : l[k] ∈ b) : putL (meetL (l.take k) b) l[k] = meetL (l.take (k + 1)) b := by
  unfold meetL; rw [putL_toSet, List.take_succ_eq_append_getElem hk, List.filter_append]
  simp [h]
theorem meetL_no (l b : List Tx) (k : Nat) (hk : k < l.length) (h : l[k] ∉ b) : meetL (l.take k) b = meetL (l.take (k + 1)) b := by
  unfold meetL; rw [List.take_succ_eq_append_getElem hk, List.filter_append]
  simp [h]
theorem toSet_nil : toSet [] = [] := List.eq_nil_of_length_eq_zero (Nat.le_zero.1 (toSet_len []))
theorem setT_own {base : Nat} {w w' : World} {v : Value} {l : List Tx} (h : w'.ownsRow base 9 1 v l.length (svt l)) : ∃ ao c, v = .slice ao l.length c := by
  obtain ⟨ao, c, h, _⟩ := owns_valPK h; exact ⟨ao, c, h⟩

set_option maxHeartbeats 1000000 in
theorem refMake_any (v : Value) (l : List Tx) (B : Nat) (w : World) (hB : B ≤ w.heap.size) (r : Row w B 1 v l.length (svt l)) (hl : l.length ≤ 1000) :
    Calls Try.prog 70 #[v] w (OwnT w (toSet l)) := by
  obtain ⟨ao, c, rfl, hc1, hc2⟩ := r.val
  have hl63 : l.length ≤ 9223372036854775807 := by unfold maxLen at hc2; omega
  have R := Lib.hid r
  clear r
  have hown0 := World.ownsRow_made (base := w.heap.size) (e := 9) (size := 1) w #[] 0 (Nat.le_refl _) (Nat.zero_le _) rfl
  go_enter Try.func70, Try.ntmps70
  go_wp2_with fail
  go_loopw [3, 4] (fun o i wr => ∃ k : Nat, k ≤ l.length ∧ i = .int .i64 k ∧ wr.ownsRow w.heap.size 9 1 o (toSet (l.take k)).length (svt (toSet (l.take k))) ∧ Below w.heap.size w wr) (fun _ i _ => l.length - (intOf i).toNat)
  case atStart => exact ⟨0, Nat.zero_le _, rfl, by rw [List.take_zero, toSet_nil]; exact hown0, (Below.refl _ w).alloc (Nat.le_refl _) _⟩
  case round =>
    obtain ⟨k, hk, rfl, hown, hbel⟩ := hrel
    have Hown := Lib.hid hown
    by_cases hlt : k < l.length
    · have a1 := R.out.below (hbel.mono hB)
      obtain ⟨b1, o1, rfl, hb1, _⟩ := a1.at (by rw [svt_length]; omega)
      have c10 := a1.cell k _ (svt_at l k hlt)
      have hk0 : (k : Int) < (l.length : Int) := by omega
      have hk1 : (0 : Int) ≤ (k : Int) := by omega
      have hlen := toSet_len (l.take k)
      rw [List.length_take] at hlen
      have Hput := Lib.hid (refPut_any _ (toSet (l.take k)) l[k] w.heap.size wr hbel.size hown (toSet_set _) (by omega) _ rfl)
      have Hst := Lib.hid (toSet_take l k hlt)
      have Hbel := Lib.hid hbel
      clear a1 hown
      generalize l[k] = x at *
      go_wp2_with fail
      refine (Hput.out).mono ?_
      rintro e w2 ⟨v2, rfl, hown2, hb2⟩
      go_wp2_with fail
      go_roundw
      case rel => exact ⟨k + 1, hlt, by go_num, by have h := hown2; rw [Hst.out] at h; exact h, Hbel.out.trans hb2⟩
      case measure => simp [intOf]; omega
    · obtain rfl : k = l.length := by omega
      rw [List.take_length] at Hown
      clear hown
      go_wp2_with fail
      go_ret
      exact ⟨_, rfl, Hown.out, hbel⟩

set_option maxHeartbeats 1000000 in
theorem refJoin_any (v1 v2 : Value) (a l : List Tx) (B1 B2 : Nat) (w : World) (hB1 : B1 ≤ w.heap.size) (hB2 : B2 ≤ w.heap.size) (r1 : Row w B1 1 v1 a.length (svt a)) (r2 : Row w B2 1 v2 l.length (svt l)) (ha : a.length ≤ 1000) (hl : l.length ≤ 1000) :
    Calls Try.prog 43 #[v1, v2] w (OwnT w (joinL a l)) := by
  obtain ⟨ao, c, rfl, hc1, hc2⟩ := r2.val
  have hl63 : l.length ≤ 9223372036854775807 := by unfold maxLen at hc2; omega
  have R := Lib.hid r2
  have Hmk := Lib.hid (refMake_any v1 a B1 w hB1 r1 ha)
  clear r1 r2
  go_enter Try.func43, Try.ntmps43
  go_wp2_with fail
  refine (Hmk.out).mono ?_
  rintro e w1 ⟨vo, rfl, hown0, hb0⟩
  have Hown0 := Lib.hid hown0
  have Hb0 := Lib.hid hb0
  clear hown0 hb0
  go_wp2_with fail
  go_loopw [5, 6] (fun o i wr => ∃ k : Nat, k ≤ l.length ∧ i = .int .i64 k ∧ wr.ownsRow w.heap.size 9 1 o (joinL a (l.take k)).length (svt (joinL a (l.take k))) ∧ Below w.heap.size w wr) (fun _ i _ => l.length - (intOf i).toNat)
  case atStart => exact ⟨0, Nat.zero_le _, rfl, by rw [List.take_zero]; unfold joinL; rw [List.append_nil]; exact Hown0.out, Hb0.out⟩
  case round =>
    obtain ⟨k, hk, rfl, hown, hbel⟩ := hrel
    have Hown := Lib.hid hown
    by_cases hlt : k < l.length
    · have a1 := R.out.below (hbel.mono hB2)
      obtain ⟨b1, o1, rfl, hb1, _⟩ := a1.at (by rw [svt_length]; omega)
      have c10 := a1.cell k _ (svt_at l k hlt)
      have hk0 : (k : Int) < (l.length : Int) := by omega
      have hk1 : (0 : Int) ≤ (k : Int) := by omega
      have hlen := toSet_len (a ++ l.take k)
      rw [List.length_append, List.length_take] at hlen
      have Hput := Lib.hid (refPut_any _ (joinL a (l.take k)) l[k] w.heap.size wr hbel.size hown (toSet_set _) (by unfold joinL; omega) _ rfl)
      have Hst := Lib.hid (joinL_take a l k hlt)
      have Hbel := Lib.hid hbel
      clear a1 hown
      generalize l[k] = x at *
      go_wp2_with fail
      refine (Hput.out).mono ?_
      rintro e w2 ⟨v2, rfl, hown2, hb2⟩
      go_wp2_with fail
      go_roundw
      case rel => exact ⟨k + 1, hlt, by go_num, by have h := hown2; rw [Hst.out] at h; exact h, Hbel.out.trans hb2⟩
      case measure => simp [intOf]; omega
    · obtain rfl : k = l.length := by omega
      rw [List.take_length] at Hown
      clear hown
      go_wp2_with fail
      go_ret
      exact ⟨_, rfl, Hown.out, hbel⟩

end Go.Proofs.Ytimgnbacgdmiiaa
