/-
  Lists of texts in a world; pack.rises, made, Make, Is of texts; the base's SameTexts.
-/
import Derived.Test.YtimgnbacgdmiiaaRows
import Derived.Test.YtimgnbacgdmiiaaSlB
import Derived.Test.YtimgnbacgdmiiaaGen
import Derived.Test.YtimgnbacgdmiiaaShelf
import Derived.Test.YtimgnbacgdmiiaaPackM
import Derived.Lib.OwnBridge
import Derived.Sort.OwnSorted
import Derived.Laws.Cover1
namespace Go.Proofs.Ytimgnbacgdmiiaa
open Go.RowKit PK
set_option linter.unusedVariables false

/-- Texts as cells. -/
def svt (l : List Tx) : List Value := l.map encStr
theorem svt_length (l : List Tx) : (svt l).length = l.length := by simp [svt]
theorem svt_one (l : List Tx) : ∀ u ∈ svt l, u.oneCell' = true := by
  intro u hu; obtain ⟨b, _, rfl⟩ := List.mem_map.1 hu; rfl
theorem svt_at (l : List Tx) (j : Nat) (hj : j < l.length) : (svt l)[j]? = some (.string ⟨l[j].toArray⟩) := by simp [svt, hj]
theorem svt_append (a b : List Tx) : svt (a ++ b) = svt a ++ svt b := by simp [svt]
theorem svt_take (l : List Tx) (k : Nat) : (svt l).take k = svt (l.take k) := by simp [svt, List.map_take]
theorem svt_drop (l : List Tx) (k : Nat) : (svt l).drop k = svt (l.drop k) := by simp [svt, List.map_drop]
theorem tx_list (x : Tx) : (ByteArray.mk x.toArray).toList = x := by rw [Lib.toList_data]
theorem tx_less (x y : Tx) : Op.bytesLess (ByteArray.mk x.toArray).toList (ByteArray.mk y.toArray).toList = decide (x < y) := by rw [bytesLess_eq, tx_list, tx_list]
theorem tx_beq (x y : Tx) : ((ByteArray.mk x.toArray).toList == (ByteArray.mk y.toArray).toList) = (x == y) := by rw [tx_list, tx_list]
theorem tx_size (x : Tx) : (ByteArray.mk x.toArray).size = x.length := by show x.toArray.size = _; simp
theorem info_str : (Try.prog.info? 9).map (fun i => (i.zero, i.size, i.bytes)) = some (some (.string ByteArray.empty), 1, 16) := by kernel_rfl
/-- A row of texts of its own, made by a call that began in w. -/
def OwnT (w : World) (l : List Tx) (en : Ending) (w' : World) : Prop := ∃ v, en = .returned v ∧ w'.ownsRow w.heap.size 9 1 v l.length (svt l) ∧ Below w.heap.size w w'
instance (l : List Tx) : Decidable (IsSet l) := inferInstanceAs (Decidable (l.Pairwise (· < ·)))
theorem isSet_chain (l : List Tx) (h : ∀ j (h1 : j + 1 < l.length), l[j] < l[j + 1]) : IsSet l := by
  unfold IsSet
  rw [List.pairwise_iff_getElem]
  intro i j hi hj hij
  induction j with
  | zero => omega
  | succ j ih =>
    rcases Nat.lt_or_ge i j with h1 | h1
    · exact tx_trans (ih (by omega) h1) (h j hj)
    · obtain rfl : i = j := by omega
      exact h i hj
theorem isSet_not (l : List Tx) (j : Nat) (h1 : j + 1 < l.length) (h : ¬ l[j] < l[j + 1]) : ¬ IsSet l := fun hs => h ((List.pairwise_iff_getElem.1 hs) j (j + 1) (by omega) h1 (by omega))

set_option maxHeartbeats 1000000 in
theorem rises_any (v : Value) (l : List Tx) (B : Nat) (w : World) (hB : B ≤ w.heap.size) (r : Row w B 1 v l.length (svt l)) :
    Calls Try.prog 106 #[v] w (BoolB w (decide (IsSet l))) := by
  obtain ⟨ao, c, rfl, hc1, hc2⟩ := r.val
  have hl63 : l.length ≤ 9223372036854775807 := by unfold maxLen at hc2; omega
  have R := Lib.hid r
  clear r
  go_enter Try.func106, Try.ntmps106
  go_wp2_with fail
  go_loopw [3] (fun i wr => ∃ k : Nat, k ≤ l.length + 1 ∧ 1 ≤ k ∧ i = .int .i64 k ∧ Below w.heap.size w wr ∧ (∀ j (h1 : j + 1 < l.length), j + 1 < k → l[j] < l[j + 1])) (fun i _ => l.length + 1 - (intOf i).toNat)
  case atStart => exact ⟨1, by omega, by omega, rfl, Below.refl _ _, fun j _ h => by omega⟩
  case round =>
    obtain ⟨k, hk, hk1, rfl, hbel, hall⟩ := hrel
    have Hall := Lib.hid hall; clear hall
    by_cases hlt : k < l.length
    · have a1 := R.out.below (hbel.mono hB)
      obtain ⟨b1, o1, rfl, hb1, _⟩ := a1.at (by rw [svt_length]; omega)
      obtain ⟨m, rfl⟩ : ∃ m, k = m + 1 := ⟨k - 1, by omega⟩
      have c10 := a1.cell m _ (svt_at l m (by omega))
      have c11 := a1.cell (m + 1) _ (svt_at l (m + 1) hlt)
      have hk0 : ((m + 1 : Nat) : Int) < (l.length : Int) := by omega
      have hk2 : (((m + 1 : Nat) : Int) - 1) = (m : Int) := by omega
      have hk3 : (m : Int) < (l.length : Int) := by omega
      have hm0 : (0 : Int) ≤ (m : Int) := by omega
      have Hno := Lib.hid (isSet_not l m hlt)
      have Hst := Lib.hid (fun (h : l[m] < l[m + 1]) j (h1 : j + 1 < l.length) (h2 : j + 1 < m + 1 + 1) => if e : j + 1 = m + 1 then (by obtain rfl : j = m := by omega
                                                                                                                                         exact h) else Hall.out j h1 (by omega))
      clear a1
      have hless := bytesLess_eq l[m] l[m + 1]
      generalize l[m] = x at *
      generalize l[m + 1] = y at *
      by_cases hxy : x < y
      · rw [decide_eq_true hxy] at hless
        replace Hst := Lib.hid (Hst.out hxy)
        clear hxy Hno Hall
        go_wp2_with fail
        go_region
        all_goals
          go_wp2_with fail
          go_roundw
          case rel => exact ⟨m + 1 + 1, by omega, by omega, by go_num, by first | exact hbel.drew | exact hbel, Hst.out⟩
          case measure => simp [intOf]; omega
      · rw [decide_eq_false hxy] at hless
        replace Hno := Lib.hid (Hno.out hxy)
        clear hxy Hst Hall
        go_wp2_with fail
        go_region
        all_goals
          go_wp2_with fail
          go_ret
          exact ⟨ret_boolP (decide_eq_false Hno.out).symm, by first | exact hbel.drew | exact hbel⟩
    · have hs := Lib.hid (isSet_chain l fun j h1 => Hall.out j h1 (by omega))
      have hge : (l.length : Int) ≤ (k : Int) := by omega
      go_wp2_with fail
      go_ret
      exact ⟨ret_boolP (decide_eq_true hs.out).symm, hbel⟩
end Go.Proofs.Ytimgnbacgdmiiaa
