/-
  The walks of tuple.Cat and of the document's answer.
-/
import Derived.Test.YtimgnbacgdmiiaaBase
namespace Go.Proofs.Ytimgnbacgdmiiaa
open Go.RowKit

def catB (a b : ByteArray) (k : Int) : ByteArray := ⟨((a.data.toList ++ b.data.toList).take k.toNat).toArray⟩

theorem blen (a : ByteArray) : a.data.toList.length = a.size := by rw [Array.length_toList]; rfl
theorem bext {a b : ByteArray} (h : a.data.toList = b.data.toList) : a = b := by
  cases a; cases b; simp at h; rw [h]
theorem blist (l : List UInt8) : ByteArray.data ⟨l.toArray⟩ = l.toArray := rfl
theorem bext0 (a : ByteArray) (n : Nat) : (a.extract 0 n).data.toList = a.data.toList.take n := by simp
theorem catB_list (a b : ByteArray) (k : Int) : (catB a b k).data.toList = a.data.toList.take k.toNat ++ b.data.toList.take (k.toNat - a.size) := by
  unfold catB; rw [blist, ← blen, List.take_append]
theorem catB_size (a b : ByteArray) (k : Int) : (catB a b k).size = min k.toNat (a.size + b.size) := by
  rw [← blen, catB_list, List.length_append, List.length_take, List.length_take, blen, blen]; omega
theorem catB_neg (a b : ByteArray) (k : Int) (h : k ≤ 0) : ByteArray.empty = catB a b k := by
  refine bext ?_
  rw [catB_list, show k.toNat = 0 from by omega]; simp
theorem catB_one (a b : ByteArray) (n : Nat) (h : n ≤ a.size) : a.extract 0 n = catB a b n := by
  refine bext ?_
  rw [catB_list, bext0, Int.toNat_natCast, show n - a.size = 0 from by omega]; simp
theorem catB_two (a b : ByteArray) (n : Nat) (h : a.size ≤ n) : a ++ b.extract 0 (n - a.size) = catB a b n := by
  refine bext ?_
  rw [catB_list, ByteArray.data_append, Array.toList_append, bext0, Int.toNat_natCast, List.take_of_length_le (l := a.data.toList) (by rw [blen]; exact h)]
theorem catB_all (a b : ByteArray) (n : Nat) (h : a.size + b.size ≤ n) : a ++ b = catB a b n := by
  refine bext ?_
  rw [catB_list, ByteArray.data_append, Array.toList_append, Int.toNat_natCast, List.take_of_length_le (by rw [blen]; omega), List.take_of_length_le (by rw [blen]; omega)]
theorem catB_cut (a b : ByteArray) (n : Nat) : (a ++ b).extract 0 n = catB a b n := by
  refine bext ?_
  rw [catB_list, bext0, ByteArray.data_append, Array.toList_append, List.take_append, Int.toNat_natCast, blen]
/-- How three are put together counts nothing. -/
theorem catB_assoc (a b c : ByteArray) (k : Nat) : catB (catB a b k) c k = catB a (catB b c k) k := by
  refine bext ?_
  rw [catB_list, catB_list, catB_list, catB_list, catB_size]
  simp only [Int.toNat_natCast, List.take_append, List.take_take, List.length_take, blen]
  rw [List.append_assoc]
  congr 1
  · congr 1; omega
  · congr 1
    · congr 1; omega
    · congr 1; omega
theorem ret_str {a b : ByteArray} (h : a = b) : Ending.returned (.string a) = .returned (.string b) := by rw [h]

set_option maxHeartbeats 400000 in
theorem tupleCat_any (a b : ByteArray) (k : Int) (w : World) (ha : a.size ≤ 140737488355328) (hb : b.size ≤ 140737488355328) (hk : -9223372036854775808 ≤ k ∧ k ≤ 9223372036854775807) :
    Calls Try.prog 92 #[.string a, .string b, .int .i64 k] w fun e w' => e = .returned (.string (catB a b k)) ∧ w' = w := by
  by_cases h0 : 0 ≤ k
  · obtain ⟨n, rfl⟩ := Int.eq_ofNat_of_zero_le h0
    by_cases h1 : n ≤ a.size
    · go_enter Try.func92, Try.ntmps92
      go_wp2
      go_ret
      exact ⟨ret_str (catB_one a b n h1), rfl⟩
    · go_enter Try.func92, Try.ntmps92
      go_wp2
      · go_ret
        exact ⟨ret_str (catB_two a b n (by omega)), rfl⟩
      · go_ret
        exact ⟨ret_str (catB_all a b n (by omega)), rfl⟩
  · have h1 : k < 0 := by omega
    have h2 : (a.size : Int) ≥ 0 := by omega
    go_enter Try.func92, Try.ntmps92
    go_wp2
    go_ret
    exact ⟨ret_str (by rw [← catB_neg a b k (by omega)]), rfl⟩

set_option maxHeartbeats 400000 in
theorem refCat_any (a b : ByteArray) (k : Int) (w : World) (ha : a.size ≤ 140737488355328) (hb : b.size ≤ 140737488355328) (hk : -9223372036854775808 ≤ k ∧ k ≤ 9223372036854775807) :
    Calls Try.prog 68 #[.string a, .string b, .int .i64 k] w fun e w' => e = .returned (.string (catB a b k)) ∧ w' = w := by
  by_cases h0 : 0 ≤ k
  · obtain ⟨n, rfl⟩ := Int.eq_ofNat_of_zero_le h0
    by_cases h1 : n < a.size + b.size
    · go_enter Try.func68, Try.ntmps68
      go_wp2
      go_ret
      exact ⟨ret_str (catB_cut a b n), rfl⟩
    · go_enter Try.func68, Try.ntmps68
      go_wp2
      go_ret
      exact ⟨ret_str ((bext (by rw [bext0, List.take_of_length_le (by rw [blen, ByteArray.size_append]; omega)])).trans (catB_all a b n (by omega))), rfl⟩
  · have h1 : k < 0 := by omega
    go_enter Try.func68, Try.ntmps68
    go_wp2
    go_ret
    exact ⟨ret_str (by rw [← catB_neg a b k (by omega)]), rfl⟩
end Go.Proofs.Ytimgnbacgdmiiaa
