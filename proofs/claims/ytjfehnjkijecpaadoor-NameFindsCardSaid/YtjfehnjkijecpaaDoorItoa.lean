/-
  Decimal numerals: the walks of gramaryebase.Itoa and of an error's text.
-/
import Derived.Test.YtjfehnjkijecpaaDoorRows
import Derived.Test.YtjfehnjkijecpaaDoorSl
import Derived.Lib.ItoaNum
import Derived.Lib.ItoaLen
import Derived.Deep.WholeRow
import Derived.Laws.Tables
import Derived.Deep.DeepCutAuto
namespace Go.Proofs.YtjfehnjkijecpaaDoor
open Go.RowKit
set_option linter.unusedVariables false

/-- The last digit of a number, as a byte. -/
def dig (x : Nat) : UInt8 := UInt8.ofNat (48 + x % 10)
theorem dig_nat (x : Nat) : ((dig x).toNat : Int) = 48 + (x : Int) % 10 := by
  unfold dig; rw [UInt8.toNat_ofNat']; omega
theorem dec_small (x : Nat) (h : x < 10) : Lib.decDigits x = [dig x] := by
  rw [Lib.decDigits_one h]; unfold dig; rw [Nat.mod_eq_of_lt h]
theorem dec_big (x : Nat) (h : ¬ x < 10) : Lib.decDigits x = Lib.decDigits (x / 10) ++ [dig x] := by
  rw [Lib.decDigits, dif_neg h]; rfl
theorem dec_pos (x : Nat) : 1 ≤ (Lib.decDigits x).length := by rw [Lib.decDigits_length]; exact Lib.nDigits_pos x
theorem dec_len (x : Nat) (h : x < 18446744073709551616) : (Lib.decDigits x).length ≤ 20 := by rw [Lib.decDigits_length]; exact Lib.nDigits_le20 x h

/-- What is left of a number while its digits are taken off its end. -/
def Left (n x : Nat) (tail : List UInt8) : Prop := (x ≠ 0 ∧ Lib.decDigits n = Lib.decDigits x ++ tail) ∨ (x = 0 ∧ tail = Lib.decDigits n)
theorem Left.step {n x tail} (h : x ≠ 0 ∧ Lib.decDigits n = Lib.decDigits x ++ tail) : Left n (x / 10) (dig x :: tail) := by
  by_cases hx : x < 10
  · right
    refine ⟨by omega, ?_⟩
    rw [h.2, dec_small x hx]; rfl
  · left
    refine ⟨by omega, ?_⟩
    rw [h.2, dec_big x hx, List.append_assoc]; rfl
theorem Left.first (n : Nat) : Left n (n / 10) [dig n] := by
  by_cases hx : n < 10
  · right; exact ⟨by omega, by rw [dec_small n hx]⟩
  · left; exact ⟨by omega, dec_big n hx⟩

/-- One new byte, as a row of bytes. -/
theorem row_byte (w : World) (b : UInt8) (e : TypeId) : Row (w.alloc (.cells #[.int .u8 (b.toNat : Int)] e)) (w.heap.size + 1) 1 (.slice (some ⟨w.heap.size, 0, none⟩) 1 1) [b].length (bys [b]) := by
  refine ⟨rfl, by simp [maxLen], .inr ⟨_, 1, rfl, Nat.le_refl _, by decide, .inr (Nat.lt_succ_self _), fun j x hx => ?_⟩⟩
  match j, hx with
  | 0, hx => simp [bys] at hx; subst hx; simp [Addr.add]
theorem strEq {a b : ByteArray} (h : a.data.toList = b.data.toList) : a = b := by
  cases a; cases b; simp at h; rw [h]
theorem retStr {a b : ByteArray} (h : a.data.toList = b.data.toList) : Ending.returned (.string a) = .returned (.string b) := by rw [strEq h]
theorem strCat (a b : List UInt8) : (⟨a.toArray⟩ : ByteArray) ++ ⟨b.toArray⟩ = ⟨(a ++ b).toArray⟩ := by
  apply strEq
  rw [ByteArray.data_append]; simp
/-- A number's digits, as a text. -/
def decS (n : Nat) : ByteArray := ⟨(Lib.decDigits n).toArray⟩

set_option maxHeartbeats 400000 in
theorem baseItoa_any (n : Nat) (w : World) (hn : n ≤ 9223372036854775807) :
    Calls Tryd.prog 43 #[.int .i64 n] w fun e w' => e = .returned (.string (decS n)) ∧ Below w.heap.size w w' := by
  by_cases h0 : n = 0
  · subst h0
    go_enter Tryd.func43, Tryd.ntmps43
    go_wp2
    go_ret
    exact ⟨retStr (by unfold decS; rw [dec_small 0 (by decide)]; rfl), Below.refl _ _⟩
  · have hne : ((n : Int) == 0) = false := by simp; omega
    have hlen := dec_len n (by omega)
    go_enter Tryd.func43, Tryd.ntmps43
    go_wp2_with fail
    go_loopw [3, 4, 5] (fun s x d wr => ∃ (m : Nat) (tail : List UInt8), m ≤ n ∧ x = .int .i64 m ∧ s = .string ⟨tail.toArray⟩ ∧ Left n m tail ∧ Below w.heap.size w wr) (fun _ x _ _ => (intOf x).toNat)
    case atStart => exact ⟨n, [], Nat.le_refl _, rfl, rfl, .inl ⟨h0, by simp⟩, Below.refl _ _⟩
    case round =>
      obtain ⟨m, tail, hm, rfl, rfl, hleft, hbel⟩ := hrel
      have hsz := hbel.size
      rcases hleft with ⟨hm0, ht⟩ | ⟨hm0, ht⟩
      · have htl : tail.length ≤ 19 := by
          have := dec_pos m; have h2 := congrArg List.length ht; rw [List.length_append] at h2; omega
        have Hstep := Lib.hid (Left.step ⟨hm0, ht⟩)
        have hmne : ((m : Int) != 0) = true := by simp; omega
        have hrow := row_byte wr (dig m) 5
        have hdn := dig_nat m
        rw [hdn] at hrow
        have hcv := run_bytes_row (P := Tryd.prog) (src := 62) (dst := 9) (l := [dig m]) Tryd.underlying62 Tryd.underlying5 Tryd.underlying9 hrow
        have hcat := strCat [dig m] tail
        have Ht := Lib.hid ht
        have hmp : 0 < m := by omega
        clear ht hrow hdn hm0
        go_wp2
        go_roundw
        case rel => exact ⟨m / 10, dig m :: tail, by omega, by go_num, rfl, Hstep.out, hbel.alloc hsz _⟩
        case measure => simp [intOf]; omega
      · subst hm0
        have Ht := Lib.hid ht; clear ht
        have hn0 : ¬ (n : Int) < 0 := by omega
        go_wp2
        go_ret
        exact ⟨retStr (by unfold decS; rw [Ht.out]), hbel⟩

/-- Twenty bytes, of which the last are these. -/
def half20 (tail : List UInt8) : List Value := List.replicate (20 - tail.length) (.int .u8 0) ++ bys tail
/-- What an error is told as. -/
def errS (n : Nat) : ByteArray := ⟨([101, 114, 114, 111, 114, 32] ++ Lib.decDigits n).toArray⟩

theorem size20 : (Tryd.prog.info? 61).map (·.size) = some 20 := by kernel_rfl
def z20 : Array Value := #[.int .u8 0, .int .u8 0, .int .u8 0, .int .u8 0, .int .u8 0, .int .u8 0, .int .u8 0, .int .u8 0, .int .u8 0, .int .u8 0, .int .u8 0, .int .u8 0, .int .u8 0, .int .u8 0, .int .u8 0, .int .u8 0, .int .u8 0, .int .u8 0, .int .u8 0, .int .u8 0]
theorem z20_one : z20.all (·.oneCell') = true := by kernel_rfl
theorem z20_half : z20 = (half20 []).toArray := by rfl
theorem half20_length (tail : List UInt8) (h : tail.length ≤ 20) : (half20 tail).length = 20 := by simp [half20, bys]; omega
theorem half20_set (tail : List UInt8) (b : UInt8) (h : tail.length ≤ 19) : (half20 tail).toArray.setIfInBounds (19 - tail.length) (.int .u8 (b.toNat : Int)) = (half20 (b :: tail)).toArray := by
  apply Array.toList_inj.1
  rw [Array.toList_setIfInBounds]
  unfold half20
  simp only [List.length_cons]
  rw [List.set_append, if_pos (by simp; omega)]
  obtain ⟨r, hr⟩ : ∃ r, 20 - tail.length = r + 1 := ⟨19 - tail.length, by omega⟩
  rw [hr, show 20 - (tail.length + 1) = r from by omega, show 19 - tail.length = r from by omega, List.replicate_succ']
  rw [List.set_append, if_neg (by simp)]
  simp [bys]
/-- The last bytes, as a row. -/
theorem half20_row {w : World} {g : Nat} {t : TypeId} (tail : List UInt8) (h : tail.length ≤ 20) (hg : w.heap[g]? = some (.cells (half20 tail).toArray t (0, 0))) :
    Row w (g + 1) 1 (.slice (some ⟨g, 20 - tail.length, none⟩) tail.length tail.length) tail.length (bys tail) := by
  refine ⟨by simp [bys], by unfold maxLen; omega, .inr ⟨_, tail.length, rfl, Nat.le_refl _, by unfold maxLen; omega, .inr (Nat.lt_succ_self _), fun j x hx => ?_⟩⟩
  have hadd : (⟨g, 20 - tail.length, none⟩ : Addr).add j = ⟨g, 20 - tail.length + j, none⟩ := by unfold Addr.add; split <;> simp_all
  rw [hadd, cell_of_row w g _ _ t (0, 0) hg]
  unfold half20
  rw [List.getElem?_toArray, List.getElem?_append_right (by simp)]
  simpa using hx

set_option maxHeartbeats 400000 in
theorem errText_any (n : Nat) (w : World) (hn : n ≤ 9223372036854775807) :
    Calls Tryd.prog 39 #[.int .i64 n] w fun e w' => e = .returned (.string (errS n)) ∧ Below w.heap.size w w' := by
  have hlen := dec_len n (by omega)
  go_enter Tryd.func39, Tryd.ntmps39
  go_upto_region 2 with (refine wpList_store_row rfl 61 (.tmp 3) (.tmp 7) rfl w.heap.size z20 rfl rfl 61 z20 (heap_alloc_new w _) size20 rfl z20_one ?_)
  rw [show (#[.int .u8 0, .int .u8 0, .int .u8 0, .int .u8 0, .int .u8 0, .int .u8 0, .int .u8 0, .int .u8 0, .int .u8 0, .int .u8 0, .int .u8 0, .int .u8 0, .int .u8 0, .int .u8 0, .int .u8 0, .int .u8 0, .int .u8 0, .int .u8 0, .int .u8 0, .int .u8 0] : Array Value) = z20 from rfl, World.setRow_alloc_new]
  have hh0 : (w.alloc (.cells z20 61)).heap[w.heap.size]? = some (.cells (half20 []).toArray 61 (0, 0)) := by
    rw [heap_alloc_new, z20_half]
  have hb0 : Below w.heap.size w (w.alloc (.cells z20 61)) := (Below.refl _ w).alloc (Nat.le_refl _) _
  generalize w.alloc (.cells z20 61) = w0 at *
  go_wp2
  go_loopw [4, 5, 6] (fun i x f wr => ∃ (m : Nat) (tail : List UInt8) (first : Bool), m ≤ n ∧ tail.length ≤ 20 ∧ i = .int .i64 (20 - tail.length : Nat) ∧ x = .int .i64 m ∧ f = .bool first ∧
      (first = true ∧ tail = [] ∧ m = n ∨ first = false ∧ Left n m tail) ∧ wr.heap[w.heap.size]? = some (.cells (half20 tail).toArray 61 (0, 0)) ∧ Below w.heap.size w wr) (fun _ x f _ => (intOf x).toNat + (match f with | .bool true => 1 | _ => 0))
  case atStart => exact ⟨n, [], true, Nat.le_refl _, by simp, rfl, rfl, rfl, .inl ⟨rfl, rfl, rfl⟩, hh0, hb0⟩
  case round =>
    obtain ⟨m, tail, first, hm, htl, rfl, rfl, rfl, hst, hh, hbel⟩ := hrel
    rcases hst with ⟨rfl, ht, hmn⟩ | ⟨rfl, hleft⟩
    · have Hstep := Lib.hid (show Left n (m / 10) (dig m :: tail) from by rw [ht, hmn]; exact Left.first n)
      have htl' : tail.length ≤ 19 := by rw [ht]; decide
      clear ht hmn
      have hi1 : ((20 - tail.length : Nat) : Int) - 1 = ((19 - tail.length : Nat) : Int) := by omega
      have hcell := cell_of_row wr w.heap.size (19 - tail.length) _ _ (0, 0) hh
      obtain ⟨u, hu⟩ : ∃ u, (half20 tail).toArray[19 - tail.length]? = some u := ⟨_, Array.getElem?_eq_getElem (by simp [half20_length tail (by omega)]; omega)⟩
      rw [hu] at hcell
      have hfr := frozen_of_row wr w.heap.size (19 - tail.length) _ _ hh
      have hnew := heap_setCell_same wr w.heap.size (19 - tail.length) _ _ (.int .u8 ((dig m).toNat : Int)) hh
      rw [half20_set tail (dig m) (by omega)] at hnew
      have hbn := hbel.setCell (p := ⟨w.heap.size, 19 - tail.length, none⟩) (Nat.le_refl _) (.int .u8 ((dig m).toNat : Int))
      rw [dig_nat m] at hnew hbn
      have hq0 : (0 : Int) ≤ ((19 - tail.length : Nat) : Int) := by omega
      have hq1 : ((19 - tail.length : Nat) : Int) < 20 := by omega
      have Hnew := Lib.hid hnew; have Hbn := Lib.hid hbn
      clear hu hh hnew hbn hbel
      go_wp2
      go_roundw
      case rel => exact ⟨m / 10, dig m :: tail, false, by omega, by simp; omega, by rw [List.length_cons, show 20 - (tail.length + 1) = 19 - tail.length from by omega], by go_num, rfl, .inr ⟨rfl, Hstep.out⟩, Hnew.out, Hbn.out⟩
      case measure => simp [intOf]; omega
    · rcases hleft with ⟨hm0, ht⟩ | ⟨hm0, ht⟩
      · have htl' : tail.length ≤ 19 := by
          have := dec_pos m; have h2 := congrArg List.length ht; rw [List.length_append] at h2; omega
        have Hstep := Lib.hid (Left.step ⟨hm0, ht⟩)
        have hmp : 0 < m := by omega
        clear ht hm0
        have hi1 : ((20 - tail.length : Nat) : Int) - 1 = ((19 - tail.length : Nat) : Int) := by omega
        have hcell := cell_of_row wr w.heap.size (19 - tail.length) _ _ (0, 0) hh
        obtain ⟨u, hu⟩ : ∃ u, (half20 tail).toArray[19 - tail.length]? = some u := ⟨_, Array.getElem?_eq_getElem (by simp [half20_length tail (by omega)]; omega)⟩
        rw [hu] at hcell
        have hfr := frozen_of_row wr w.heap.size (19 - tail.length) _ _ hh
        have hnew := heap_setCell_same wr w.heap.size (19 - tail.length) _ _ (.int .u8 ((dig m).toNat : Int)) hh
        rw [half20_set tail (dig m) (by omega)] at hnew
        have hbn := hbel.setCell (p := ⟨w.heap.size, 19 - tail.length, none⟩) (Nat.le_refl _) (.int .u8 ((dig m).toNat : Int))
        rw [dig_nat m] at hnew hbn
        have hq0 : (0 : Int) ≤ ((19 - tail.length : Nat) : Int) := by omega
        have hq1 : ((19 - tail.length : Nat) : Int) < 20 := by omega
        have Hnew := Lib.hid hnew; have Hbn := Lib.hid hbn
        clear hu hh hnew hbn hbel
        go_wp2
        go_roundw
        case rel => exact ⟨m / 10, dig m :: tail, false, by omega, by simp; omega, by rw [List.length_cons, show 20 - (tail.length + 1) = 19 - tail.length from by omega], by go_num, rfl, .inr ⟨rfl, Hstep.out⟩, Hnew.out, Hbn.out⟩
        case measure => simp [intOf]; omega
      · subst hm0
        have htp : 1 ≤ tail.length := by rw [ht]; exact dec_pos n
        have hrow := half20_row tail htl hh
        have hcv := run_bytes_row (P := Tryd.prog) (src := 62) (dst := 9) (l := tail) Tryd.underlying62 Tryd.underlying5 Tryd.underlying9 hrow
        have Ht := Lib.hid ht
        have hq0 : (0 : Int) ≤ ((20 - tail.length : Nat) : Int) := by omega
        have hq1 : ((20 - tail.length : Nat) : Int) ≤ 20 := by omega
        have hq2 : ((20 - tail.length : Nat) : Int) < 20 := by omega
        have hq3 : 20 - (20 - tail.length) = tail.length := by omega
        clear ht hrow hh
        go_wp2
        go_ret
        exact ⟨retStr (by unfold errS; rw [← Ht.out, ByteArray.data_append]; simp), hbel⟩
end Go.Proofs.YtjfehnjkijecpaaDoor
