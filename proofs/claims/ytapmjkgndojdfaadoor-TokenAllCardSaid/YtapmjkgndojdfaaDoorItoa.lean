/-
  Decimal numerals: the walks of gramaryebase.Itoa and of an error's text.
-/
import Derived.Test.YtapmjkgndojdfaaDoorRows
import Derived.Test.YtapmjkgndojdfaaDoorSl
import Derived.Lib.ItoaNum
import Derived.Lib.ItoaLen
import Derived.Deep.WholeRow
import Derived.Laws.Tables
import Derived.Deep.DeepCutAuto
namespace Go.Proofs.YtapmjkgndojdfaaDoor
open Go.RowKit
set_option linter.unusedVariables false

/-- The last digit of a number, as a byte. -/
def dig (x : Nat) : UInt8 := UInt8.ofNat (48 + x % 10)
theorem dig_nat (x : Nat) : ((dig x).toNat : Int) = 48 + (x : Int) % 10 := by
  unfold dig; rw [UInt8.toNat_ofNat']; omega
theorem dec_small (x : Nat) (h : x < 10) : Lib.decDigits x = [dig x] := by
  rw [Lib.decDigits_one h]; unfold dig; rw [Nat.mod_eq_of_lt h]
theorem dec_big (x : Nat) (h : ¬ x < 10) : Lib.decDigits x = Lib.decDigits (x / 10) ++ [dig x] := by
  rw [Lib.decDigits, dif_neg h]; rfl
theorem dec_pos (x : Nat) : 1 ≤ (Lib.decDigits x).length := by rw [Lib.decDigits_length]; exact Lib.nDigits_pos x
theorem dec_len (x : Nat) (h : x < 18446744073709551616) : (Lib.decDigits x).length ≤ 20 := by rw [Lib.decDigits_length]; exact Lib.nDigits_le20 x h

/-- What is left of a number while its digits are taken off its end. -/
def Left (n x : Nat) (tail : List UInt8) : Prop := (x ≠ 0 ∧ Lib.decDigits n = Lib.decDigits x ++ tail) ∨ (x = 0 ∧ tail = Lib.decDigits n)
theorem Left.step {n x tail} (h : x ≠ 0 ∧ Lib.decDigits n = Lib.decDigits x ++ tail) : Left n (x / 10) (dig x :: tail) := by
  by_cases hx : x < 10
  · right
    refine ⟨by omega, ?_⟩
    rw [h.2, dec_small x hx]; rfl
  · left
    refine ⟨by omega, ?_⟩
    rw [h.2, dec_big x hx, List.append_assoc]; rfl
theorem Left.first (n : Nat) : Left n (n / 10) [dig n] := by
  by_cases hx : n < 10
  · right; exact ⟨by omega, by rw [dec_small n hx]⟩
  · left; exact ⟨by omega, dec_big n hx⟩

/-- One new byte, as a row of bytes. -/
theorem row_byte (w : World) (b : UInt8) (e : TypeId) : Row (w.alloc (.cells #[.int .u8 (b.toNat : Int)] e)) (w.heap.size + 1) 1 (.slice (some ⟨w.heap.size, 0, none⟩) 1 1) [b].length (bys [b]) := by
  refine ⟨rfl, by simp [maxLen], .inr ⟨_, 1, rfl, Nat.le_refl _, by decide, .inr (Nat.lt_succ_self _), fun j x hx => ?_⟩⟩
  match j, hx with
  | 0, hx => simp [bys] at hx; subst hx; simp [Addr.add]
theorem strEq {a b : ByteArray} (h : a.data.toList = b.data.toList) : a = b := by
  cases a; cases b; simp at h; rw [h]
theorem retStr {a b : ByteArray} (h : a.data.toList = b.data.toList) : Ending.returned (.string a) = .returned (.string b) := by rw [strEq h]
theorem strCat (a b : List UInt8) : (⟨a.toArray⟩ : ByteArray) ++ ⟨b.toArray⟩ = ⟨(a ++ b).toArray⟩ := by
  apply strEq
  rw [ByteArray.data_append]; simp
/-- A number's digits, as a text. -/
def decS (n : Nat) : ByteArray := ⟨(Lib.decDigits n).toArray⟩

set_option maxRecDepth 100000 in
set_option maxHeartbeats 400000 in
theorem baseItoa_any (n : Nat) (w : World) (hn : n ≤ 9223372036854775807) :
    Calls Tryd.prog 30 #[.int .i64 n] w fun e w' => e = .returned (.string (decS n)) ∧ Below w.heap.size w w' := by
  by_cases h0 : n = 0
  · subst h0
    go_enter Tryd.func30, Tryd.ntmps30
    go_wp2
    go_ret
    exact ⟨retStr (by unfold decS; rw [dec_small 0 (by decide)]; rfl), Below.refl _ _⟩
  · have hne : ((n : Int) == 0) = false := by simp; omega
    have hlen := dec_len n (by omega)
    go_enter Tryd.func30, Tryd.ntmps30
    go_wp2_with fail
    go_loopw [3, 4, 5] (fun s x d wr => ∃ (m : Nat) (tail : List UInt8), m ≤ n ∧ x = .int .i64 m ∧ s = .string ⟨tail.toArray⟩ ∧ Left n m tail ∧ Below w.heap.size w wr) (fun _ x _ _ => (intOf x).toNat)
    case atStart => exact ⟨n, [], Nat.le_refl _, rfl, rfl, .inl ⟨h0, by simp⟩, Below.refl _ _⟩
    case round =>
      obtain ⟨m, tail, hm, rfl, rfl, hleft, hbel⟩ := hrel
      have hsz := hbel.size
      rcases hleft with ⟨hm0, ht⟩ | ⟨hm0, ht⟩
      · have htl : tail.length ≤ 19 := by
          have := dec_pos m; have h2 := congrArg List.length ht; rw [List.length_append] at h2; omega
        have Hstep := Lib.hid (Left.step ⟨hm0, ht⟩)
        have hmne : ((m : Int) != 0) = true := by simp; omega
        have hrow := row_byte wr (dig m) 5
        have hdn := dig_nat m
        rw [hdn] at hrow
        have hcv := run_bytes_row (P := Tryd.prog) (src := 51) (dst := 9) (l := [dig m]) Tryd.underlying51 Tryd.underlying5 Tryd.underlying9 hrow
        have hcat := strCat [dig m] tail
        have Ht := Lib.hid ht
        have hmp : 0 < m := by omega
        clear ht hrow hdn hm0
        go_wp2
        go_roundw
        case rel => exact ⟨m / 10, dig m :: tail, by omega, by go_num, rfl, Hstep.out, hbel.alloc hsz _⟩
        case measure => simp [intOf]; omega
      · subst hm0
        have Ht := Lib.hid ht; clear ht
        have hn0 : ¬ (n : Int) < 0 := by omega
        go_wp2
        go_ret
        exact ⟨retStr (by unfold decS; rw [Ht.out]), hbel⟩

/-- Twenty bytes, of which the last are these. -/
def half20 (tail : List UInt8) : List Value := List.replicate (20 - tail.length) (.int .u8 0) ++ bys tail
/-- What an error is told as. -/
def errS (n : Nat) : ByteArray := ⟨([101, 114, 114, 111, 114, 32] ++ Lib.decDigits n).toArray⟩

end Go.Proofs.YtapmjkgndojdfaaDoor
