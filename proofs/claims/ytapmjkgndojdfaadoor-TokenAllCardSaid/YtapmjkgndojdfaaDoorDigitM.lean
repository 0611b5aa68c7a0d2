/-
  Plain: numerals and their numbers.
-/
import Derived.Test.YtapmjkgndojdfaaDoorItoa
namespace Go.Proofs.YtapmjkgndojdfaaDoor
set_option linter.unusedVariables false

/-- A digit. -/
def IsDig (b : UInt8) : Prop := 48 ≤ b.toNat ∧ b.toNat ≤ 57
/-- The number of a row of digits. -/
def val (l : List UInt8) : Nat := l.foldl (fun n b => n * 10 + (b.toNat - 48)) 0
theorem val_snoc (l : List UInt8) (b : UInt8) : val (l ++ [b]) = val l * 10 + (b.toNat - 48) := by simp [val]
theorem val_le (l m : List UInt8) : val l ≤ val (l ++ m) := by
  induction m generalizing l with
  | nil => simp
  | cons b m ih =>
    have h1 := ih (l ++ [b])
    rw [val_snoc, List.append_assoc] at h1
    have h2 : l ++ ([b] ++ m) = l ++ b :: m := rfl
    rw [h2] at h1; omega
theorem dig_isDig (x : Nat) : IsDig (dig x) ∧ (dig x).toNat - 48 = x % 10 := by
  have := dig_nat x; unfold IsDig; omega
theorem dec_ind {P : Nat → Prop} (h0 : ∀ x, x < 10 → P x) (h1 : ∀ x, ¬ x < 10 → P (x / 10) → P x) (n : Nat) : P n := by
  induction n using Nat.strongRecOn with
  | _ n ih =>
    by_cases h : n < 10
    · exact h0 n h
    · exact h1 n h (ih (n / 10) (by omega))
theorem val_dec (n : Nat) : val (Lib.decDigits n) = n := by
  induction n using dec_ind with
  | h0 x h => rw [dec_small x h]; have := (dig_isDig x).2; simp [val]; omega
  | h1 x h ih => rw [dec_big x h, val_snoc, ih, (dig_isDig x).2]; omega
theorem dec_all (n : Nat) : ∀ b ∈ Lib.decDigits n, IsDig b := by
  induction n using dec_ind with
  | h0 x h => rw [dec_small x h]; intro b hb; simp at hb; subst hb; exact (dig_isDig x).1
  | h1 x h ih =>
    rw [dec_big x h]; intro b hb
    rcases List.mem_append.1 hb with hb | hb
    · exact ih b hb
    · simp at hb; subst hb; exact (dig_isDig x).1
theorem dec_ne (n : Nat) : Lib.decDigits n ≠ [] := by
  intro h; have := dec_pos n; rw [h] at this; simp at this
theorem dec_head (n : Nat) (hn : 1 ≤ n) : ∀ b, (Lib.decDigits n)[0]? = some b → b.toNat ≠ 48 := by
  induction n using dec_ind with
  | h0 x h => rw [dec_small x h]; intro b hb; simp at hb; subst hb; have := (dig_isDig x); unfold IsDig at this; omega
  | h1 x h ih =>
    rw [dec_big x h]; intro b hb
    rw [List.getElem?_append_left (by have := dec_pos (x / 10); omega)] at hb
    exact ih (by omega) b hb
theorem dec_len10 (k : Nat) (n : Nat) (hk : 1 ≤ k) (h : n < 10 ^ k) : (Lib.decDigits n).length ≤ k := by
  induction k generalizing n with
  | zero => omega
  | succ k ih =>
    by_cases h10 : n < 10
    · rw [dec_small n h10]; simp
    · rw [dec_big n h10, List.length_append]
      have hk0 : 1 ≤ k := by
        rcases Nat.eq_zero_or_pos k with h0 | h0
        · subst h0; simp at h; omega
        · exact h0
      have := ih (n / 10) hk0 (by rw [Nat.pow_succ] at h; omega)
      simp; omega
/-- Digits without a needless 0 ahead are their number's numeral. -/
theorem dec_val (l : List UInt8) (hd : ∀ b ∈ l, IsDig b) (hne : l ≠ []) (hz : 1 < l.length → ∀ b, l[0]? = some b → b.toNat ≠ 48) : Lib.decDigits (val l) = l := by
  obtain ⟨n, hn⟩ : ∃ n, n = l.length := ⟨_, rfl⟩
  induction n generalizing l with
  | zero => exact absurd (List.length_eq_zero_iff.1 hn.symm) hne
  | succ n ih =>
    have hsplit : l.dropLast ++ [l.getLast hne] = l := List.dropLast_concat_getLast hne
    generalize l.dropLast = m at hsplit
    generalize l.getLast hne = b at hsplit
    subst hsplit
    have hb : IsDig b := hd b (by simp)
    have hbd : dig (b.toNat - 48) = b := by
      apply UInt8.toNat_inj.1
      have := dig_nat (b.toNat - 48); unfold IsDig at hb; omega
    rw [val_snoc]
    by_cases hm : m = []
    · subst hm
      unfold IsDig at hb
      rw [show val [] * 10 + (b.toNat - 48) = b.toNat - 48 from by simp [val], dec_small _ (by omega), hbd]; rfl
    · have hml : 1 ≤ m.length := by
        rcases Nat.eq_zero_or_pos m.length with h | h
        · exact absurd (List.length_eq_zero_iff.1 h) hm
        · exact h
      have hz' := hz (by simp; omega)
      have him := ih m (fun x hx => hd x (by simp [hx])) hm (fun hl x hx => hz' x (by rw [List.getElem?_append_left (by omega)]; exact hx)) (by simp at hn; omega)
      have hpos : 1 ≤ val m := by
        rcases Nat.eq_zero_or_pos (val m) with h | h
        · exfalso
          rw [h, dec_small 0 (by decide)] at him
          have := hz' (dig 0) (by rw [← him]; rfl)
          exact this (by decide)
        · exact h
      unfold IsDig at hb
      rw [dec_big _ (by omega), show (val m * 10 + (b.toNat - 48)) / 10 = val m from by omega, him]
      have he : dig (val m * 10 + (b.toNat - 48)) = dig (b.toNat - 48) := by
        unfold dig; rw [show (val m * 10 + (b.toNat - 48)) % 10 = (b.toNat - 48) % 10 from by omega]
      rw [he, hbd]

/-- What is printed of a number: itself, or the nearer end. -/
def clamp (n : Int) : Nat := if n < 0 then 0 else if 2147483647 < n then 2147483647 else n.toNat
theorem clamp_le (n : Int) : clamp n ≤ 2147483647 := by unfold clamp; split <;> (try split) <;> omega
theorem clamp_nat (n : Nat) (h : n ≤ 2147483647) : clamp n = n := by unfold clamp; rw [if_neg (by omega), if_neg (by omega)]; rfl
/-- How wide something is padded. -/
def wide (w : Int) : Nat := if w < 0 then 0 else if 100 < w then 100 else w.toNat
theorem wide_le (w : Int) : wide w ≤ 100 := by unfold wide; split <;> (try split) <;> omega
/-- A number's digits with blanks ahead. -/
def padS (n w : Int) : ByteArray := ⟨(List.replicate (wide w - (Lib.decDigits (clamp n)).length) 32 ++ Lib.decDigits (clamp n)).toArray⟩
end Go.Proofs.YtapmjkgndojdfaaDoor
