/-
  PLAIN: places in a text, as functions on a list of bytes. No program is named here.
-/
import Init
namespace Go.Proofs.YtjfehnjkijecpaaDoor.PlaceM

/-- The last line feed ahead of n; -1, if there is none. -/
def fa (l : List UInt8) : Nat → Int
  | 0 => -1
  | n + 1 => if l[n]? = some 10 then (n : Int) else fa l n
/-- How many line feeds stand ahead of n. -/
def cnt (l : List UInt8) : Nat → Nat
  | 0 => 0
  | n + 1 => if l[n]? = some 10 then cnt l n + 1 else cnt l n
/-- The first line feed from n on, with so much fuel; n + fuel, if there is none. -/
def ff (l : List UInt8) : Nat → Nat → Nat
  | n, 0 => n
  | n, k + 1 => if l[n]? = some 10 then n else ff l (n + 1) k

theorem fa_ge (l n) : -1 ≤ fa l n := by
  induction n with
  | zero => simp [fa]
  | succ n ih => rw [fa]; split <;> omega
theorem fa_lt (l n) : fa l n < n := by
  induction n with
  | zero => simp [fa]
  | succ n ih => unfold fa; split <;> omega
theorem fa_feed (l n) (k : Nat) (h : fa l n = k) : l[k]? = some 10 := by
  induction n with
  | zero => simp [fa] at h
  | succ n ih =>
    unfold fa at h; split at h
    · obtain rfl : n = k := by omega
      assumption
    · exact ih h
theorem cnt_fa_none (l n) (h : fa l n = -1) : cnt l n = 0 := by
  induction n with
  | zero => rfl
  | succ n ih =>
    unfold fa at h; split at h
    · omega
    · rw [cnt, if_neg (by assumption)]; exact ih h
theorem cnt_fa (l n) (k : Nat) (h : fa l n = k) : cnt l n = cnt l k + 1 := by
  induction n with
  | zero => simp [fa] at h
  | succ n ih =>
    unfold fa at h; split at h
    · obtain rfl : n = k := by omega
      rw [cnt, if_pos (by assumption)]
    · rw [cnt, if_neg (by assumption)]; exact ih h
theorem cnt_le (l n) : cnt l n ≤ n := by
  induction n with
  | zero => simp [cnt]
  | succ n ih => unfold cnt; split <;> omega
theorem cnt_up (l : List UInt8) (n : Nat) : cnt l n ≤ cnt l (n + 1) := by rw [cnt.eq_2]; split <;> omega
theorem cnt_mono (l : List UInt8) (m n : Nat) (h : m ≤ n) : cnt l m ≤ cnt l n := by
  induction n with
  | zero => obtain rfl : m = 0 := by omega
            exact Nat.le_refl _
  | succ n ih =>
    rcases Nat.lt_or_ge m (n + 1) with h1 | h1
    · exact Nat.le_trans (ih (by omega)) (cnt_up l n)
    · obtain rfl : m = n + 1 := by omega
      exact Nat.le_refl _
theorem fa_step (l : List UInt8) (n : Nat) (h : ¬ l[n]? = some 10) : fa l (n + 1) = fa l n := by rw [fa, if_neg h]
theorem fa_hit (l : List UInt8) (n : Nat) (h : l[n]? = some 10) : fa l (n + 1) = n := by rw [fa, if_pos h]
theorem cnt_step (l : List UInt8) (n : Nat) (h : ¬ l[n]? = some 10) : cnt l (n + 1) = cnt l n := by rw [cnt, if_neg h]
theorem cnt_hit (l : List UInt8) (n : Nat) (h : l[n]? = some 10) : cnt l (n + 1) = cnt l n + 1 := by rw [cnt, if_pos h]

theorem ff_ge (l n k) : n ≤ ff l n k := by
  induction k generalizing n with
  | zero => simp [ff]
  | succ k ih => unfold ff; split; · omega
                 · have := ih (n + 1); omega
theorem ff_le (l n k) : ff l n k ≤ n + k := by
  induction k generalizing n with
  | zero => simp [ff]
  | succ k ih => unfold ff; split; · omega
                 · have := ih (n + 1); omega
/-- Between n and what is found there is no line feed. -/
theorem ff_none (l : List UInt8) (n k : Nat) (i : Nat) (h1 : n ≤ i) (h2 : i < ff l n k) : ¬ l[i]? = some 10 := by
  induction k generalizing n with
  | zero => simp [ff] at h2; omega
  | succ k ih =>
    unfold ff at h2; split at h2
    · omega
    · rcases Nat.lt_or_ge n i with h3 | h3
      · exact ih (n + 1) h3 h2
      · obtain rfl : i = n := by omega
        assumption
/-- What is found ahead of the end is a line feed. -/
theorem ff_feed (l : List UInt8) (n k : Nat) (h : ff l n k < n + k) : l[ff l n k]? = some 10 := by
  induction k generalizing n with
  | zero => simp [ff] at h
  | succ k ih =>
    unfold ff at h ⊢; split
    · assumption
    · rename_i hn
      rw [if_neg hn] at h
      exact ih (n + 1) (by omega)
theorem ff_step (l : List UInt8) (n k : Nat) (h : ¬ l[n]? = some 10) : ff l n (k + 1) = ff l (n + 1) k := by rw [ff, if_neg h]
theorem ff_hit (l : List UInt8) (n k : Nat) (h : l[n]? = some 10) : ff l n (k + 1) = n := by rw [ff, if_pos h]

/-- The last feed ahead of n, where between m and n there is none, and m is 0 or stands behind one. -/
theorem fa_of_none (l : List UInt8) (m n : Nat) (h : m ≤ n) (hn : ∀ i, m ≤ i → i < n → ¬ l[i]? = some 10) : fa l n = fa l m := by
  induction n with
  | zero => obtain rfl : m = 0 := by omega
            rfl
  | succ n ih =>
    rcases Nat.lt_or_ge m (n + 1) with h1 | h1
    · rw [fa_step l n (hn n (by omega) (by omega))]; exact ih (by omega) fun i a b => hn i a (by omega)
    · obtain rfl : m = n + 1 := by omega
      rfl
theorem cnt_of_none (l : List UInt8) (m n : Nat) (h : m ≤ n) (hn : ∀ i, m ≤ i → i < n → ¬ l[i]? = some 10) : cnt l n = cnt l m := by
  induction n with
  | zero => obtain rfl : m = 0 := by omega
            rfl
  | succ n ih =>
    rcases Nat.lt_or_ge m (n + 1) with h1 | h1
    · rw [cnt_step l n (hn n (by omega) (by omega))]; exact ih (by omega) fun i a b => hn i a (by omega)
    · obtain rfl : m = n + 1 := by omega
      rfl
/-- Line and column together rise strictly: two places with the same are one. -/
theorem place_inj (l : List UInt8) (m n : Nat) (h : m ≤ n) (hc : cnt l m = cnt l n) (ha : (m : Int) - fa l m = n - fa l n) : m = n := by
  by_cases hh : ∃ i, m ≤ i ∧ i < n ∧ l[i]? = some 10
  · obtain ⟨i, h1, h2, h3⟩ := hh
    have a1 := cnt_mono l m i h1
    have a2 := cnt_hit l i h3
    have a3 := cnt_mono l (i + 1) n (by omega)
    omega
  · have := fa_of_none l m n h (fun i a b c => hh ⟨i, a, b, c⟩)
    omega
/-- Where the last feed ahead of n is x, as many stand ahead of n as up to x. -/
theorem cnt_last (l : List UInt8) (n : Nat) : cnt l (fa l n + 1).toNat = cnt l n := by
  have h1 := fa_ge l n
  by_cases h : fa l n = -1
  · rw [h, cnt_fa_none l n h]; rfl
  · obtain ⟨k, hk⟩ := Int.eq_ofNat_of_zero_le (show 0 ≤ fa l n by omega)
    rw [cnt_fa l n k hk, hk, show ((k : Int) + 1).toNat = k + 1 from by omega, cnt_hit l k (fa_feed l n k hk)]
/-- One feed back. -/
theorem cnt_back (l : List UInt8) (k m : Nat) (t : Nat) (hf : l[m]? = some 10) (h : k + cnt l ((m : Int) + 1).toNat = t) : k + 1 + cnt l (fa l m + 1).toNat = t := by
  rw [cnt_last, ← h, show ((m : Int) + 1).toNat = m + 1 from by omega, cnt_hit l m hf]; omega
end Go.Proofs.YtjfehnjkijecpaaDoor.PlaceM
