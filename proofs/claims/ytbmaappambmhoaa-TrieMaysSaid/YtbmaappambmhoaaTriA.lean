/-
  Lists of lists of texts in a world; the document's Which and Prefixes (layer 18).
-/
import Derived.Test.YtbmaappambmhoaaPackE
namespace Go.Proofs.Ytbmaappambmhoaa
open Go.RowKit PK
set_option linter.unusedVariables false

/-- A row of rows of texts. -/
def RR (w : World) (B : Nat) (v : Value) (S : List (List Tx)) : Prop :=
  ∃ vs : List Value, Row w B 1 v S.length vs ∧ ∀ i (hi : i < S.length), ∃ u, vs[i]? = some u ∧ Row w B 1 u S[i].length (svt S[i])
theorem RR.below {w w' : World} {B : Nat} {v : Value} {S : List (List Tx)} (h : RR w B v S) (hb : Below B w w') : RR w' B v S := by
  obtain ⟨vs, h1, h2⟩ := h
  exact ⟨vs, h1.below hb, fun i hi => by obtain ⟨u, h3, h4⟩ := h2 i hi; exact ⟨u, h3, h4.below hb⟩⟩
theorem RR.mono {w : World} {B B' : Nat} {v : Value} {S : List (List Tx)} (h : RR w B v S) (hB : B ≤ B') : RR w B' v S := by
  obtain ⟨vs, h1, h2⟩ := h
  exact ⟨vs, h1.mono hB, fun i hi => by obtain ⟨u, h3, h4⟩ := h2 i hi; exact ⟨u, h3, h4.mono hB⟩⟩
theorem RR.val {w : World} {B : Nat} {v : Value} {S : List (List Tx)} (h : RR w B v S) : ∃ ao c, v = .slice ao S.length c ∧ S.length ≤ c ∧ c ≤ maxLen := by
  obtain ⟨vs, h1, _⟩ := h; exact h1.val
theorem RR.get {w : World} {B n c : Nat} {ao : Option Addr} {S : List (List Tx)} (h : RR w B (.slice ao n c) S) (i : Nat) (hi : i < S.length) :
    ∃ b off a1 c1, ao = some ⟨b, off, none⟩ ∧ b < B ∧ w.cell? ⟨b, off + i, none⟩ = some (.slice a1 S[i].length c1) ∧ Row w B 1 (.slice a1 S[i].length c1) S[i].length (svt S[i]) ∧ S[i].length ≤ c1 ∧ c1 ≤ maxLen := by
  obtain ⟨vs, h1, h2⟩ := h
  obtain ⟨u, h3, h4⟩ := h2 i hi
  obtain ⟨a1, c1, rfl, hc1, hc2⟩ := h4.val
  obtain ⟨a2, c2, hv, _, _⟩ := h1.val
  simp only [Value.slice.injEq] at hv
  obtain ⟨rfl, rfl, rfl⟩ := hv
  have hp : 0 < vs.length := by rw [h1.1]; omega
  obtain ⟨b, off, rfl, hb, hc⟩ := h1.at hp
  exact ⟨b, off, a1, c1, rfl, hb, hc i _ h3, h4, hc1, hc2⟩

theorem ret_intP {a b : Int} (h : a = b) : Ending.returned (.int .i64 a) = .returned (.int .i64 b) := by rw [h]
/-- The first set that has a text. -/
def whichI (S : List (List Tx)) (t : Tx) : Int := if S.findIdx (fun l => decide (t ∈ l)) < S.length then (S.findIdx (fun l => decide (t ∈ l)) : Nat) else -1
theorem whichI_at (S : List (List Tx)) (t : Tx) (k : Nat) (hk : k < S.length) (h : t ∈ S[k]) (hb : ∀ j (hj : j < S.length), j < k → t ∉ S[j]) : whichI S t = (k : Nat) := by
  have : S.findIdx (fun l => decide (t ∈ l)) = k := (List.findIdx_eq hk).2 ⟨by simpa using h, fun j hj => by simpa using hb j (by omega) hj⟩
  unfold whichI; rw [this, if_pos hk]
theorem whichI_not (S : List (List Tx)) (t : Tx) (hb : ∀ j (hj : j < S.length), j < S.length → t ∉ S[j]) : whichI S t = -1 := by
  unfold whichI
  rw [if_neg]
  intro h
  have h2 := List.findIdx_getElem (w := h)
  exact hb _ h h (of_decide_eq_true h2)

set_option maxHeartbeats 1000000 in
set_option maxRecDepth 100000 in
theorem refWhich_any (v : Value) (S : List (List Tx)) (t : Tx) (B : Nat) (w : World) (hB : B ≤ w.heap.size) (r : RR w B v S) (hl : S.length ≤ 100000) :
    Calls Try.prog 37 #[v, .string ⟨t.toArray⟩] w fun e w' => e = .returned (.int .i64 (whichI S t)) ∧ Below w.heap.size w w' := by
  obtain ⟨ao, c, rfl, hc1, hc2⟩ := r.val
  have hl63 : S.length ≤ 9223372036854775807 := by omega
  have R := Lib.hid r
  clear r
  go_enter Try.func37, Try.ntmps37
  go_wp2_with fail
  go_loopw [5] (fun i wr => ∃ k : Nat, k ≤ S.length ∧ i = .int .i64 k ∧ Hid (Below w.heap.size w wr) ∧ Hid (∀ j (hj : j < S.length), j < k → t ∉ S[j])) (fun i _ => S.length - (intOf i).toNat)
  case atStart => exact ⟨0, Nat.zero_le _, rfl, Lib.hid (Below.refl _ _), Lib.hid fun j _ h => by omega⟩
  case round =>
    obtain ⟨k, hk, rfl, Hbel, Hall⟩ := hrel
    by_cases hlt : k < S.length
    · obtain ⟨b1, o1, a1, c1, rfl, hb1, c10, rk, hk1, hk2⟩ := (R.out.below (Hbel.out.mono hB)).get k hlt
      have hk0 : (k : Int) < (S.length : Int) := by omega
      have hk3 : (0 : Int) ≤ (k : Int) := by omega
      have Hh := Lib.hid (refHas_any _ S[k] t B wr (Nat.le_trans hB Hbel.out.size) rk _ rfl)
      have Hy := Lib.hid (fun h => whichI_at S t k hlt h Hall.out)
      have Hn : Hid (t ∉ S[k] → ∀ j (hj : j < S.length), j < k + 1 → t ∉ S[j]) := Lib.hid fun h j hj hjk => by
        rcases Nat.lt_or_ge j k with h1 | h1
        · exact Hall.out j hj h1
        · obtain rfl : j = k := by omega
          exact h
      clear rk hk1 hk2
      generalize S[k] = l at *
      by_cases hin : t ∈ l
      · rw [decide_eq_true hin] at Hh
        replace Hy := Lib.hid (Hy.out hin)
        clear hin Hn
        go_wp2_with fail
        refine (Hh.out).mono ?_
        rintro e w2 ⟨rfl, b2⟩
        have Hb2 := Lib.hid (Hbel.out.trans (b2.mono Hbel.out.size))
        clear b2
        go_wp2_with fail
        go_ret
        exact ⟨ret_intP Hy.out.symm, Hb2.out⟩
      · rw [decide_eq_false hin] at Hh
        replace Hn := Lib.hid (Hn.out hin)
        clear hin Hy
        go_wp2_with fail
        refine (Hh.out).mono ?_
        rintro e w2 ⟨rfl, b2⟩
        have Hb2 := Lib.hid (Hbel.out.trans (b2.mono Hbel.out.size))
        clear b2
        go_wp2_with fail
        go_roundw
        case rel => exact ⟨k + 1, hlt, by go_num, Hb2, Hn⟩
        case measure => simp [intOf]; omega
    · obtain rfl : k = S.length := by omega
      have Hn := Lib.hid (whichI_not S t Hall.out)
      go_wp2_with fail
      go_ret
      exact ⟨ret_intP Hn.out.symm, Hbel.out⟩
end Go.Proofs.Ytbmaappambmhoaa
