/-
  The document's Err (layer 18).
-/
import Derived.Test.YtbmaappambmhoaaTriB
namespace Go.Proofs.Ytbmaappambmhoaa
open Go.RowKit PK
set_option linter.unusedVariables false

def badS (k : Int) (S : List (List Tx)) : Bool := S.any fun l => l.any fun x => !((x.length : Int) == k)
def clashS (S : List (List Tx)) : Bool := (List.range S.length).any fun i => (List.range i).any fun j => !(meetL (S.getD i []) (S.getD j [])).isEmpty
def errI (k : Int) (S : List (List Tx)) : Int := if k < 1 ∨ 4 < k then 2 else if badS k S = true then 4 else if clashS S = true then 14 else 0
theorem errI_arg {k : Int} {S : List (List Tx)} (h : k < 1 ∨ 4 < k) : errI k S = 2 := if_pos h
theorem errI_form {k : Int} {S : List (List Tx)} (h : ¬ (k < 1 ∨ 4 < k)) (i j : Nat) (hi : i < S.length) (hj : j < S[i].length) (hb : (S[i][j].length : Int) ≠ k) : errI k S = 4 := by
  unfold errI
  rw [if_neg h, if_pos]
  unfold badS
  refine List.any_eq_true.2 ⟨S[i], List.getElem_mem hi, List.any_eq_true.2 ⟨S[i][j], List.getElem_mem hj, ?_⟩⟩
  simpa using hb
theorem good_of {k : Int} {S : List (List Tx)} (h : ∀ i (hi : i < S.length), ∀ j (hj : j < S[i].length), (S[i][j].length : Int) = k) : badS k S = false := by
  unfold badS
  refine List.any_eq_false.2 fun l hl => ?_
  rw [Bool.not_eq_true]
  refine List.any_eq_false.2 fun x hx => ?_
  obtain ⟨i, hi, rfl⟩ := List.getElem_of_mem hl
  obtain ⟨j, hj, rfl⟩ := List.getElem_of_mem hx
  simpa using h i hi j hj
theorem getD_S (S : List (List Tx)) (i : Nat) (hi : i < S.length) : S.getD i [] = S[i] := by
  rw [List.getD_eq_getElem?_getD, List.getElem?_eq_getElem hi, Option.getD_some]
theorem errI_clash {k : Int} {S : List (List Tx)} (h : ¬ (k < 1 ∨ 4 < k)) (hg : badS k S = false) (i j : Nat) (hi : i < S.length) (hj : j < S.length) (hji : j < i) (hb : meetL S[i] S[j] ≠ []) : errI k S = 14 := by
  unfold errI
  rw [if_neg h, if_neg (by simp [hg]), if_pos]
  unfold clashS
  refine List.any_eq_true.2 ⟨i, by simpa using hi, List.any_eq_true.2 ⟨j, by simpa using hji, ?_⟩⟩
  rw [getD_S S i hi, getD_S S j hj]
  simpa using hb
theorem errI_ok {k : Int} {S : List (List Tx)} (h : ¬ (k < 1 ∨ 4 < k)) (hg : badS k S = false) (hb : ∀ i (hi : i < S.length), ∀ j (hj : j < S.length), j < i → meetL S[i] S[j] = []) : errI k S = 0 := by
  unfold errI
  rw [if_neg h, if_neg (by simp [hg]), if_neg]
  rw [Bool.not_eq_true]
  unfold clashS
  refine List.any_eq_false.2 fun i hi => ?_
  rw [Bool.not_eq_true]
  refine List.any_eq_false.2 fun j hj => ?_
  have hi' : i < S.length := by simpa using hi
  have hj' : j < i := by simpa using hj
  rw [getD_S S i hi', getD_S S j (by omega), hb i hi' j (by omega) hj']
  simp

set_option maxHeartbeats 2000000 in
set_option maxRecDepth 100000 in
theorem refErr_any (k : Int) (v : Value) (S : List (List Tx)) (B : Nat) (w : World) (hB : B ≤ w.heap.size) (r : RR w B v S) (hl : S.length ≤ 10) (hls : ∀ l ∈ S, l.length ≤ 20) (hx : ∀ l ∈ S, ∀ x ∈ l, x.length ≤ 10) :
    Calls Try.prog 29 #[.int .i64 k, v] w fun e w' => e = .returned (.int .i64 (errI k S)) ∧ Below w.heap.size w w' := by
  obtain ⟨ao, c, rfl, hc1, hc2⟩ := r.val
  have hl63 : S.length ≤ 9223372036854775807 := by omega
  have R := Lib.hid r; have Hls := Lib.hid hls; have Hx := Lib.hid hx
  clear r hls hx
  by_cases hk1 : k < 1
  · have HE := Lib.hid (errI_arg (S := S) (.inl hk1 : k < 1 ∨ 4 < k))
    go_enter Try.func29, Try.ntmps29
    go_wp2_with fail
    go_ret
    exact ⟨ret_intP HE.out.symm, Below.refl _ _⟩
  · by_cases hk4 : 4 < k
    · have HE := Lib.hid (errI_arg (S := S) (.inr hk4 : k < 1 ∨ 4 < k))
      have q1 : decide (k < 1) = false := decide_eq_false hk1
      have q2 : decide (4 < k) = true := decide_eq_true hk4
      clear hk1 hk4
      go_enter Try.func29, Try.ntmps29
      go_wp2_with fail
      go_ret
      exact ⟨ret_intP HE.out.symm, Below.refl _ _⟩
    · have hkk : ¬ (k < 1 ∨ 4 < k) := by omega
      have Hkk := Lib.hid hkk
      have q1 : decide (k < 1) = false := decide_eq_false hk1
      have q2 : decide (4 < k) = false := decide_eq_false hk4
      clear hk1 hk4 hkk
      go_enter Try.func29, Try.ntmps29
      go_wp2_with fail
      go_loop [5] (fun i => ∃ m : Nat, m ≤ S.length ∧ i = .int .i64 m ∧ Hid (∀ i (hi : i < S.length), i < m → ∀ j (hj : j < S[i].length), (S[i][j].length : Int) = k)) (fun i => S.length - (intOf i).toNat)
      case atStart => exact ⟨0, Nat.zero_le _, rfl, Lib.hid fun i _ h => by omega⟩
      case round =>
        obtain ⟨m, hm, rfl, Hg⟩ := hrel
        by_cases hlt : m < S.length
        · have hm0 : (m : Int) < (S.length : Int) := by omega
          have hm1 : (0 : Int) ≤ (m : Int) := by omega
          have Hrow := Lib.hid (R.out.get m hlt)
          obtain ⟨b1, o1, a1, c1, hao, hb1, c10, rk, hk3, hk4⟩ := R.out.get m hlt
          subst hao
          have Rk := Lib.hid rk
          have Hbad := Lib.hid (fun j hj hb => errI_form Hkk.out m j hlt hj hb)
          have Hxm := Lib.hid (Hx.out _ (List.getElem_mem hlt))
          have hlm := Hls.out _ (List.getElem_mem hlt)
          have Hnx : Hid ((∀ j (hj : j < S[m].length), (S[m][j].length : Int) = k) → ∀ i (hi : i < S.length), i < m + 1 → ∀ j (hj : j < S[i].length), (S[i][j].length : Int) = k) := Lib.hid fun h i hi him => by
            rcases Nat.lt_or_ge i m with h1 | h1
            · exact Hg.out i hi h1
            · obtain rfl : i = m := by omega
              exact h
          unfold maxLen at hk4
          clear rk Hrow
          generalize S[m] = l at *
          go_wp2_with fail
          go_loop [6] (fun i => ∃ n : Nat, n ≤ l.length ∧ i = .int .i64 n ∧ Hid (∀ j (hj : j < l.length), j < n → (l[j].length : Int) = k)) (fun i => l.length - (intOf i).toNat)
          case atStart => exact ⟨0, Nat.zero_le _, rfl, Lib.hid fun i _ h => by omega⟩
          case round =>
            obtain ⟨n, hn, rfl, Hn⟩ := hrel
            by_cases hnl : n < l.length
            · obtain ⟨b2, o2, rfl, hb2, _⟩ := Rk.out.at (by rw [svt_length]; omega)
              have c20 := Rk.out.cell n _ (svt_at l n hnl)
              have hn0 : (n : Int) < (l.length : Int) := by omega
              have hn1 : (0 : Int) ≤ (n : Int) := by omega
              have hxl := Hxm.out _ (List.getElem_mem hnl)
              have Hb := Lib.hid (Hbad.out n hnl)
              have Hs : Hid ((l[n].length : Int) = k → ∀ j (hj : j < l.length), j < n + 1 → (l[j].length : Int) = k) := Lib.hid fun h j hj hjn => by
                rcases Nat.lt_or_ge j n with h1 | h1
                · exact Hn.out j hj h1
                · obtain rfl : j = n := by omega
                  exact h
              generalize l[n] = x at *
              have hsz := tx_size x
              obtain ⟨s, hsx⟩ : ∃ s : ByteArray, s = ⟨x.toArray⟩ := ⟨_, rfl⟩
              rw [← hsx] at c20 hsz
              rw [← hsz] at Hb Hs hxl
              clear hsx hsz
              by_cases hxk : (s.size : Int) = k
              · have Hs2 := Lib.hid (Hs.out hxk)
                have q3 : ((s.size : Int) == k) = true := by simpa using hxk
                clear Hb Hs
                subst hxk
                clear q3
                go_wp2_with fail
                go_round
                case rel => exact ⟨n + 1, hnl, by go_num, Hs2⟩
                case measure => simp [intOf]; omega
              · have Hb2 := Lib.hid (Hb.out hxk)
                have q3 : ((s.size : Int) == k) = false := by simpa using hxk
                clear Hb Hs hxk
                go_wp2_with fail
                go_ret
                exact ⟨ret_intP Hb2.out.symm, Below.refl _ _⟩
            · obtain rfl : n = l.length := by omega
              have Hs2 := Lib.hid (Hnx.out fun j hj => Hn.out j hj hj)
              go_wp2_with fail
              go_round
              case rel => exact ⟨m + 1, hlt, by go_num, Hs2⟩
              case measure => simp [intOf]; omega
        · obtain rfl : m = S.length := by omega
          have Hgood := Lib.hid (good_of fun i hi => Hg.out i hi hi)
          have HOK := Lib.hid (fun h => errI_ok (S := S) Hkk.out Hgood.out h)
          go_wp2_with fail
          go_loopw [7] (fun i wr => ∃ m : Nat, m ≤ S.length ∧ i = .int .i64 m ∧ Hid (Below w.heap.size w wr) ∧ Hid (∀ i (hi : i < S.length), i < m → ∀ j (hj : j < S.length), j < i → meetL S[i] S[j] = [])) (fun i _ => S.length - (intOf i).toNat)
          case atStart => exact ⟨0, Nat.zero_le _, rfl, Lib.hid (Below.refl _ _), Lib.hid fun i _ h => by omega⟩
          case round =>
            obtain ⟨m, hm', rfl, Hb, Hc⟩ := hrel
            by_cases hlt : m < S.length
            · have hm0 : (m : Int) < (S.length : Int) := by omega
              have hm1 : (0 : Int) ≤ (m : Int) := by omega
              obtain ⟨wo, rfl⟩ : ∃ wo : World, wo = wr := ⟨_, rfl⟩
              go_wp2_with fail
              go_loopw [8] (fun i wx => ∃ n : Nat, n ≤ m ∧ i = .int .i64 n ∧ Hid (Below w.heap.size w wx) ∧ Hid (∀ j (hj : j < S.length), j < n → meetL S[m] S[j] = [])) (fun i _ => m - (intOf i).toNat)
              case atStart => exact ⟨0, Nat.zero_le _, rfl, Hb, Lib.hid fun i _ h => by omega⟩
              case round =>
                obtain ⟨n, hn, rfl, Hb2, Hn⟩ := hrel
                by_cases hnm : n < m
                · have hnS : n < S.length := by omega
                  have RW := Lib.hid (R.out.below (Hb2.out.mono hB))
                  obtain ⟨b1, o1, a1, c1, hao, hb1, c10, rk1, hk3, hk4⟩ := RW.out.get m hlt
                  obtain ⟨b2, o2, a2, c2, hao2, hb2, c20, rk2, hk5, hk6⟩ := RW.out.get n hnS
                  subst hao
                  simp only [Option.some.injEq, Addr.mk.injEq, and_true] at hao2
                  obtain ⟨rfl, rfl⟩ := hao2
                  have hn0 : (n : Int) < (m : Int) := by omega
                  have hn1 : (0 : Int) ≤ (n : Int) := by omega
                  have hn2 : (n : Int) < (S.length : Int) := by omega
                  have hlm := Hls.out _ (List.getElem_mem hlt)
                  have Hm := Lib.hid (refMeet_any _ _ S[m] S[n] B B wr.drew (Nat.le_trans hB Hb2.out.size) (Nat.le_trans hB Hb2.out.size) (rk1.below (Below.refl _ _).drew) (rk2.below (Below.refl _ _).drew) (by omega))
                  have Hcl := Lib.hid (fun h => errI_clash Hkk.out Hgood.out m n hlt hnS hnm h)
                  have Hs : Hid (meetL S[m] S[n] = [] → ∀ j (hj : j < S.length), j < n + 1 → meetL S[m] S[j] = []) := Lib.hid fun h j hj hjn => by
                    rcases Nat.lt_or_ge j n with h1 | h1
                    · exact Hn.out j hj h1
                    · obtain rfl : j = n := by omega
                      exact h
                  have hml : (meetL S[m] S[n]).length ≤ 1000 := by
                    have h1 := toSet_len (S[m].filter fun x => decide (x ∈ S[n]))
                    have h2 := List.length_filter_le (fun x => decide (x ∈ S[n])) S[m]
                    unfold meetL; omega
                  unfold maxLen at hk4 hk6
                  have Hdr := Lib.hid ((Below.refl wr.heap.size wr).drew)
                  clear rk1 rk2
                  generalize meetL S[m] S[n] = M at *
                  generalize S[m] = l1 at *
                  generalize S[n] = l2 at *
                  go_wp2_with fail
                  go_region_with (go_at_call 17; refine (Hm.out).mono ?_; rintro e w' ⟨v3, rfl, own3, b3⟩; obtain ⟨a3, c3, rfl, hc3, hc3'⟩ := owns_valP own3; have Own3 := Lib.hid own3; have B3 := Lib.hid (Hb2.out.trans ((Hdr.out.trans b3).mono Hb2.out.size)); clear own3 b3)
                  all_goals
                    rcases M with _ | ⟨z, M⟩
                    · have Hs2 := Lib.hid (Hs.out rfl)
                      clear Hcl Hs
                      go_wp2_with fail
                      go_roundw
                      case rel => exact ⟨n + 1, hnm, by go_num, B3, Hs2⟩
                      case measure => simp [intOf]; omega
                    · have HE := Lib.hid (Hcl.out (by simp))
                      clear Hcl Hs
                      simp only [List.length_cons] at hml hc3
                      have h0 : (0 : Int) < (M.length : Int) + 1 := by omega
                      go_wp2_with fail
                      all_goals first
                        | (go_ret; exact ⟨ret_intP HE.out.symm, B3.out⟩)
                        | (exfalso; rename_i z; simp at z)
                · obtain rfl : n = m := by omega
                  have Hs2 : Hid (∀ i (hi : i < S.length), i < n + 1 → ∀ j (hj : j < S.length), j < i → meetL S[i] S[j] = []) := Lib.hid fun i hi him j hj hji => by
                    rcases Nat.lt_or_ge i n with h1 | h1
                    · exact Hc.out i hi h1 j hj hji
                    · obtain rfl : i = n := by omega
                      exact Hn.out j hj hji
                  go_wp2_with fail
                  go_roundw
                  case rel => exact ⟨n + 1, hlt, by go_num, Hb2, Hs2⟩
                  case measure => simp [intOf]; omega
            · obtain rfl : m = S.length := by omega
              have HE := Lib.hid (HOK.out fun i hi j hj hji => Hc.out i hi hi j hj hji)
              go_wp2_with fail
              go_ret
              exact ⟨ret_intP HE.out.symm, Hb.out⟩
end Go.Proofs.Ytbmaappambmhoaa
