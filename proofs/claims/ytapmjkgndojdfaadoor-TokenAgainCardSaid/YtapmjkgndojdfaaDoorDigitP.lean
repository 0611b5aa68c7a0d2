/-
  The walks of digit.Parse of what is no number, and of the document's answer.
-/
import Derived.Test.YtapmjkgndojdfaaDoorDigit
namespace Go.Proofs.YtapmjkgndojdfaaDoor
open Go.RowKit
set_option linter.unusedVariables false

theorem decS_neq (s : ByteArray) (q : Nat) (h : s ≠ decS q) : (s.toList == (decS q).toList) = false := by
  rw [beq_eq_false_iff_ne]
  intro he
  apply h
  apply strEq
  rw [ByteArray.toList_eq, ByteArray.toList_eq] at he
  exact he

set_option maxHeartbeats 800000 in
theorem digitParse_no (s : ByteArray) (w : World) (hs : s.size ≤ maxLen) (hno : ∀ n, ¬ IsNum s n) (ht : Tab10 w) :
    Calls Tryd.prog 21 #[.string s] w fun e w' => e = .returned (.tuple #[.int .i64 0, .int .i64 5]) ∧ Below w.heap.size w w' := by
  unfold maxLen at hs
  have Hno := Lib.hid hno; clear hno
  go_enter Tryd.func21, Tryd.ntmps21
  go_wp2
  go_loop [4, 8] (fun v i => ∃ (k q : Nat), k ≤ s.size ∧ i = .int .i64 k ∧ v = .int .i64 q ∧ q ≤ 2147483647) (fun _ i => s.size - (intOf i).toNat)
  case atStart => exact ⟨0, 0, by omega, rfl, rfl, by omega⟩
  case round =>
    obtain ⟨k, q, hk, rfl, rfl, hq⟩ := hrel
    by_cases hlt : k < s.size
    · by_cases h1 : s[k].toNat < 48
      · have h1' : (s[k].toNat : Int) < 48 := by omega
        clear h1
        go_wp2
        go_ret2
        exact ⟨rfl, Below.refl _ _⟩
      · by_cases h2 : 57 < s[k].toNat
        · have h1' : ¬ (s[k].toNat : Int) < 48 := by omega
          have h2' : (57 : Int) < (s[k].toNat : Int) := by omega
          clear h1 h2
          go_wp2
          go_ret2
          exact ⟨rfl, Below.refl _ _⟩
        · have h1' : (48 : Int) ≤ (s[k].toNat : Int) := by omega
          have h2' : (s[k].toNat : Int) ≤ 57 := by omega
          by_cases h3 : q * 10 + (s[k].toNat - 48) ≤ 2147483647
          · have h3' : (q : Int) * 10 + ((s[k].toNat : Int) - 48) ≤ 2147483647 := by omega
            clear h1 h2
            go_wp2
            go_round
            case rel => exact ⟨k + 1, q * 10 + (s[k].toNat - 48), by omega, by go_num, by go_num, h3⟩
            case measure => simp [intOf]; omega
          · have h3' : (2147483647 : Int) < (q : Int) * 10 + ((s[k].toNat : Int) - 48) := by omega
            clear h1 h2 h3
            go_wp2
            go_ret2
            exact ⟨rfl, Below.refl _ _⟩
    · obtain rfl : k = s.size := by omega
      have hP := fun W => digitPrint_any q W (by omega)
      rw [clamp_nat q hq] at hP
      have HP := Lib.hid hP
      have hne := decS_neq s q (fun h => Hno.out q ⟨h, hq⟩)
      clear hP
      go_wp2_with fail
      refine (HP.out _ ht).mono ?_
      rintro e w1 ⟨rfl, hb⟩
      go_wp2_with fail
      go_ret2
      exact ⟨rfl, hb⟩
def WholePost (w : World) (e : Ending) (w' : World) : Prop := ∃ (n : Nat) (b : Bool), e = .returned (.tuple #[.int .i64 n, .bool b]) ∧ (b = false ∨ 2147483647 < n) ∧ n ≤ 9223372036854775807 ∧ w = w'

set_option maxHeartbeats 1600000 in
theorem baseWhole_yes (n : Nat) (w : World) (hn : n ≤ 2147483647) :
    Calls Tryd.prog 34 #[.string (decS n), .int .i64 10] w fun e w' => e = .returned (.tuple #[.int .i64 n, .bool true]) ∧ w = w' := by
  obtain ⟨s, hs⟩ : ∃ s, s = decS n := ⟨_, rfl⟩
  have hsl : s.data.toList = Lib.decDigits n := by rw [hs]; rfl
  have hlen : s.data.toList.length = s.size := by rw [Array.length_toList]; rfl
  have hsz : s.size ≤ 10 := by rw [← hlen, hsl]; exact dec_len10 10 n (by decide) (by omega)
  have hsp : 1 ≤ s.size := by rw [← hlen, hsl]; exact dec_pos n
  have hne : s.toList.isEmpty = false := by
    rw [ByteArray.toList_eq, hsl]; have := dec_pos n
    cases h : Lib.decDigits n with
    | nil => rw [h] at this; simp at this
    | cons a b => rfl
  have hz : ∀ h : 0 < s.size, 1 < s.size → ((s[0].toNat : Int) == 48) = false := by
    intro h h1
    have hn10 : ¬ n < 10 := by
      intro h10
      rw [← hlen, hsl, dec_small n h10] at h1; simp at h1
    have := dec_head n (by omega) s[0] (by rw [← hsl]; exact bgetL s 0 h)
    simp; omega
  have Hall := Lib.hid (fun k (h : k < s.size) => show IsDig s[k] from dec_all n _ (by rw [← hsl]; exact List.mem_of_getElem? (bgetL s k h)))
  have Hval := Lib.hid (fun k => show val (s.data.toList.take k) ≤ n from by
    have h1 := val_le (s.data.toList.take k) (s.data.toList.drop k)
    rw [List.take_append_drop, hsl, val_dec] at h1; rw [hsl]; exact h1)
  have Hend := Lib.hid (show val (s.data.toList.take s.size) = n from by rw [take_allB, hsl, val_dec])
  rw [← hs]
  clear hs hsl hlen
  by_cases h1s : 1 < s.size
  all_goals
    first
      | have hz0 := hz (by omega) h1s
      | skip
    clear hz
    go_enter Tryd.func34, Tryd.ntmps34
    go_wp2
    go_loop [6, 7] (fun v i => ∃ k : Nat, k ≤ s.size ∧ i = .int .i64 k ∧ v = .int .i64 (val (s.data.toList.take k))) (fun _ i => s.size - (intOf i).toNat)
    case atStart => exact ⟨0, by omega, rfl, rfl⟩
    case round =>
      obtain ⟨k, hk, rfl, rfl⟩ := hrel
      have hv := Hval.out k
      by_cases hlt : k < s.size
      · have hd := Hall.out k hlt
        unfold IsDig at hd
        obtain ⟨hd1, hd2⟩ := hd
        have hv2 := Hval.out (k + 1)
        have Hst := Lib.hid (val_take s k hlt)
        rw [Hst.out] at hv2
        have hd3 : (48 : Int) ≤ (s[k].toNat : Int) := by omega
        have hd4 : (s[k].toNat : Int) ≤ 57 := by omega
        generalize val (s.data.toList.take k) = q at *
        have hv3 : (q : Int) * 10 + ((s[k].toNat : Int) - 48) ≤ 2147483647 := by omega
        clear hd1 hd2
        go_wp2
        go_round
        case rel => exact ⟨k + 1, by omega, by go_num, by rw [Hst.out]; go_num⟩
        case measure => simp [intOf]; omega
      · obtain rfl : k = s.size := by omega
        rw [Hend.out]
        go_wp2
        go_ret2
        exact ⟨rfl, rfl⟩

/-- Where all are digits, without a needless 0 ahead, the text is its number's; so the number is too great. -/
theorem whole_great (s : ByteArray) (hno : ∀ n, ¬ IsNum s n) (hall : ∀ k (h : k < s.size), IsDig s[k]) (hp : 0 < s.size) (hz : 1 < s.size → s[0].toNat ≠ 48) : 2147483647 < val (s.data.toList.take s.size) := by
  rw [take_allB]
  have hlen : s.data.toList.length = s.size := by rw [Array.length_toList]; rfl
  have hd : Lib.decDigits (val s.data.toList) = s.data.toList := by
    refine dec_val _ ?_ ?_ ?_
    · intro b hb
      obtain ⟨k, hk⟩ := List.mem_iff_getElem?.1 hb
      have hkl : k < s.size := by rw [← hlen]; exact (List.getElem?_eq_some_iff.1 hk).1
      rw [bgetL s k hkl] at hk
      cases hk; exact hall k hkl
    · intro h; rw [h] at hlen; simp at hlen; omega
    · intro hl b hb
      rw [bgetL s 0 hp] at hb
      cases hb; exact hz (by omega)
  rcases Nat.lt_or_ge 2147483647 (val s.data.toList) with h | h
  · exact h
  · exact absurd ⟨strEq (by unfold decS; simpa using hd.symm), h⟩ (hno (val s.data.toList))

set_option maxHeartbeats 3200000 in
theorem baseWhole_no (s : ByteArray) (w : World) (hs : s.size ≤ maxLen) (hno : ∀ n, ¬ IsNum s n) :
    Calls Tryd.prog 34 #[.string s, .int .i64 10] w (WholePost w) := by
  unfold maxLen at hs
  have hlen : s.data.toList.length = s.size := by rw [Array.length_toList]; rfl
  by_cases h0 : s.size = 0
  · have hne : s.toList.isEmpty = true := by
      rw [ByteArray.toList_eq, List.isEmpty_iff]; exact List.length_eq_zero_iff.1 (by omega)
    have hnl : s.toList = [] := by rw [ByteArray.toList_eq]; exact List.length_eq_zero_iff.1 (by omega)
    have Hno := Lib.hid hno; clear hno hlen h0
    go_enter Tryd.func34, Tryd.ntmps34
    go_wp2
    go_ret2
    exact ⟨0, false, rfl, .inl rfl, by omega, rfl⟩
  · have hne : s.toList.isEmpty = false := by
      rw [ByteArray.toList_eq]
      cases h : s.data.toList with
      | nil => rw [h] at hlen; simp at hlen; omega
      | cons a b => rfl
    have hp : 0 < s.size := by omega
    by_cases h10 : 10 < s.size
    · have h10' : (10 : Int) < s.size := by omega
      have Hno := Lib.hid hno; clear hno hlen h0
      go_enter Tryd.func34, Tryd.ntmps34
      go_wp2
      go_ret2
      exact ⟨0, false, rfl, .inl rfl, by omega, rfl⟩
    · by_cases hz : 1 < s.size ∧ s[0].toNat = 48
      · obtain ⟨hz1, hz2⟩ := hz
        have hz0 : ((s[0].toNat : Int) == 48) = true := by simp; omega
        have h10' : ¬ (10 : Int) < s.size := by omega
        have hz1' : (1 : Int) < s.size := by omega
        have Hno := Lib.hid hno; clear hno hlen h0 hz2
        go_enter Tryd.func34, Tryd.ntmps34
        go_wp2
        go_ret2
        exact ⟨0, false, rfl, .inl rfl, by omega, rfl⟩
      · have Hz : Hid (1 < s.size → s[0].toNat ≠ 48) := fun a b => hz ⟨a, b⟩
        have Hno := Lib.hid hno
        have h10' : ¬ (10 : Int) < s.size := by omega
        clear hno hlen h0 hz
        have loop : ∀ (hq : (1 : Int) < s.size ∧ ((s[0].toNat : Int) == 48) = false ∨ ¬ (1 : Int) < s.size), Calls Tryd.prog 34 #[.string s, .int .i64 10] w (WholePost w) := by
          intro hq
          rcases hq with ⟨hq1, hq2⟩ | hq1
          all_goals
            go_enter Tryd.func34, Tryd.ntmps34
            go_wp2
            go_loop [6, 7] (fun v i => ∃ k : Nat, k ≤ s.size ∧ i = .int .i64 k ∧ v = .int .i64 (val (s.data.toList.take k)) ∧ val (s.data.toList.take k) < 10 ^ k ∧ ∀ j (h : j < s.size), j < k → IsDig s[j]) (fun _ i => s.size - (intOf i).toNat)
            case atStart => exact ⟨0, by omega, rfl, rfl, by simp [val], fun j h hj => by omega⟩
            case round =>
              obtain ⟨k, hk, rfl, rfl, hv, hall⟩ := hrel
              have hvb : val (s.data.toList.take k) < 10000000000 := Nat.lt_of_lt_of_le hv (Nat.pow_le_pow_right (by decide) (show k ≤ 10 by omega))
              have Hall := Lib.hid hall; have Hv := Lib.hid hv
              clear hall hv
              by_cases hlt : k < s.size
              · have Hst := Lib.hid (val_take s k hlt)
                by_cases h1 : s[k].toNat < 48
                · have h1' : (s[k].toNat : Int) < 48 := by omega
                  clear h1
                  go_wp2
                  go_ret2
                  exact ⟨0, false, rfl, .inl rfl, by omega, rfl⟩
                · by_cases h2 : 57 < s[k].toNat
                  · have h1' : ¬ (s[k].toNat : Int) < 48 := by omega
                    have h2' : (57 : Int) < (s[k].toNat : Int) := by omega
                    clear h1 h2
                    go_wp2
                    go_ret2
                    exact ⟨0, false, rfl, .inl rfl, by omega, rfl⟩
                  · have h1' : (48 : Int) ≤ (s[k].toNat : Int) := by omega
                    have h2' : (s[k].toNat : Int) ≤ 57 := by omega
                    have Hall2 : Hid (∀ j (h : j < s.size), j < k + 1 → IsDig s[j]) := fun j h hj => by
                      rcases Nat.lt_or_ge j k with h3 | h3
                      · exact Hall.out j h h3
                      · obtain rfl : j = k := by omega
                        unfold IsDig; omega
                    have Hv2 : Hid (val (s.data.toList.take (k + 1)) < 10 ^ (k + 1)) := by
                      have := Hv.out
                      show val (s.data.toList.take (k + 1)) < 10 ^ (k + 1)
                      rw [Hst.out, Nat.pow_succ]; omega
                    clear h1 h2
                    generalize hq : val (s.data.toList.take k) = q at *
                    clear hq
                    go_wp2
                    go_round
                    case rel => exact ⟨k + 1, by omega, by go_num, by rw [Hst.out]; go_num, Hv2.out, Hall2.out⟩
                    case measure => simp [intOf]; omega
              · obtain rfl : k = s.size := by omega
                have Hg := Lib.hid (whole_great s Hno.out (fun j h => Hall.out j h h) hp Hz.out)
                go_wp2
                go_ret2
                exact ⟨_, true, rfl, .inr Hg.out, by omega, rfl⟩
        by_cases h1 : (1 : Int) < s.size
        · exact loop (.inl ⟨h1, by have := Hz.out (by omega); simp; omega⟩)
        · exact loop (.inr h1)
end Go.Proofs.YtapmjkgndojdfaaDoor
