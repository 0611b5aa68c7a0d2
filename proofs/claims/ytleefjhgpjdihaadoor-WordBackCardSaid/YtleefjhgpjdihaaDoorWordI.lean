/-
  Programs' names, letter by letter; types; what a type points to.
-/
import Derived.Test.YtleefjhgpjdihaaDoorWord
namespace Go.Proofs.YtleefjhgpjdihaaDoor
open Go.RowKit
set_option linter.unusedVariables false

/-- May the byte at j of a program's name stand there? -/
def wchAt (s : ByteArray) (j : Nat) : Bool := decide ((97 ≤ (s.data.toList.getD j 0).toNat ∧ (s.data.toList.getD j 0).toNat ≤ 122) ∨ (65 ≤ (s.data.toList.getD j 0).toNat ∧ (s.data.toList.getD j 0).toNat ≤ 90) ∨ (0 < j ∧ (48 ≤ (s.data.toList.getD j 0).toNat ∧ (s.data.toList.getD j 0).toNat ≤ 57)) ∨ (s.data.toList.getD j 0).toNat = 95)
def spB (s : ByteArray) : Bool := decide (1 ≤ s.size ∧ s.size ≤ 40) && (List.range s.size).all (wchAt s)
def isB (s : ByteArray) : Bool := spB s && !inB s resT
theorem wchStep (s : ByteArray) (m : Nat) (h : ∀ j, j < m → wchAt s j = true) (hm : wchAt s m = true) : ∀ j, j < m + 1 → wchAt s j = true := by
  intro j hj
  rcases Nat.lt_or_ge j m with h1 | h1
  · exact h j h1
  · obtain rfl : j = m := by omega
    exact hm
theorem spB_out (s : ByteArray) (h : ¬ (1 ≤ s.size ∧ s.size ≤ 40)) : spB s = false := by
  unfold spB; rw [decide_eq_false h]; rfl
theorem spB_not (s : ByteArray) (m : Nat) (hm : m < s.size) (h : wchAt s m = false) : spB s = false := by
  unfold spB
  rw [Bool.and_eq_false_iff]; right
  rw [List.all_eq_false]
  exact ⟨m, by simpa using hm, by simp [h]⟩
theorem spB_yes (s : ByteArray) (h1 : 1 ≤ s.size) (h2 : s.size ≤ 40) (h : ∀ j, j < s.size → wchAt s j = true) : spB s = true := by
  unfold spB
  rw [Bool.and_eq_true]
  exact ⟨decide_eq_true ⟨h1, h2⟩, List.all_eq_true.2 fun j hj => h j (by simpa using hj)⟩
theorem wch_true (s : ByteArray) (m : Nat) (hm : m < s.size) (h : wchAt s m = true) :
    ((97 : Int) ≤ (s[m].toNat : Int) ∧ (s[m].toNat : Int) ≤ 122) ∨ ((65 : Int) ≤ (s[m].toNat : Int) ∧ (s[m].toNat : Int) ≤ 90) ∨ (0 < m ∧ (48 : Int) ≤ (s[m].toNat : Int) ∧ (s[m].toNat : Int) ≤ 57) ∨ ((95 : Int) ≤ (s[m].toNat : Int) ∧ (s[m].toNat : Int) ≤ 95) := by
  unfold wchAt at h
  rw [nget s m hm] at h
  have h' := of_decide_eq_true h
  rcases h' with h' | h' | ⟨h0, h'⟩ | h'
  · left; omega
  · right; left; omega
  · right; right; left; exact ⟨h0, by omega, by omega⟩
  · right; right; right; omega
theorem wch_false (s : ByteArray) (m : Nat) (hm : m < s.size) (h : wchAt s m = false) :
    (m = 0 ∧ (48 : Int) ≤ (s[m].toNat : Int) ∧ (s[m].toNat : Int) ≤ 57) ∨ (s[m].toNat : Int) < 48 ∨ (57 < (s[m].toNat : Int) ∧ (s[m].toNat : Int) < 65) ∨ (90 < (s[m].toNat : Int) ∧ (s[m].toNat : Int) < 95) ∨ (95 < (s[m].toNat : Int) ∧ (s[m].toNat : Int) < 97) ∨ 122 < (s[m].toNat : Int) := by
  unfold wchAt at h
  rw [nget s m hm] at h
  have h' := of_decide_eq_false h
  omega

set_option maxRecDepth 100000 in
set_option maxHeartbeats 4000000 in
theorem is_any (s : ByteArray) (w : World) (hs : s.size ≤ maxLen) (hres : StrsIs w 0 resT) :
    Calls Tryd.prog 11 #[.string s] w fun e w' => e = .returned (.bool (isB s)) ∧ w = w' := by
  have HR := Lib.hid (reserved_any s w hs hres)
  unfold maxLen at hs
  have HI : Hid (isB s = (spB s && !inB s resT)) := rfl
  by_cases hsz : 1 ≤ s.size ∧ s.size ≤ 40
  · obtain ⟨hz1, hz2⟩ := hsz
    have hi1 : (1 : Int) ≤ (s.size : Int) := by omega
    have hi2 : (s.size : Int) ≤ 40 := by omega
    by_cases hd : (48 : Int) ≤ (s[0].toNat : Int) ∧ (s[0].toNat : Int) ≤ 57
    · have HF : Hid (isB s = false) := by
        show _ = _
        rw [HI.out, spB_not s 0 (by omega) (by unfold wchAt; rw [nget s 0 (by omega)]; exact decide_eq_false (by omega)), Bool.false_and]
      obtain ⟨hd1, hd2⟩ := hd
      go_enter Tryd.func11, Tryd.ntmps11
      go_wp2_with fail
      go_ret
      exact ⟨ret_bool HF.out.symm, rfl⟩
    · have hd' : (s[0].toNat : Int) < 48 ∨ (57 : Int) < (s[0].toNat : Int) := by omega
      have Hd := Lib.hid hd
      clear hd
      have HI2 := HI
      cases hin : inB s resT
      · have HE : Hid (isB s = spB s) := by show _ = _; rw [HI.out, hin]; simp
        rw [hin] at HR
        rcases hd' with hd | hd
        all_goals
          go_enter Tryd.func11, Tryd.ntmps11
          go_wp2_with fail
          refine HR.out.mono ?_
          rintro e w' ⟨rfl, rfl⟩
          go_wp2_with fail
          go_loop [3] (fun i => ∃ k : Nat, k ≤ s.size ∧ i = .int .i64 k ∧ ∀ j, j < k → wchAt s j = true) (fun i => s.size - (intOf i).toNat)
          case atStart => exact ⟨0, by omega, rfl, fun j hj => by omega⟩
          case round =>
            obtain ⟨k, hk, rfl, hall⟩ := hrel
            have Hall := Lib.hid hall; clear hall
            by_cases hlt : k < s.size
            · by_cases ht : wchAt s k = true
              · have hnext := Lib.hid (wchStep s k Hall.out ht)
                rcases wch_true s k hlt ht with ⟨h1, h2⟩ | ⟨h1, h2⟩ | ⟨h0, h1, h2⟩ | ⟨h1, h2⟩
                all_goals
                  clear ht
                  first
                    | (have hn95 : ((s[k].toNat : Int) == 95) = true := by (simp; omega))
                    | skip
                  go_wp2
                  all_goals first
                    | exact ⟨⟨k + 1, by omega, by go_num, hnext.out⟩, by simp [intOf]; omega⟩
                    | (exfalso; rename_i z; simp at z; omega)
              · have HF := Lib.hid (spB_not s k hlt (by simpa using ht))
                rcases wch_false s k hlt (by simpa using ht) with ⟨h0, h, h'⟩ | h | ⟨h, h'⟩ | ⟨h, h'⟩ | ⟨h, h'⟩ | h
                · subst h0; exact absurd ⟨h, h'⟩ Hd.out
                all_goals
                  clear ht
                  have hn95 : ((s[k].toNat : Int) == 95) = false := by simp; omega
                  have hm95 : (!((s[k].toNat : Int) == 95)) = true := by simp; omega
                  go_wp2
                  all_goals first
                    | (go_ret; exact ⟨ret_bool (by rw [HE.out, HF.out]), rfl⟩)
                    | (exfalso; rename_i z; simp at z; omega)
            · obtain rfl : k = s.size := by omega
              have HT := Lib.hid (spB_yes s hz1 hz2 Hall.out)
              go_wp2
              go_ret
              exact ⟨ret_bool (by rw [HE.out, HT.out]), rfl⟩
      · have HE : Hid (isB s = false) := by show _ = _; rw [HI.out, hin]; simp
        rw [hin] at HR
        rcases hd' with hd | hd
        all_goals
          go_enter Tryd.func11, Tryd.ntmps11
          go_wp2_with fail
          refine HR.out.mono ?_
          rintro e w' ⟨rfl, rfl⟩
          go_wp2_with fail
          go_ret
          exact ⟨ret_bool HE.out.symm, rfl⟩
  · have HF : Hid (isB s = false) := by show _ = _; rw [HI.out, spB_out s hsz, Bool.false_and]
    rcases (show (s.size : Int) < 1 ∨ (40 : Int) < s.size from by omega) with h | h
    all_goals
      clear hsz
      go_enter Tryd.func11, Tryd.ntmps11
      go_wp2_with fail
      go_ret
      exact ⟨ret_bool HF.out.symm, rfl⟩

set_option maxRecDepth 100000 in
set_option maxHeartbeats 4000000 in
theorem spelt_any (s : ByteArray) (w : World) (hs : s.size ≤ maxLen) :
    Calls Tryd.prog 32 #[.string s] w fun e w' => e = .returned (.bool (spB s)) ∧ w = w' := by
  unfold maxLen at hs
  by_cases hsz : 1 ≤ s.size ∧ s.size ≤ 40
  · obtain ⟨hz1, hz2⟩ := hsz
    have hi1 : (1 : Int) ≤ (s.size : Int) := by omega
    have hi2 : (s.size : Int) ≤ 40 := by omega
    go_enter Tryd.func32, Tryd.ntmps32
    go_wp2_with fail
    go_loop [3] (fun i => ∃ k : Nat, k ≤ s.size ∧ i = .int .i64 k ∧ ∀ j, j < k → wchAt s j = true) (fun i => s.size - (intOf i).toNat)
    case atStart => exact ⟨0, by omega, rfl, fun j hj => by omega⟩
    case round =>
      obtain ⟨k, hk, rfl, hall⟩ := hrel
      have Hall := Lib.hid hall; clear hall
      by_cases hlt : k < s.size
      · by_cases ht : wchAt s k = true
        · have hnext := Lib.hid (wchStep s k Hall.out ht)
          rcases wch_true s k hlt ht with ⟨h1, h2⟩ | ⟨h1, h2⟩ | ⟨h0, h1, h2⟩ | ⟨h1, h2⟩
          all_goals
            clear ht
            first
              | (have hn95 : ((s[k].toNat : Int) == 95) = true := by (simp; omega))
              | (have hn95 : ((s[k].toNat : Int) == 95) = false := by (simp; omega))
            first
              | (have hk0 : ((k : Int) == 0) = false := by (simp; omega))
              | skip
            go_wp2
            all_goals first
              | exact ⟨⟨k + 1, by omega, by go_num, hnext.out⟩, by simp [intOf]; omega⟩
              | (exfalso; rename_i z; simp at z; omega)
        · have HF := Lib.hid (spB_not s k hlt (by simpa using ht))
          have hw := wch_false s k hlt (by simpa using ht)
          clear ht
          rcases Nat.eq_zero_or_pos k with hz | hz
          · subst hz
            clear Hall
            have hk0 : (((0 : Nat) : Int) == 0) = true := rfl
            rcases hw with ⟨h0, h, h'⟩ | h | ⟨h, h'⟩ | ⟨h, h'⟩ | ⟨h, h'⟩ | h
            all_goals
              have hn95 : ((s[0].toNat : Int) == 95) = false := by simp; omega
              go_wp2
              all_goals first
                | (go_ret; exact ⟨ret_bool HF.out.symm, rfl⟩)
                | (exfalso; rename_i z; simp at z; omega)
          · have hk0 : ((k : Int) == 0) = false := by simp; omega
            rcases hw with ⟨h0, h, h'⟩ | h | ⟨h, h'⟩ | ⟨h, h'⟩ | ⟨h, h'⟩ | h
            · omega
            all_goals
              have hn95 : ((s[k].toNat : Int) == 95) = false := by simp; omega
              go_wp2
              all_goals first
                | (go_ret; exact ⟨ret_bool HF.out.symm, rfl⟩)
                | (exfalso; rename_i z; simp at z; omega)
      · obtain rfl : k = s.size := by omega
        have HT := Lib.hid (spB_yes s hz1 hz2 Hall.out)
        go_wp2
        go_ret
        exact ⟨ret_bool HT.out.symm, rfl⟩
  · have HF : Hid (spB s = false) := spB_out s hsz
    rcases (show (s.size : Int) < 1 ∨ (40 : Int) < s.size from by omega) with h | h
    all_goals
      clear hsz
      go_enter Tryd.func32, Tryd.ntmps32
      go_wp2_with fail
      go_ret
      exact ⟨ret_bool HF.out.symm, rfl⟩
set_option maxRecDepth 100000 in
theorem refIs_any (s : ByteArray) (w : World) (hs : s.size ≤ maxLen) :
    Calls Tryd.prog 12 #[.string s] w fun e w' => e = .returned (.bool (isB s)) ∧ Below w.heap.size w w' := by
  have HI : Hid (isB s = (spB s && !inB s resT)) := rfl
  have h1 := spelt_any s w hs
  have h2 := refReserved_any s w hs
  generalize spB s = a at *
  generalize inB s resT = b at *
  go_enter Tryd.func12, Tryd.ntmps12
  go_wp2_with fail
  refine h1.mono ?_
  rintro e w' ⟨rfl, rfl⟩
  cases a
  · go_wp2_with fail
    go_ret
    exact ⟨ret_bool HI.out.symm, Below.refl _ _⟩
  · go_wp2_with fail
    refine h2.mono ?_
    rintro e w' ⟨rfl, hb⟩
    go_wp2_with fail
    go_ret
    exact ⟨ret_bool HI.out.symm, hb⟩
end Go.Proofs.YtleefjhgpjdihaaDoor
