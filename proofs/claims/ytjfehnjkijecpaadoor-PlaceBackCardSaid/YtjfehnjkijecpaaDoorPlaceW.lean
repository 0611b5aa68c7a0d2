/-
  The walks of package place, and of the document's answer on places.
-/
import Derived.Test.YtjfehnjkijecpaaDoorRows
import Derived.Test.YtjfehnjkijecpaaDoorPlaceM
import Derived.WalkKit
import Derived.WalkSpells
import Derived.WalkLawsBesides
import Derived.ScopeJumps
import Derived.Lib.Hide
namespace Go.Proofs.YtjfehnjkijecpaaDoor
open Go.RowKit

theorem ret_int {k : IntKind} {a b : Int} (h : a = b) : Ending.returned (.int k a) = .returned (.int k b) := by rw [h]
theorem ret_tup3 {j k l : IntKind} {a b c x y z : Int} (h1 : a = x) (h2 : b = y) (h3 : c = z) : Ending.returned (.tuple #[.int j a, .int k b, .int l c]) = .returned (.tuple #[.int j x, .int k y, .int l z]) := by rw [h1, h2, h3]
theorem ret_tup2 {j k : IntKind} {a b x y : Int} (h1 : a = x) (h2 : b = y) : Ending.returned (.tuple #[.int j a, .int k b]) = .returned (.tuple #[.int j x, .int k y]) := by rw [h1, h2]
theorem placeGet (s : ByteArray) (k : Nat) (h : k < s.size) : s.data.toList[k]? = some s[k] := by
  simp [h]; rfl

theorem placeTest (s : ByteArray) (k : Nat) (h : k < s.size) (h' : s.data.toList[k]? = some 10) : ((s[k].toNat : Int) != 10) = false := by
  rw [placeGet s k h] at h'
  simp at h'; simp [h']
theorem placeTest' (s : ByteArray) (k : Nat) (h : k < s.size) (h' : ¬ s.data.toList[k]? = some 10) : ((s[k].toNat : Int) != 10) = true := by
  rw [placeGet s k h] at h'
  simp only [bne_iff_ne, ne_eq]
  intro hc
  apply h'
  congr 1
  apply UInt8.toNat_inj.1
  simpa using (by omega : s[k].toNat = 10)

theorem placeTestE (s : ByteArray) (k : Nat) (h : k < s.size) (h' : s.data.toList[k]? = some 10) : ((s[k].toNat : Int) == 10) = true := by
  have := placeTest s k h h'; simpa using this
theorem placeTestE' (s : ByteArray) (k : Nat) (h : k < s.size) (h' : ¬ s.data.toList[k]? = some 10) : ((s[k].toNat : Int) == 10) = false := by
  have := placeTest' s k h h'; simpa using this

set_option maxHeartbeats 400000 in
theorem feedAhead_any (s : ByteArray) (n : Nat) (w : World) (hs : s.size ≤ maxLen) (hn : n ≤ s.size) :
    Calls Tryd.prog 44 #[.string s, .int .i64 n] w fun e w' => e = .returned (.int .i64 (PlaceM.fa s.data.toList n)) ∧ w' = w := by
  unfold maxLen at hs
  go_enter Tryd.func44, Tryd.ntmps44
  go_wp2
  refine wp_scope_jumps 0 (fun a' w' => w' = w ∧ ∃ (m : Nat) (u5 u6 u7 u8 u9 u10 u11 u12 u13 u14 : Value), a' = { tmps := #[.string s, .int .i64 m, undef, undef, .int .i64 0, u5, u6, u7, u8, u9, u10, u11, u12, u13, u14, undef], defers := [] } ∧ PlaceM.fa s.data.toList m = PlaceM.fa s.data.toList n ∧ m ≤ n) (fun a' _ => (intOf (a'.tmps.getD 1 undef)).toNat) rfl ?_ ?_
  · go_wp2
    go_step3
    cases n with
    | zero =>
      go_wp2
      simp only [Exit.jump]
      go_ret
      exact ⟨rfl, rfl⟩
    | succ k =>
      by_cases hf : s.data.toList[k]? = some 10
      · have ht := placeTest s k (by omega) hf
        have H := Lib.hid (PlaceM.fa_hit _ _ hf); clear hf
        go_wp2
        simp only [Exit.jump]
        go_ret
        exact ⟨ret_int H.out.symm, rfl⟩
      · have ht := placeTest' s k (by omega) hf
        have H := Lib.hid (PlaceM.fa_step _ _ hf); clear hf
        go_wp2
        go_step3
        exact ⟨rfl, rfl, k, _, _, _, _, _, _, _, _, _, _, rfl, H.out.symm, by omega⟩
  · rintro a' w' ⟨rfl, m, u5, u6, u7, u8, u9, u10, u11, u12, u13, u14, rfl, hm, hmn⟩
    have Hm := Lib.hid hm; clear hm
    cases m with
    | zero =>
      go_wp2
      simp only [Exit.jump]
      go_ret
      exact ⟨by rw [← Hm.out]; rfl, rfl⟩
    | succ k =>
      by_cases hf : s.data.toList[k]? = some 10
      · have ht := placeTest s k (by omega) hf
        have H := Lib.hid (PlaceM.fa_hit _ _ hf); clear hf
        go_wp2
        simp only [Exit.jump]
        go_ret
        exact ⟨ret_int (by rw [← Hm.out, H.out]), rfl⟩
      · have ht := placeTest' s k (by omega) hf
        have H := Lib.hid (PlaceM.fa_step _ _ hf); clear hf
        go_wp2
        go_step3
        exact ⟨rfl, ⟨rfl, k, _, _, _, _, _, _, _, _, _, _, rfl, H.out.symm.trans Hm.out, by omega⟩, by simp [intOf]⟩

set_option maxHeartbeats 400000 in
theorem feedFrom_any (s : ByteArray) (n : Nat) (w : World) (hs : s.size ≤ maxLen) (hn : n ≤ s.size) :
    Calls Tryd.prog 45 #[.string s, .int .i64 n] w fun e w' => e = .returned (.int .i64 (PlaceM.ff s.data.toList n (s.size - n))) ∧ w' = w := by
  unfold maxLen at hs
  go_enter Tryd.func45, Tryd.ntmps45
  go_wp2
  refine wp_scope_jumps 0 (fun a' w' => w' = w ∧ ∃ (m : Nat) (u5 u6 u7 u8 u9 u10 u11 u12 u13 u14 u15 u16 : Value), a' = { tmps := #[.string s, .int .i64 m, undef, undef, .int .i64 0, u5, u6, u7, u8, u9, u10, u11, u12, u13, u14, u15, u16, undef], defers := [] } ∧ PlaceM.ff s.data.toList m (s.size - m) = PlaceM.ff s.data.toList n (s.size - n) ∧ m ≤ s.size) (fun a' _ => s.size - (intOf (a'.tmps.getD 1 undef)).toNat) rfl ?_ ?_
  · go_wp2
    go_step3
    by_cases hlt : n < s.size
    · obtain ⟨r, hr⟩ : ∃ r, s.size - n = r + 1 := ⟨s.size - n - 1, by omega⟩
      have hr' : r = s.size - (n + 1) := by omega
      by_cases hf : s.data.toList[n]? = some 10
      · have ht := placeTest s n hlt hf
        have H := Lib.hid (PlaceM.ff_hit _ _ r hf); clear hf
        have Hr := Lib.hid hr; clear hr hr'
        go_wp2
        simp only [Exit.jump]
        go_ret
        exact ⟨ret_int (by rw [Hr.out, H.out]), rfl⟩
      · have ht := placeTest' s n hlt hf
        have H := Lib.hid (PlaceM.ff_step _ _ r hf); clear hf
        have Hr := Lib.hid hr; have Hr' := Lib.hid hr'; clear hr hr'
        go_wp2
        go_step3
        exact ⟨rfl, rfl, n + 1, _, _, _, _, _, _, _, _, _, _, _, _, rfl, by rw [Hr.out, H.out, Hr'.out], by omega⟩
    · have hr : s.size - n = 0 := by omega
      have Hr := Lib.hid hr; clear hr
      go_wp2
      simp only [Exit.jump]
      go_ret
      exact ⟨ret_int (by rw [Hr.out]; rfl), rfl⟩
  · rintro a' w' ⟨rfl, m, u5, u6, u7, u8, u9, u10, u11, u12, u13, u14, u15, u16, rfl, hm, hms⟩
    have Hm := Lib.hid hm; clear hm
    by_cases hlt : m < s.size
    · obtain ⟨r, hr⟩ : ∃ r, s.size - m = r + 1 := ⟨s.size - m - 1, by omega⟩
      have hr' : r = s.size - (m + 1) := by omega
      by_cases hf : s.data.toList[m]? = some 10
      · have ht := placeTest s m hlt hf
        have H := Lib.hid (PlaceM.ff_hit _ _ r hf); clear hf
        have Hr := Lib.hid hr; clear hr hr'
        go_wp2
        simp only [Exit.jump]
        go_ret
        exact ⟨ret_int (by rw [← Hm.out, Hr.out, H.out]), rfl⟩
      · have ht := placeTest' s m hlt hf
        have H := Lib.hid (PlaceM.ff_step _ _ r hf); clear hf
        have Hr := Lib.hid hr; have Hr' := Lib.hid hr'; clear hr hr'
        go_wp2
        go_step3
        exact ⟨rfl, ⟨rfl, m + 1, _, _, _, _, _, _, _, _, _, _, _, _, rfl, by rw [← Hm.out, Hr.out, H.out, Hr'.out], by omega⟩, by simp [intOf]; omega⟩
    · have hr : s.size - m = 0 := by omega
      have Hr := Lib.hid hr; clear hr
      go_wp2
      simp only [Exit.jump]
      go_ret
      exact ⟨ret_int (by rw [← Hm.out, Hr.out]; rfl), rfl⟩
end Go.Proofs.YtjfehnjkijecpaaDoor
