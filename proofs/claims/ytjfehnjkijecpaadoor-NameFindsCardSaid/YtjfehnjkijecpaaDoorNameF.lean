/-
  Caps, finding among texts, what is fresh and what stands twice: package name's and the document's walks.
-/
import Derived.Test.YtjfehnjkijecpaaDoorKeyw
import Derived.Test.YtjfehnjkijecpaaDoorTab
import Derived.Maps.OwnSet
import Derived.WalkSpells
namespace Go.Proofs.YtjfehnjkijecpaaDoor
open Go.RowKit Go.Maps
set_option linter.unusedVariables false

set_option maxRecDepth 100000 in
theorem cap_any (s : ByteArray) (w : World) (hs : s.size ≤ maxLen) :
    Calls Tryd.prog 17 #[.string s] w fun e w' => e = .returned (.bool (letB s 65)) ∧ w = w' := by
  go_enter Tryd.func17, Tryd.ntmps17
  go_wp2_with fail
  refine (lettered65 s w hs).mono ?_
  rintro e w' ⟨rfl, rfl⟩
  go_wp2_with fail
  go_ret
  exact ⟨rfl, rfl⟩
set_option maxRecDepth 100000 in
theorem refCap_any (s : ByteArray) (w : World) (hs : s.size ≤ maxLen) :
    Calls Tryd.prog 18 #[.string s] w fun e w' => e = .returned (.bool (letB s 65)) ∧ w = w' := by
  go_enter Tryd.func18, Tryd.ntmps18
  go_wp2_with fail
  refine (letters65 s w hs).mono ?_
  rintro e w' ⟨rfl, rfl⟩
  go_wp2_with fail
  go_ret
  exact ⟨rfl, rfl⟩
set_option maxRecDepth 100000 in
set_option maxHeartbeats 1600000 in
theorem find_any (s : ByteArray) (v : Value) (l : List ByteArray) (B : Nat) (w : World) (hs : s.size ≤ maxLen) (hr : Row w B 1 v l.length (sv l)) :
    Calls Tryd.prog 24 #[.string s, v] w fun e w' => e = .returned (.int .i64 (findI s l)) ∧ w = w' := by
  obtain ⟨ao, c, rfl, hc1, hc2⟩ := hr.val
  have hl63 : l.length ≤ 9223372036854775807 := by unfold maxLen at hc2; omega
  go_enter Tryd.func24, Tryd.ntmps24
  go_wp2
  go_loop [9] (fun i => ∃ k : Nat, k ≤ l.length ∧ i = .int .i64 k ∧ ∀ j (hj : j < l.length), j < k → (l[j].toList == s.toList) = false) (fun i => l.length - (intOf i).toNat)
  case atStart => exact ⟨0, by omega, rfl, fun j _ hj => by omega⟩
  case round =>
    obtain ⟨k, hk, rfl, hall⟩ := hrel
    have Hall := Lib.hid hall; clear hall
    by_cases hlt : k < l.length
    · obtain ⟨b, off, rfl, hbB, _⟩ := hr.at (by rw [sv_length]; omega)
      have hc := hr.cell k _ (sv_at l k hlt)
      have Hr := Lib.hid hr; clear hr
      rcases Bool.eq_false_or_eq_true (l[k].toList == s.toList) with h | h
      · have HT := Lib.hid (findI_at s l k hlt h Hall.out)
        go_wp2
        go_ret
        exact ⟨ret_i HT.out.symm, rfl⟩
      · have hnext := Lib.hid (lstep s l k hlt Hall.out h)
        go_wp2
        go_round
        case rel => exact ⟨k + 1, by omega, by go_num, hnext.out⟩
        case measure => simp [intOf]; omega
    · obtain rfl : k = l.length := by omega
      have HF := Lib.hid (findI_not s l Hall.out)
      go_wp2
      go_ret
      exact ⟨ret_i HF.out.symm, rfl⟩
end Go.Proofs.YtjfehnjkijecpaaDoor
