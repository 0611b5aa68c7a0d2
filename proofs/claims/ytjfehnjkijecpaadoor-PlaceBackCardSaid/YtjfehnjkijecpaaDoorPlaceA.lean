/-
  The walks of place.At, of the document's answer to it, and of the statements' own helpers.
-/
import Derived.Test.YtjfehnjkijecpaaDoorPlaceV
namespace Go.Proofs.YtjfehnjkijecpaaDoor
open Go.RowKit

/-- A place of the text that has this line and this column. -/
def PlaceAt (l : List UInt8) (line column : Int) (n : Nat) : Prop := (PlaceM.cnt l n : Int) + 1 = line ∧ (n : Int) - PlaceM.fa l n = column

set_option maxHeartbeats 400000 in
theorem placeAt_yes (s : ByteArray) (line column : Int) (n : Nat) (w : World) (hs : s.size ≤ 140737488355328) (hn : n ≤ s.size) (hp : PlaceAt s.data.toList line column n) :
    Calls Tryd.prog 16 #[.string s, .int .i64 line, .int .i64 column] w fun e w' => e = .returned (.tuple #[.int .i64 n, .int .i64 0]) ∧ w' = w := by
  have hs' : s.size ≤ maxLen := by unfold maxLen; omega
  obtain ⟨hp1, hp2⟩ := hp
  have b1 := PlaceM.cnt_le s.data.toList n
  have b2 := PlaceM.fa_ge s.data.toList n
  have b3 := PlaceM.fa_lt s.data.toList n
  have g1 : 1 ≤ line := by omega
  have g2 : 1 ≤ column := by omega
  have g3 : line ≤ 140737488355329 := by omega
  have g4 : column ≤ 140737488355329 := by omega
  have Hp1 := Lib.hid hp1; have Hp2 := Lib.hid hp2; clear hp1 hp2 b1 b2 b3
  go_enter Tryd.func16, Tryd.ntmps16
  go_wp2
  go_loop [1, 8, 9] (fun L p f => ∃ (c : Nat) (q : Nat), q ≤ n ∧ (c : Int) + 1 ≤ line ∧ L = .int .i64 (line - c) ∧ p = .int .i64 q ∧ PlaceM.cnt s.data.toList q = c ∧ PlaceM.fa s.data.toList q = (q : Int) - 1) (fun L _ _ => (intOf L).toNat)
  case atStart => exact ⟨0, 0, by omega, by omega, by simp, rfl, rfl, rfl⟩
  case round =>
    obtain ⟨c, q, hq, hc, rfl, rfl, hcq, hfq⟩ := hrel
    have Hcq := Lib.hid hcq; have Hfq := Lib.hid hfq; clear hcq hfq
    have hle := PlaceM.ff_le s.data.toList q (s.size - q)
    have hge := PlaceM.ff_ge s.data.toList q (s.size - q)
    have hle' : PlaceM.ff s.data.toList q (s.size - q) ≤ s.size := by omega
    by_cases hlt : (c : Int) + 1 < line
    · have hff : PlaceM.ff s.data.toList q (s.size - q) < n := by
        rcases Nat.lt_or_ge (PlaceM.ff s.data.toList q (s.size - q)) n with h | h
        · exact h
        · have h1 := PlaceM.cnt_of_none s.data.toList q n hq (fun i a b => PlaceM.ff_none _ q (s.size - q) i a (by omega))
          have h2 := Hp1.out; have h3 := Hcq.out
          omega
      have hfeed := Lib.hid (PlaceM.ff_feed s.data.toList q (s.size - q) (by omega))
      have Hfn := Lib.hid (PlaceM.cnt_of_none s.data.toList q _ hge (fun i a b => PlaceM.ff_none _ q _ i a b))
      generalize hx : PlaceM.ff s.data.toList q (s.size - q) = x at *
      have Hx := Lib.hid hx; clear hx
      have hne : ((x : Int) == (s.size : Int)) = false := by simp; omega
      have hlt' : 1 < line - c := by omega
      go_wp2_with fail
      refine (feedFrom_any s q _ hs' (by omega)).mono ?_
      rw [Hx.out]
      rintro e w' ⟨rfl, rfl⟩
      go_wp2_with fail
      go_round
      case rel => exact ⟨c + 1, x + 1, by omega, by omega, by go_num, by go_num, by rw [PlaceM.cnt_hit _ _ hfeed.out, Hfn.out, Hcq.out], by rw [PlaceM.fa_hit _ _ hfeed.out]; omega⟩
      case measure => simp [intOf]; omega
    · obtain rfl : line = c + 1 := by omega
      have hnf : ∀ i, q ≤ i → i < n → ¬ s.data.toList[i]? = some 10 := by
        intro i a b hi
        have h2 := Hp1.out; have h3 := Hcq.out
        have a1 := PlaceM.cnt_mono s.data.toList q i a
        have a2 := PlaceM.cnt_hit s.data.toList i hi
        have a3 := PlaceM.cnt_mono s.data.toList (i + 1) n (by omega)
        omega
      have hfn := PlaceM.fa_of_none s.data.toList q n hq hnf
      have hcol : column = (n : Int) - q + 1 := by have := Hp2.out; have := Hfq.out; omega
      have hff : n ≤ PlaceM.ff s.data.toList q (s.size - q) := by
        rcases Nat.lt_or_ge (PlaceM.ff s.data.toList q (s.size - q)) n with h | h
        · have h1 := PlaceM.ff_feed s.data.toList q (s.size - q) (by omega)
          exact absurd h1 (hnf _ hge h)
        · exact h
      subst hcol
      clear hfn
      have Hnf := Lib.hid hnf; clear hnf
      generalize hx : PlaceM.ff s.data.toList q (s.size - q) = x at *
      have Hx := Lib.hid hx; clear hx
      have h1 : ¬ ((x : Int) - q < (n : Int) - q) := by omega
      have h2 : ((c : Int) + 1 - c) = 1 := by omega
      have h3 : ((n : Int) - q + 1 - 1) = n - q := by omega
      rw [h2]
      have h5 : (n : Int) ≤ 140737488355329 := by omega
      have h6 : (q : Int) ≤ n := by omega
      clear hlt hc g1 g2 g3 g4 h2 h3
      go_wp2_with fail
      refine (feedFrom_any s q _ hs' (by omega)).mono ?_
      rw [Hx.out]
      rintro e w' ⟨rfl, rfl⟩
      go_wp2_with fail
      go_ret2
      exact ⟨ret_tup2 (by omega) rfl, rfl⟩

set_option maxHeartbeats 400000 in
theorem placeAt_low (s : ByteArray) (line column : Int) (w : World) (h : line < 1 ∨ column < 1) :
    Calls Tryd.prog 16 #[.string s, .int .i64 line, .int .i64 column] w fun e w' => e = .returned (.tuple #[.int .i64 0, .int .i64 3]) ∧ w' = w := by
  by_cases h1 : line < 1
  · clear h
    go_enter Tryd.func16, Tryd.ntmps16
    go_wp2
    go_ret2
    exact ⟨rfl, rfl⟩
  · have h2 : column < 1 := by omega
    clear h
    go_enter Tryd.func16, Tryd.ntmps16
    go_wp2
    go_ret2
    exact ⟨rfl, rfl⟩

set_option maxHeartbeats 400000 in
theorem placeAt_none (s : ByteArray) (line column : Int) (w : World) (hs : s.size ≤ 140737488355328) (hb : line ≤ 9223372036854775807) (hb' : column ≤ 9223372036854775807) (g1 : 1 ≤ line) (g2 : 1 ≤ column) (hp : ∀ n, n ≤ s.size → ¬ PlaceAt s.data.toList line column n) :
    Calls Tryd.prog 16 #[.string s, .int .i64 line, .int .i64 column] w fun e w' => e = .returned (.tuple #[.int .i64 0, .int .i64 3]) ∧ w' = w := by
  have hs' : s.size ≤ maxLen := by unfold maxLen; omega
  have Hp := Lib.hid hp; clear hp
  go_enter Tryd.func16, Tryd.ntmps16
  go_wp2
  go_loop [1, 8, 9] (fun L p f => ∃ (c : Nat) (q : Nat), q ≤ s.size ∧ (c : Int) + 1 ≤ line ∧ L = .int .i64 (line - c) ∧ p = .int .i64 q ∧ PlaceM.cnt s.data.toList q = c ∧ PlaceM.fa s.data.toList q = (q : Int) - 1) (fun L _ _ => (intOf L).toNat)
  case atStart => exact ⟨0, 0, by omega, by omega, by simp, rfl, rfl, rfl⟩
  case round =>
    obtain ⟨c, q, hq, hc, rfl, rfl, hcq, hfq⟩ := hrel
    have Hcq := Lib.hid hcq; have Hfq := Lib.hid hfq; clear hcq hfq
    have hle := PlaceM.ff_le s.data.toList q (s.size - q)
    have hge := PlaceM.ff_ge s.data.toList q (s.size - q)
    have hle' : PlaceM.ff s.data.toList q (s.size - q) ≤ s.size := by omega
    have Hnf := Lib.hid (fun i (a : q ≤ i) (b : i < PlaceM.ff s.data.toList q (s.size - q)) => PlaceM.ff_none s.data.toList q (s.size - q) i a b)
    have Hfe := Lib.hid (PlaceM.ff_feed s.data.toList q (s.size - q))
    generalize hx : PlaceM.ff s.data.toList q (s.size - q) = x at *
    have Hx := Lib.hid hx; clear hx
    by_cases hlt : (c : Int) + 1 < line
    · have hlt' : 1 < line - c := by omega
      by_cases hend : x = s.size
      · have hne : ((x : Int) == (s.size : Int)) = true := by simp; omega
        clear hend
        go_wp2_with fail
        refine (feedFrom_any s q _ hs' (by omega)).mono ?_
        rw [Hx.out]
        rintro e w' ⟨rfl, rfl⟩
        go_wp2_with fail
        go_ret2
        exact ⟨rfl, rfl⟩
      · have hne : ((x : Int) == (s.size : Int)) = false := by simp; omega
        have hlt2 : x < s.size := by omega
        have hfeed := Lib.hid (Hfe.out (by omega))
        have Hfn := Lib.hid (PlaceM.cnt_of_none s.data.toList q _ hge (fun i a b => Hnf.out i a b))
        clear hend
        go_wp2_with fail
        refine (feedFrom_any s q _ hs' (by omega)).mono ?_
        rw [Hx.out]
        rintro e w' ⟨rfl, rfl⟩
        go_wp2_with fail
        go_round
        case rel => exact ⟨c + 1, x + 1, by omega, by omega, by go_num, by go_num, by rw [PlaceM.cnt_hit _ _ hfeed.out, Hfn.out, Hcq.out], by rw [PlaceM.fa_hit _ _ hfeed.out]; omega⟩
        case measure => simp [intOf]; omega
    · obtain rfl : line = c + 1 := by omega
      have h1 : (x : Int) - q < column - 1 := by
        rcases Int.lt_or_le ((x : Int) - q) (column - 1) with h | h
        · exact h
        · obtain ⟨n, hn⟩ := Int.eq_ofNat_of_zero_le (show 0 ≤ (q : Int) + column - 1 by omega)
          have hqn : q ≤ n := by omega
          have hnx : n ≤ x := by omega
          refine absurd ⟨?_, ?_⟩ (Hp.out n (by omega))
          · rw [PlaceM.cnt_of_none s.data.toList q n hqn (fun i a b => Hnf.out i a (by omega)), Hcq.out]
          · rw [PlaceM.fa_of_none s.data.toList q n hqn (fun i a b => Hnf.out i a (by omega)), Hfq.out]; omega
      have h2 : ((c : Int) + 1 - c) = 1 := by omega
      rw [h2]
      clear hlt hc g1 hb h2
      go_wp2_with fail
      refine (feedFrom_any s q _ hs' (by omega)).mono ?_
      rw [Hx.out]
      rintro e w' ⟨rfl, rfl⟩
      go_wp2_with fail
      go_ret2
      exact ⟨rfl, rfl⟩

theorem placeAt_no (s : ByteArray) (line column : Int) (w : World) (hs : s.size ≤ 140737488355328) (hb : line ≤ 9223372036854775807) (hb' : column ≤ 9223372036854775807) (hp : ∀ n, n ≤ s.size → ¬ PlaceAt s.data.toList line column n) :
    Calls Tryd.prog 16 #[.string s, .int .i64 line, .int .i64 column] w fun e w' => e = .returned (.tuple #[.int .i64 0, .int .i64 3]) ∧ w' = w := by
  by_cases h : line < 1 ∨ column < 1
  · exact placeAt_low s line column w h
  · exact placeAt_none s line column w hs hb hb' (by omega) (by omega) hp
end Go.Proofs.YtjfehnjkijecpaaDoor
