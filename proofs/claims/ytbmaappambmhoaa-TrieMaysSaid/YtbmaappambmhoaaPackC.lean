/-
  A text put behind a row of its own, within a region that draws; the statements' few; the document's Has.
-/
import Derived.Test.YtbmaappambmhoaaPackB
namespace Go.Proofs.Ytbmaappambmhoaa
open Go.RowKit PK
set_option linter.unusedVariables false
attribute [local go_sem ↓] append_appM

/-- A text put behind a row of its own. -/
theorem pushT (X : World) (base n : Nat) (v : Value) (l : List Tx) (x : Tx) (hb : base ≤ X.heap.size) (hn : l.length = n) (hown : X.ownsRow base 9 1 v n (svt l)) (hm : n + 1 ≤ 1000000) (s : ByteArray) (hs : s = ⟨x.toArray⟩) :
    ∃ ao c w', Sem.run Try.prog (appM #[22, 22] 22 #[v, .slice (some ⟨X.heap.size, 0, none⟩) 1 1]) (X.alloc (.cells #[.string s] 9)).drew = .ok (.slice ao (n + 1) c) w' ∧ w'.ownsRow base 9 1 (.slice ao (n + 1) c) (n + 1) (svt (l ++ [x])) ∧ Below base X w' ∧ n + 1 ≤ c ∧ c ≤ maxLen := by
  subst hs
  obtain ⟨i0, hi, hz0, hz1, hz2⟩ := info_parts info_str
  have hrow : Row (X.alloc (.cells #[.string ⟨x.toArray⟩] 9)).drew (X.heap.size + 1) 1 (.slice (some ⟨X.heap.size, 0, none⟩) 1 1) 1 (svt [x]) := (row_cellsB X (svt [x]) 1 1 1 _ rfl (Nat.le_refl _) (by unfold maxLen; omega)).below (Below.refl _ _).drew
  obtain ⟨v', w', h1, h2, h3, _⟩ := run_append_row (P := Try.prog) (X.alloc (.cells #[.string ⟨x.toArray⟩] 9)).drew 22 22 base 9 i0 (.string ByteArray.empty) 1 16 Try.underlying22 hi hz0 hz1 hz2 rfl (by decide) v n (svt l) ((hown.alloc _).drew) (X.heap.size + 1) _ 1 (svt [x]) hrow (svt_one _) (by unfold maxLen; omega) (by omega) (by simp; omega)
  obtain ⟨ao, c, rfl, hc1, hc2⟩ := owns_valP h2
  rw [← svt_append] at h2
  refine ⟨ao, c, w', h1, h2, ?_, hc1, hc2⟩
  exact (((Below.refl base X).alloc hb _).drew).grown h3 (by simp; omega) (fun k hk => (hown.lt k hk).1)

/-- Not too many texts. -/
def fewT (l : List Tx) : List Tx := (l.take 30).map (·.take 10)
theorem fewT_succ (l : List Tx) (k : Nat) (hk : k < l.length) (h30 : k < 30) : ((l.take k).map (·.take 10)) ++ [l[k].take 10] = (l.take (k + 1)).map (·.take 10) := by
  rw [List.take_succ_eq_append_getElem hk, List.map_append]; rfl
theorem fewT_len (l : List Tx) : (fewT l).length ≤ 30 := by unfold fewT; rw [List.length_map, List.length_take]; omega
theorem fewT_each (l : List Tx) : ∀ x ∈ fewT l, x.length ≤ 10 := by
  intro x hx; obtain ⟨y, _, rfl⟩ := List.mem_map.1 hx; rw [List.length_take]; omega
theorem fewT_fewT (l : List Tx) : fewT (fewT l) = fewT l := by
  unfold fewT
  rw [← List.map_take, List.take_take, List.map_map]
  simp [Function.comp_def, List.take_take]
theorem tx_extract (x : Tx) (n : Nat) : (ByteArray.mk x.toArray).extract 0 n = ⟨(x.take n).toArray⟩ := by
  apply ByteArray.ext; simp

set_option maxHeartbeats 1000000 in
set_option maxRecDepth 100000 in
theorem few_any (v : Value) (l : List Tx) (w : World) (r : Row w w.heap.size 1 v l.length (svt l)) (hx : ∀ x ∈ l, x.length ≤ maxLen) :
    Calls Try.prog 9 #[v] w (OwnT w (fewT l)) := by
  obtain ⟨ao, c, rfl, hc1, hc2⟩ := r.val
  unfold maxLen at hc2
  have hl63 : l.length ≤ 9223372036854775807 := by omega
  have R := Lib.hid r; have Hx := Lib.hid hx
  clear r hx
  have hown0 := World.ownsRow_made (base := w.heap.size) (e := 9) (size := 1) w #[] 0 (Nat.le_refl _) (Nat.zero_le _) rfl
  go_enter Try.func9, Try.ntmps9
  go_wp2_with fail
  go_loopw [3, 4] (fun o i wr => ∃ k : Nat, k ≤ l.length ∧ k ≤ 30 ∧ i = .int .i64 k ∧ wr.ownsRow w.heap.size 9 1 o k (svt ((l.take k).map (·.take 10))) ∧ Below w.heap.size w wr) (fun _ i _ => l.length - (intOf i).toNat)
  case atStart => exact ⟨0, by omega, by omega, rfl, by simpa [svt] using hown0, (Below.refl _ w).alloc (Nat.le_refl _) _⟩
  case round =>
    obtain ⟨k, hk, hk30, rfl, hown, hbel⟩ := hrel
    obtain ⟨oo, oc, rfl, ho1, ho2⟩ := owns_valP hown
    by_cases hlt : k < l.length ∧ k < 30
    · obtain ⟨hlt, h30⟩ := hlt
      have a1 := R.out.below hbel
      obtain ⟨b1, o1, rfl, hb1, _⟩ := a1.at (by rw [svt_length]; omega)
      have c10 := a1.cell k _ (svt_at l k hlt)
      have hk0 : (k : Int) < (l.length : Int) := by omega
      have hk1 : (0 : Int) ≤ (k : Int) := by omega
      have hxl := Hx.out _ (List.getElem_mem hlt)
      unfold maxLen at hxl
      have Hn := Lib.hid (fewT_succ l k hlt h30)
      have hb1' : b1 < wr.heap.size := by have := hbel.size; omega
      clear a1
      generalize hs : l[k] = x at *
      have hsz := tx_size x
      have hex := tx_extract x
      obtain ⟨s, hsx⟩ : ∃ s : ByteArray, s = ⟨x.toArray⟩ := ⟨_, rfl⟩
      rw [← hsx] at c10 hsz
      have Hsx := Lib.hid hsx
      have hs63 : s.size ≤ 9223372036854775807 := by omega
      by_cases h10 : s.size ≤ 10
      · obtain ⟨vo, vc, w2, happ, hown2, hbel2, hv1, hv2⟩ := pushT wr w.heap.size k (.slice oo k oc) _ (x.take 10) hbel.size (by simp; omega) hown (by omega) s (by rw [List.take_of_length_le (by omega)]; exact hsx)
        have Hown2 := Lib.hid hown2; have Hbel2 := Lib.hid (hbel.trans hbel2)
        have cc : (wr.alloc (.cells #[.string s] 9)).cell? ⟨b1, o1 + k, none⟩ = some (.string s) := (((Below.refl _ wr).alloc (Nat.le_refl _) _).cell hb1').trans c10
        have hmin : min (s.size : Int) 10 = (s.size : Int) := by omega
        clear hown hown2 hbel2 hsx hex hs hsz
        go_wp2_with fail
        go_region
        all_goals
          go_wp2_with fail
          go_roundw
          case rel => exact ⟨k + 1, hlt, by omega, by go_num, by have h := Hown2.out; rw [Hn.out] at h; exact h, Hbel2.out⟩
          case measure => simp [intOf]; omega
      · obtain ⟨vo, vc, w2, happ, hown2, hbel2, hv1, hv2⟩ := pushT wr w.heap.size k (.slice oo k oc) _ (x.take 10) hbel.size (by simp; omega) hown (by omega) (s.extract 0 10) (by rw [hsx]; exact hex 10)
        have Hown2 := Lib.hid hown2; have Hbel2 := Lib.hid (hbel.trans hbel2)
        have cc : (wr.alloc (.cells #[.string (s.extract 0 10)] 9)).cell? ⟨b1, o1 + k, none⟩ = some (.string s) := (((Below.refl _ wr).alloc (Nat.le_refl _) _).cell hb1').trans c10
        have hmin : min (s.size : Int) 10 = 10 := by omega
        have hge : (10 : Int) ≤ (s.size : Int) := by omega
        clear hown hown2 hbel2 hsx hex hs hsz
        go_wp2_with fail
        go_region
        all_goals
          go_wp2_with fail
          go_roundw
          case rel => exact ⟨k + 1, hlt, by omega, by go_num, by have h := Hown2.out; rw [Hn.out] at h; exact h, Hbel2.out⟩
          case measure => simp [intOf]; omega
    · have hk' : fewT l = (l.take k).map (·.take 10) := by
        unfold fewT
        congr 1
        rcases Nat.lt_or_ge k l.length with h1 | h1
        · obtain rfl : k = 30 := by omega
          rfl
        · rw [List.take_of_length_le h1, List.take_of_length_le (by omega)]
      have hfl : (fewT l).length = k := by rw [hk']; simp; omega
      have Hown := Lib.hid hown; have Hfl := Lib.hid hfl; have Hk := Lib.hid hk'
      have h3 : decide ((k : Int) < (l.length : Int)) = decide (k < l.length) := by simp
      have h4 : decide ((k : Int) < 30) = decide (k < 30) := by apply decide_eq_decide.2; omega
      clear hown hfl hk'
      rcases Nat.lt_or_ge k l.length with h1 | h1
      · have h2 : ¬ k < 30 := fun h => hlt ⟨h1, h⟩
        clear hlt
        have h5 : decide ((k : Int) < 30) = false := decide_eq_false (by omega)
        have h6 : decide ((k : Int) < (l.length : Int)) = true := decide_eq_true (by omega)
        clear h3 h4
        go_wp2_with fail
        go_ret
        refine ⟨_, rfl, ?_, hbel⟩
        have h := Hown.out
        rw [← Hk.out] at h
        rw [Hfl.out]; exact h
      · have h6 : decide ((k : Int) < (l.length : Int)) = false := decide_eq_false (by omega)
        clear h3 h4 hlt
        go_wp2_with fail
        go_ret
        refine ⟨_, rfl, ?_, hbel⟩
        have h := Hown.out
        rw [← Hk.out] at h
        rw [Hfl.out]; exact h
end Go.Proofs.Ytbmaappambmhoaa
