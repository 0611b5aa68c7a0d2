/-
  The document's Prefixes and Err (layer 18).
-/
import Derived.Test.YtbmaappambmhoaaTriA
import Derived.Deep.RegionWith
namespace Go.Proofs.Ytbmaappambmhoaa
open Go.RowKit PK
set_option linter.unusedVariables false

/-- The beginnings of a text, but for the empty one, the first m of them. -/
def prefs (t : Tx) (m : Nat) : List Tx := (List.range m).map fun n => t.take (n + 1)
theorem prefs_succ (t : Tx) (m : Nat) : prefs t m ++ [t.take (m + 1)] = prefs t (m + 1) := by
  unfold prefs; rw [List.range_succ, List.map_append]; rfl
def prefL (l : List Tx) : List Tx := l.flatMap fun t => prefs t t.length
theorem prefL_take (l : List Tx) (k : Nat) (hk : k < l.length) : prefL (l.take k) ++ prefs l[k] l[k].length = prefL (l.take (k + 1)) := by
  unfold prefL; rw [List.take_succ_eq_append_getElem hk, List.flatMap_append]; simp
def prefS (S : List (List Tx)) : List Tx := S.flatMap prefL
theorem prefS_take (S : List (List Tx)) (k : Nat) (hk : k < S.length) : prefS (S.take k) ++ prefL S[k] = prefS (S.take (k + 1)) := by
  unfold prefS; rw [List.take_succ_eq_append_getElem hk, List.flatMap_append]; simp
theorem prefL_len (l : List Tx) (n m : Nat) (hl : l.length ≤ n) (hx : ∀ x ∈ l, x.length ≤ m) : (prefL l).length ≤ n * m := by
  refine Nat.le_trans ?_ (Nat.mul_le_mul_right m hl)
  clear hl
  induction l with
  | nil => simp [prefL]
  | cons x l ih =>
    have h1 := ih fun y hy => hx y (List.mem_cons_of_mem _ hy)
    have h2 := hx x List.mem_cons_self
    unfold prefL at h1 ⊢
    rw [List.flatMap_cons, List.length_append, List.length_cons, Nat.succ_mul]
    have h3 : (prefs x x.length).length = x.length := by simp [prefs]
    omega
theorem prefS_len (S : List (List Tx)) (n : Nat) (hx : ∀ l ∈ S, (prefL l).length ≤ n) : (prefS S).length ≤ S.length * n := by
  induction S with
  | nil => simp [prefS]
  | cons l S ih =>
    have h1 := ih fun y hy => hx y (List.mem_cons_of_mem _ hy)
    have h2 := hx l List.mem_cons_self
    unfold prefS at h1 ⊢
    rw [List.flatMap_cons, List.length_append, List.length_cons, Nat.succ_mul]
    omega
theorem tx_cut (x : Tx) (n : Nat) : (ByteArray.mk x.toArray).extract 0 n = ⟨(x.take n).toArray⟩ := by
  apply ByteArray.ext; simp

set_option maxHeartbeats 2000000 in
set_option maxRecDepth 100000 in
theorem refPrefixes_any (v : Value) (S : List (List Tx)) (B : Nat) (w : World) (hB : B ≤ w.heap.size) (r : RR w B v S) (hl : S.length ≤ 10) (hls : ∀ l ∈ S, l.length ≤ 20) (hx : ∀ l ∈ S, ∀ x ∈ l, x.length ≤ 10) :
    Calls Try.prog 31 #[v] w (OwnT w (toSet ([] :: prefS S))) := by
  obtain ⟨ao, c, rfl, hc1, hc2⟩ := r.val
  have hl63 : S.length ≤ 9223372036854775807 := by omega
  have R := Lib.hid r; have Hls := Lib.hid hls; have Hx := Lib.hid hx
  clear r hls hx
  have hown0 : (w.alloc (.cells #[.string ⟨#[]⟩] 9)).ownsRow w.heap.size 9 1 (.slice (some ⟨w.heap.size, 0, none⟩) 1 1) 1 (svt [[]]) :=
    World.ownsRow_lit (base := w.heap.size) (e := 9) (size := 1) w #[.string ⟨#[]⟩] 1 (Nat.le_refl _) (by unfold maxLen; omega) rfl
  have Hown0 := Lib.hid hown0
  clear hown0
  have h1 : toSet ([] :: prefS ([] : List (List Tx))) = [[]] := toSet_id (by simp [IsSet, prefS])
  have H1 := Lib.hid h1
  clear h1
  go_enter Try.func31, Try.ntmps31
  go_wp2_with fail
  go_loopw [3, 4] (fun o i wr => ∃ k : Nat, k ≤ S.length ∧ i = .int .i64 k ∧ Hid (wr.ownsRow w.heap.size 9 1 o (toSet ([] :: prefS (S.take k))).length (svt (toSet ([] :: prefS (S.take k))))) ∧ Hid (Below w.heap.size w wr)) (fun _ i _ => S.length - (intOf i).toNat)
  case atStart => exact ⟨0, Nat.zero_le _, rfl, Lib.hid (by rw [List.take_zero, H1.out]; exact Hown0.out), Lib.hid ((Below.refl _ w).alloc (Nat.le_refl _) _)⟩
  case round =>
    obtain ⟨k, hk, rfl, Hown, Hbel⟩ := hrel
    by_cases hlt : k < S.length
    · have hk0 : (k : Int) < (S.length : Int) := by omega
      have hk3 : (0 : Int) ≤ (k : Int) := by omega
      have hlk := Hls.out _ (List.getElem_mem hlt)
      have Hxk := Lib.hid (Hx.out _ (List.getElem_mem hlt))
      have Hst := Lib.hid (prefS_take S k hlt)
      have HPl : Hid ((prefS (S.take k)).length ≤ 10 * 200) := Lib.hid (by
        have h := prefS_len (S.take k) 200 fun l hl' => Nat.le_trans (prefL_len l 20 10 (Hls.out l (List.mem_of_mem_take hl')) (Hx.out l (List.mem_of_mem_take hl'))) (by omega)
        refine Nat.le_trans h (Nat.mul_le_mul_right _ ?_)
        rw [List.length_take]; omega)
      have Hget := Lib.hid (fun (W : World) (h : Below w.heap.size w W) => (R.out.below (h.mono hB)).get k hlt)
      generalize prefS (S.take k) = P at *
      generalize S[k] = l at *
      obtain ⟨wo, rfl⟩ : ∃ wo : World, wo = wr := ⟨_, rfl⟩
      go_wp2_with fail
      go_loopw [3, 5] (fun o i wx => ∃ j : Nat, j ≤ l.length ∧ i = .int .i64 j ∧ Hid (wx.ownsRow w.heap.size 9 1 o (toSet ([] :: (P ++ prefL (l.take j)))).length (svt (toSet ([] :: (P ++ prefL (l.take j)))))) ∧ Hid (Below w.heap.size w wx)) (fun _ i _ => l.length - (intOf i).toNat)
      case atStart => exact ⟨0, Nat.zero_le _, rfl, Lib.hid (by rw [List.take_zero]; simp only [prefL, List.flatMap_nil, List.append_nil]; exact Hown.out), Hbel⟩
      case round =>
        obtain ⟨j, hj, rfl, Hown2, Hb⟩ := hrel
        obtain ⟨b1, o1, a1, c1, hao, hb1, c10, rk, hk1, hk2⟩ := Hget.out _ Hb.out
        subst hao
        unfold maxLen at hk2
        by_cases hjl : j < l.length
        · obtain ⟨b2, o2, rfl, hb2, _⟩ := rk.at (by rw [svt_length]; omega)
          have c20 := rk.cell j _ (svt_at l j hjl)
          have hj0 : (j : Int) < (l.length : Int) := by omega
          have hj3 : (0 : Int) ≤ (j : Int) := by omega
          have hxl := Hxk.out _ (List.getElem_mem hjl)
          have Hst2 := Lib.hid (prefL_take l j hjl)
          have HQl : Hid ((prefL (l.take j)).length ≤ 20 * 10) := Lib.hid (prefL_len (l.take j) 20 10 (by rw [List.length_take]; omega) fun x hx => Hxk.out x (List.mem_of_mem_take hx))
          clear rk
          generalize prefL (l.take j) = Q at *
          generalize l[j] = x at *
          have hsz := tx_size x
          have hex := tx_cut x
          obtain ⟨s, hsx⟩ : ∃ s : ByteArray, s = ⟨x.toArray⟩ := ⟨_, rfl⟩
          rw [← hsx] at c20 hsz
          have Hsx := Lib.hid hsx; have Hex := Lib.hid (fun n => (by rw [hsx]; exact hex n : s.extract 0 n = ⟨(x.take n).toArray⟩))
          clear hsx hex
          have hs1 : s.size ≤ 10 := by omega
          have Hsz := Lib.hid hsz
          clear hsz hxl
          obtain ⟨wp, rfl⟩ : ∃ wp : World, wp = wr := ⟨_, rfl⟩
          go_wp2_with fail
          go_loopw [3, 7] (fun o i wx => ∃ m : Nat, m ≤ s.size ∧ i = .int .i64 ((m + 1 : Nat) : Int) ∧ Hid (wx.ownsRow w.heap.size 9 1 o (toSet ([] :: (P ++ (Q ++ prefs x m)))).length (svt (toSet ([] :: (P ++ (Q ++ prefs x m)))))) ∧ Hid (Below w.heap.size w wx)) (fun _ i _ => s.size + 1 - (intOf i).toNat)
          case atStart => exact ⟨0, Nat.zero_le _, rfl, Lib.hid (by simp only [prefs, List.range_zero, List.map_nil, List.append_nil]; exact Hown2.out), Hb⟩
          case round =>
            obtain ⟨m, hm, rfl, Hown3, Hb3⟩ := hrel
            by_cases hms : m < s.size
            · have hm0 : ((m + 1 : Nat) : Int) ≤ (s.size : Int) := by omega
              have hm1 : m + 1 ≤ s.size := hms
              have Hput := Lib.hid (refPut_any _ (toSet ([] :: (P ++ (Q ++ prefs x m)))) (x.take (m + 1)) w.heap.size wr Hb3.out.size Hown3.out (toSet_set _) (by
                have h1 := toSet_len ([] :: (P ++ (Q ++ prefs x m)))
                have h2 : (prefs x m).length = m := by simp [prefs]
                have h3 := HPl.out; have h4 := HQl.out
                simp only [List.length_cons, List.length_append] at h1
                omega) _ (Hex.out (m + 1)))
              have Hnext : Hid (putL (toSet ([] :: (P ++ (Q ++ prefs x m)))) (x.take (m + 1)) = toSet ([] :: (P ++ (Q ++ prefs x (m + 1))))) := Lib.hid (by
                rw [putL_toSet, ← prefs_succ]; simp [List.append_assoc])
              go_wp2_with fail
              refine (Hput.out).mono ?_
              rintro e w2 ⟨v2, rfl, own2, b2⟩
              have Own2 := Lib.hid own2
              have B2 := Lib.hid (Hb3.out.trans b2)
              clear own2 b2
              go_wp2_with fail
              go_roundw
              case rel => exact ⟨m + 1, hms, by go_num, Lib.hid (by have h := Own2.out; rw [Hnext.out] at h; exact h), B2⟩
              case measure => simp [intOf]; omega
            · obtain rfl : m = s.size := by omega
              have Hown4 : Hid (wr.ownsRow w.heap.size 9 1 _ (toSet ([] :: (P ++ prefL (l.take (j + 1))))).length (svt (toSet ([] :: (P ++ prefL (l.take (j + 1))))))) := Lib.hid (by have h := Hown3.out; rw [Hsz.out, Hst2.out] at h; exact h)
              go_wp2_with fail
              go_roundw
              case rel => exact ⟨j + 1, hjl, by go_num, Hown4, Hb3⟩
              case measure => simp [intOf]; omega
        · obtain rfl : j = l.length := by omega
          have Hown4 : Hid (wr.ownsRow w.heap.size 9 1 _ (toSet ([] :: prefS (S.take (k + 1)))).length (svt (toSet ([] :: prefS (S.take (k + 1)))))) := Lib.hid (by have h := Hown2.out; rw [List.take_length, Hst.out] at h; exact h)
          clear rk
          go_wp2_with fail
          go_roundw
          case rel => exact ⟨k + 1, hlt, by go_num, Hown4, Hb⟩
          case measure => simp [intOf]; omega
    · obtain rfl : k = S.length := by omega
      rw [List.take_length] at Hown
      go_wp2_with fail
      go_ret
      exact ⟨_, rfl, Hown.out, Hbel.out⟩
end Go.Proofs.Ytbmaappambmhoaa
