/-
  (trie.Trie).Heads; Choose of texts of another length, and of no trie.
-/
import Derived.Test.YtbmaappambmhoaaTrjF
namespace Go.Proofs.Ytbmaappambmhoaa
open Go.RowKit PK
set_option linter.unusedVariables false
set_option linter.unusedSimpArgs false

theorem clone_any (W : World) (B : Nat) (v : Value) (ts : List Int) (r : Row W B 1 v ts.length (ints ts)) (hl : ts.length ≤ 100000) :
    Calls Try.prog 59 #[v] W (OwnI W ts) := by
  obtain ⟨a, c, rfl, hc1, hc2⟩ := r.val
  rcases Nat.eq_zero_or_pos ts.length with h0 | h0
  · have : ts = [] := List.length_eq_zero_iff.1 h0
    subst this
    cases a with
    | none => exact (Try.slices_Clone_int_nil _ c W).mono fun e w' h => ⟨_, h.1, World.ownsRow_nil _ _ _ _, by rw [h.2]; exact Below.refl _ _⟩
    | some a => exact (Try.slices_Clone_int_zero a c W).mono fun e w' ⟨v', h1, h2, _, h4⟩ => ⟨v', h1, h2, h4⟩
  · obtain ⟨b, off, rfl, hb, hc⟩ := r.at (by rw [ints_length]; exact h0)
    refine (Try.slices_Clone_int b off ts.length c ts W (Nat.le_refl _) (by omega) (fun j hj => ?_)).mono fun e w' ⟨v', h1, h2, _, h4⟩ => ⟨v', h1, ?_, h4⟩
    · have := hc j _ (ints_at ts j hj)
      rw [this, List.getD_eq_getElem?_getD, List.getElem?_eq_getElem hj, Option.getD_some]
    · rw [List.take_length] at h2; exact h2
set_option maxHeartbeats 2000000 in
set_option maxRecDepth 100000 in
theorem heads_zero (w : World) : Calls Try.prog 36 #[.agg #[.int .i64 0, .slice none 0 0]] w (OwnI w []) := by
  have hb := (Below.refl w.heap.size w).alloc (Nat.le_refl _) (.cells #[.int .i64 0, .slice none 0 0] 41)
  have hm := triMay_any (.slice none 0 0) [] 0 w.heap.size (w.alloc (.cells #[.int .i64 0, .slice none 0 0] 41)) hb.size (nr_nil _ _) (by decide)
  rw [zeroMay] at hm
  have Hm := Lib.hid hm; have Hb := Lib.hid hb
  clear hm hb
  go_enter Try.func36, Try.ntmps36
  go_wp2_with fail
  refine (Hm.out).mono ?_
  rintro e w2 ⟨rfl, b2⟩
  have Hb2 := Lib.hid (Hb.out.trans (b2.mono Hb.out.size))
  clear b2
  go_wp2_with fail
  go_ret
  exact ⟨_, rfl, World.ownsRow_nil _ _ _ _, Hb2.out⟩
set_option maxHeartbeats 2000000 in
set_option maxRecDepth 100000 in
theorem choose_zero (s : Tx) (w : World) (hs : s.length ≤ maxLen) : Calls Try.prog 34 #[.agg #[.int .i64 0, .slice none 0 0], .string ⟨s.toArray⟩] w fun e w' => e = .returned (.int .i64 (-1)) ∧ Below w.heap.size w w' := by
  have hb := (Below.refl w.heap.size w).alloc (Nat.le_refl _) (.cells #[.int .i64 0, .slice none 0 0] 41)
  have hm := triMay_any (.slice none 0 0) [] 0 w.heap.size (w.alloc (.cells #[.int .i64 0, .slice none 0 0] 41)) hb.size (nr_nil _ _) (by decide)
  rw [zeroMay] at hm
  have Hm := Lib.hid hm; have Hb := Lib.hid hb
  have hss := tx_size s
  unfold maxLen at hs
  generalize (⟨s.toArray⟩ : ByteArray) = sb at *
  rw [← hss] at hs
  clear hm hb hss
  by_cases h0 : sb.size = 0
  · go_enter Try.func34, Try.ntmps34
    go_wp2_with fail
    refine (Hm.out).mono ?_
    rintro e w2 ⟨rfl, b2⟩
    have Hb2 := Lib.hid (Hb.out.trans (b2.mono Hb.out.size))
    clear b2
    go_wp2_with fail
    go_ret
    exact ⟨rfl, Hb2.out⟩
  · have hne : ((sb.size : Int) == 0) = false := by rw [beq_eq_false_iff_ne]; omega
    have hne2 : ¬ (sb.size : Int) = 0 := by omega
    go_enter Try.func34, Try.ntmps34
    go_wp2_with fail
    go_ret
    exact ⟨rfl, Hb.out⟩
set_option maxHeartbeats 2000000 in
set_option maxRecDepth 100000 in
theorem choose_off (K : Nat) (T : Tr K) (v : Value) (s : Tx) (w : World) (hv : ∃ a n c, v = .slice a n c) (hs : s.length ≤ maxLen) (hK : K ≤ 4) (hlen : s.length ≠ K) : Calls Try.prog 34 #[.agg #[.int .i64 (K : Int), v], .string ⟨s.toArray⟩] w fun e w' => e = .returned (.int .i64 (chooseI K T s)) ∧ Below w.heap.size w w' := by
  obtain ⟨a, n, c, rfl⟩ := hv
  have hno := Lib.hid (chooseT_len K T s hlen)
  have hE : Hid (chooseI K T s = -1) := Lib.hid (by unfold chooseI; rw [hno.out])
  have Hb := Lib.hid ((Below.refl w.heap.size w).alloc (Nat.le_refl _) (.cells #[.int .i64 (K : Int), .slice a n c] 41))
  have hss := tx_size s
  unfold maxLen at hs
  generalize (⟨s.toArray⟩ : ByteArray) = sb at *
  rw [← hss] at hs hlen
  have hne : ((sb.size : Int) == (K : Int)) = false := by rw [beq_eq_false_iff_ne]; omega
  have hne2 : ¬ (sb.size : Int) = (K : Int) := by omega
  clear hss hlen hno
  go_enter Try.func34, Try.ntmps34
  go_wp2_with fail
  go_ret
  exact ⟨by rw [hE.out]; rfl, Hb.out⟩
set_option maxHeartbeats 2000000 in
set_option maxRecDepth 100000 in
theorem heads_any (K : Nat) (T : Tr (K + 1)) (v : Value) (B : Nat) (w : World) (hB : B ≤ w.heap.size) (h4 : K + 1 ≤ 4) (hu : Up (K + 1) T) (hsz : tsize (K + 1) T ≤ 20000) (r : NR w B v (flat (K + 1) 0 T)) :
    Calls Try.prog 36 #[.agg #[.int .i64 ((K + 1 : Nat) : Int), v]] w (OwnI w (rootT (K + 1) T)) := by
  obtain ⟨ao, c, rfl, hc1, hc2⟩ := r.val
  have hfl := flatT_len (K + 1) 0 T
  have hmay := may_flat (K + 1) T (by omega) h4 hu hsz
  have hn := sub_node (ks := T) (sub_all (K + 1) T)
  have hpos := tsize_pos (K + 1) T
  obtain ⟨k, hk⟩ : ∃ k, k = K + 1 := ⟨_, rfl⟩
  obtain ⟨N, hN⟩ : ∃ N, N = flat (K + 1) 0 T := ⟨_, rfl⟩
  rw [← hN] at r hfl hmay hn hc1 ⊢
  clear hN
  obtain ⟨hi, hn2⟩ := List.getElem?_eq_some_iff.1 hn
  obtain ⟨ks, hks⟩ : ∃ ks : List (UInt8 × Tr K), ks = T := ⟨T, rfl⟩
  have hroot : rootT (K + 1) T = tokL ks := by rw [hks]; rfl
  have hkl : ks.length ≤ 20000 := by
    have h1 := ups_len K ks
    have h2 : tsize (K + 1) T = 1 + sizes (tsize K) ks := by rw [hks]; rfl
    omega
  rw [hroot]
  rw [← hks] at hn2
  have hb := (Below.refl w.heap.size w).alloc (Nat.le_refl _) (.cells #[.int .i64 ((K + 1 : Nat) : Int), .slice ao N.length c] 41)
  have hm := triMay_any (.slice ao N.length c) N ((K + 1 : Nat) : Int) B (w.alloc (.cells #[.int .i64 ((K + 1 : Nat) : Int), .slice ao N.length c] 41)) (Nat.le_trans hB hb.size) (r.below (hb.mono hB)) (by omega)
  rw [hmay] at hm
  have hs1 : (w.alloc (.cells #[.int .i64 ((K + 1 : Nat) : Int), .slice ao N.length c] 41)).heap.size = w.heap.size + 1 := by simp
  have g1 : (w.alloc (.cells #[.int .i64 ((K + 1 : Nat) : Int), .slice ao N.length c] 41)).cell? ⟨w.heap.size, 1, none⟩ = some (.slice ao N.length c) := cell_new w _ _ 1 _ rfl
  have Hm := Lib.hid hm; have Hb := Lib.hid hb; have Hr := Lib.hid r; have Hs1 := Lib.hid hs1; have Hg1 := Lib.hid g1; have HB := Lib.hid hB; have Hn2 := Lib.hid hn2; have Hkl := Lib.hid hkl
  have hNi : (0 : Int) < (N.length : Int) := by omega
  have hN63 : N.length ≤ 9223372036854775807 := by omega
  clear hm hb r hs1 hfl hmay hu hsz h4 hc1 hc2 hB hn hpos hn2 hroot hkl hks g1 hk
  rw [show ((K + 1 : Nat) : Int) = (K : Int) + 1 from by omega] at *
  generalize (K : Int) + 1 = kk at *
  go_enter Try.func36, Try.ntmps36
  go_wp2_with fail
  refine (Hm.out).mono ?_
  rintro e w2 ⟨rfl, b2⟩
  have hg := (b2.cell (p := ⟨w.heap.size, 1, none⟩) (by have := Hs1.out; show w.heap.size < _; omega)).trans Hg1.out
  have Hb2 := Lib.hid (Hb.out.trans (b2.mono Hb.out.size))
  clear b2
  obtain ⟨b, off, a1, c1, a2, c2, rfl, hbb, e0, e1, e2, r1, r2, k1, k2, k3, k4⟩ := (Hr.out.below (Hb2.out.mono HB.out)).get 0 hi
  rw [Hn2.out] at e1 r1
  simp only [tokL_len, Nat.zero_mul, Nat.add_zero] at e1 r1
  have Hcl := Lib.hid (clone_any w2 B (.slice a1 ks.length c1) (tokL ks) (by rw [tokL_len]; exact r1) (by rw [tokL_len]; have := Hkl.out; omega))
  have hb2w : b < w2.heap.size := by have := Hb2.out.size; have := HB.out; omega
  clear r1 r2 k1 k2 k3 k4 e0 e2 hbb
  go_wp2_with fail
  refine (Hcl.out).mono ?_
  rintro e w3 ⟨v3, rfl, own3, b3⟩
  have Hb3 := Lib.hid (Hb2.out.trans (b3.mono Hb2.out.size))
  have Ho3 := Lib.hid (owns_baseP own3 Hb2.out.size)
  clear b3 own3
  go_wp2_with fail
  go_ret
  exact ⟨_, rfl, Ho3.out, Hb3.out⟩
end Go.Proofs.Ytbmaappambmhoaa
