/-
  (trie.Trie).Choose.
-/
import Derived.Test.YtbmaappambmhoaaTriT
import Derived.Test.YtbmaappambmhoaaPackF
import Derived.Deep.QuietTactic
import Derived.BigQuiet
namespace Go.Proofs.Ytbmaappambmhoaa
open Go.RowKit PK
set_option linter.unusedVariables false
set_option linter.unusedSimpArgs false

theorem bs_spec (ts : List Int) (hs : ts.Pairwise (· < ·)) (x : Int) : (ts.contains x = true → ∃ pre post, ts = pre ++ x :: post ∧ pre.length = ts.countP (fun y => decide (y < x))) ∧ (ts.contains x = false → x ∉ ts) := by
  refine ⟨fun hm => ?_, fun hm hx => ?_⟩
  · have hx : x ∈ ts := by simpa using hm
    obtain ⟨pre, post, rfl⟩ := List.append_of_mem hx
    refine ⟨pre, post, rfl, ?_⟩
    obtain ⟨h1, h2, h3⟩ := List.pairwise_append.1 hs
    have h4 := List.pairwise_cons.1 h2
    rw [List.countP_append, List.countP_cons]
    have e1 : pre.countP (fun y => decide (y < x)) = pre.length := List.countP_eq_length.2 fun y hy => by simpa using h3 y hy x List.mem_cons_self
    have e2 : post.countP (fun y => decide (y < x)) = 0 := List.countP_eq_zero.2 fun y hy => by have := h4.1 y hy; simp; omega
    rw [e1, e2]; simp
  · rw [List.contains_iff_mem.2 hx] at hm; cases hm
theorem bs_any (W : World) (B : Nat) (a : Option Addr) (c : Nat) (ts : List Int) (r : Row W B 1 (.slice a ts.length c) ts.length (ints ts)) (hs : ts.Pairwise (· < ·)) (hl : ts.length ≤ 100000) (x : Int) :
    Calls Try.prog 57 #[.slice a ts.length c, .int .i64 x] W fun e w' => e = .returned (.tuple #[.int .i64 (ts.countP (fun y => decide (y < x)) : Nat), .bool (ts.contains x)]) ∧ ∃ q, w' = W.drewN q := by
  rcases Nat.eq_zero_or_pos ts.length with h0 | h0
  · have : ts = [] := List.length_eq_zero_iff.1 h0
    subst this
    exact (Try.slices_BinarySearch_int_empty a c x W).mono fun e w' h => ⟨h.1, 0, h.2⟩
  · obtain ⟨b, off, rfl, hb, hc⟩ := r.at (by rw [ints_length]; exact h0)
    refine (Try.slices_BinarySearch_int b off ts.length c ts x W (Nat.le_refl _) (by omega) (fun j hj => ?_) ?_).mono fun e w' h => ?_
    · have := hc j _ (ints_at ts j hj)
      rw [this, List.getD_eq_getElem?_getD, List.getElem?_eq_getElem hj, Option.getD_some]
    · rw [List.take_length]; exact hs.imp fun h => by omega
    · rw [List.take_length] at h; exact h
theorem row_heap {w W : World} {B s n : Nat} {v : Value} {xs : List Value} (hW : W.heap = w.heap) (h : Row w B s v n xs) : Row W B s v n xs := by
  refine ⟨h.1, h.2.1, ?_⟩
  rcases h.2.2 with h0 | ⟨a, c, rfl, h1, h2, h3, hc⟩
  · exact .inl h0
  · exact .inr ⟨a, c, rfl, h1, h2, h3, fun j u hu => (World.cell?_of_block (w := w) (by rw [hW])).trans (hc j u hu)⟩
theorem tok_split {T : Type} (ks : List (UInt8 × T)) (b : UInt8) (pre post : List Int) (h : tokL ks = pre ++ (b.toNat : Int) :: post) (hp : ks.Pairwise fun a b => a.1 < b.1) : ∃ kp q kr, ks = kp ++ q :: kr ∧ kp.length = pre.length ∧ q.1 = b ∧ ks.find? (fun p => p.1 == b) = some q := by
  obtain ⟨kp, k2, rfl, e1, e2⟩ := List.map_eq_append_iff.1 h
  obtain ⟨q, kr, rfl, e3, e4⟩ := List.map_eq_cons_iff.1 e2
  have hq : q.1 = b := UInt8.toNat_inj.1 (by exact_mod_cast e3)
  refine ⟨kp, q, kr, rfl, by rw [← e1, List.length_map], hq, ?_⟩
  rw [List.find?_append]
  have : kp.find? (fun p => p.1 == b) = none := List.find?_eq_none.2 fun p hp' => by
    have h1 := (List.pairwise_append.1 hp).2.2 p hp' q List.mem_cons_self
    rw [hq] at h1
    simp only [beq_iff_eq]
    intro e; rw [e] at h1; exact UInt8.lt_irrefl _ h1
  rw [this]; simp [hq]
theorem tok_none {T : Type} (ks : List (UInt8 × T)) (b : UInt8) (h : (b.toNat : Int) ∉ tokL ks) : ks.find? (fun p => p.1 == b) = none := List.find?_eq_none.2 fun p hp => by
  simp only [beq_iff_eq]
  intro e
  exact h (List.mem_map.2 ⟨p, hp, by rw [e]⟩)
theorem tokL_up {T : Type} (ks : List (UInt8 × T)) (hp : ks.Pairwise fun a b => a.1 < b.1) : (tokL ks).Pairwise (· < ·) := by
  unfold tokL; rw [List.pairwise_map]; exact hp.imp fun h => by exact_mod_cast h
theorem chooseT_len (n : Nat) : ∀ (T : Tr n) (s : Tx), s.length ≠ n → chooseT n T s = none := by
  induction n with
  | zero => intro T s h; cases s with
    | nil => exact absurd rfl h
    | cons => rfl
  | succ n ih =>
    intro T s h
    cases s with
    | nil => rfl
    | cons b s =>
      simp only [chooseT]
      cases List.find? (fun p => p.1 == b) (show List (UInt8 × Tr n) from T) with
      | none => rfl
      | some p => exact ih p.2 s (by simpa using h)
def chooseI (n : Nat) (T : Tr n) (s : Tx) : Int := match chooseT n T s with | some x => (x : Int) | none => -1
theorem ups_len (n : Nat) (T : List (UInt8 × Tr n)) : T.length ≤ sizes (tsize n) T := by
  induction T with
  | nil => simp [sizes]
  | cons q r ih =>
    have h1 : 1 ≤ tsize n q.2 := by cases n <;> simp [tsize]
    simp only [sizes, List.map_cons, List.sum_cons, List.length_cons] at ih ⊢; omega
theorem sub_le {N : List Nd} {i n : Nat} {T : Tr n} (h : SubN N i n T) : i + tsize n T ≤ N.length := by
  obtain ⟨A, C, rfl, rfl⟩ := h
  rw [List.length_append, List.length_append, flatT_len]; omega
theorem tsize_pos (n : Nat) (T : Tr n) : 1 ≤ tsize n T := by cases n <;> simp [tsize]

set_option maxHeartbeats 4000000 in
set_option maxRecDepth 100000 in
theorem choose_any (K : Nat) (T : Tr K) (v : Value) (s : Tx) (B : Nat) (w : World) (hB : B ≤ w.heap.size) (h1 : 1 ≤ K) (h4 : K ≤ 4) (hu : Up K T) (hsz : tsize K T ≤ 20000) (r : NR w B v (flat K 0 T)) (hs : s.length ≤ 1000000) :
    Calls Try.prog 34 #[.agg #[.int .i64 K, v], .string ⟨s.toArray⟩] w fun e w' => e = .returned (.int .i64 (chooseI K T s)) ∧ Below w.heap.size w w' := by
  obtain ⟨ao, c, rfl, hc1, hc2⟩ := r.val
  have hfl := flatT_len K 0 T
  have hmay := may_flat K T h1 h4 hu hsz
  have hsub := sub_all K T
  obtain ⟨N, hN⟩ : ∃ N, N = flat K 0 T := ⟨_, rfl⟩
  rw [← hN] at r hfl hmay hsub hc1 ⊢
  clear hN
  have Hal := Lib.hid ((Below.refl w.heap.size w).alloc (Nat.le_refl _) (.cells #[.int .i64 (K : Int), .slice ao N.length c] 41))
  have Hm := Lib.hid (triMay_any (.slice ao N.length c) N (K : Int) B (w.alloc (.cells #[.int .i64 (K : Int), .slice ao N.length c] 41)) (Nat.le_trans hB Hal.out.size) (r.below (Hal.out.mono hB)) (by omega))
  rw [hmay] at Hm
  have hss := tx_size s
  have HX : Hid (∀ sb : ByteArray, sb = ⟨s.toArray⟩ → ∀ k, (hk : k < s.length) → ∀ hh : k < sb.size, sb[k]'hh = s[k]) := Lib.hid fun sb e k hk hh => by
    subst e
    show s.toArray[k]'(by simpa using hk) = s[k]
    exact List.getElem_toArray _
  have hs63 : s.length ≤ 9223372036854775807 := by omega
  by_cases hlen : s.length = K
  · have Hr := Lib.hid r; have Hu := Lib.hid hu; have Hsub := Lib.hid hsub; have Hfl := Lib.hid hfl; have Hsz := Lib.hid hsz
    have hc1' : (w.alloc (.cells #[.int .i64 (K : Int), .slice ao N.length c] 41)).cell? ⟨w.heap.size, 1, none⟩ = some (.slice ao N.length c) := cell_new w _ _ 1 _ rfl
    have hsw : (w.alloc (.cells #[.int .i64 (K : Int), .slice ao N.length c] 41)).heap.size = w.heap.size + 1 := by simp
    have HC : Hid (∀ W, Below (w.heap.size + 1) (w.alloc (.cells #[.int .i64 (K : Int), .slice ao N.length c] 41)) W → W.cell? ⟨w.heap.size, 1, none⟩ = some (.slice ao N.length c) ∧ Below w.heap.size w W ∧ NR W B (.slice ao N.length c) N) := Lib.hid fun W hW =>
      ⟨(hW.cell (p := ⟨w.heap.size, 1, none⟩) (by show w.heap.size < _; omega)).trans hc1', Hal.out.trans (hW.mono (by omega)), r.below ((Hal.out.trans (hW.mono (by omega))).mono hB)⟩
    have HB1 : Hid (∀ W, Below (w.alloc (.cells #[.int .i64 (K : Int), .slice ao N.length c] 41)).heap.size (w.alloc (.cells #[.int .i64 (K : Int), .slice ao N.length c] 41)) W → Below (w.heap.size + 1) (w.alloc (.cells #[.int .i64 (K : Int), .slice ao N.length c] 41)) W) := Lib.hid fun W h => h.mono (by rw [hsw]; exact Nat.le_refl _)
    have hN20 : N.length ≤ 9223372036854775807 := by omega
    have Hlen := Lib.hid hlen
    obtain ⟨sb, hsb⟩ : ∃ sb : ByteArray, sb = ⟨s.toArray⟩ := ⟨_, rfl⟩
    rw [← hsb] at hss ⊢
    have HX2 := Lib.hid (HX.out sb hsb)
    have hq : sb.size = K := by omega
    have hqi : (sb.size : Int) = (K : Int) := by omega
    have hK63 : K ≤ 9223372036854775807 := by omega
    have HK4 := Lib.hid h4
    have hN2 : Hid (N.length ≤ 20000) := Lib.hid (by omega)
    clear r hu hsub hfl hsz hc1' hsw hmay hs hsb hss HX hlen hs63 h1 h4 hc2 hqi
    go_enter Try.func34, Try.ntmps34
    go_wp2_with fail
    refine (Hm.out).mono ?_
    rintro e w2 ⟨rfl, b2⟩
    have Hb2 := Lib.hid (HB1.out _ b2)
    clear b2 Hm
    go_wp2_with fail
    go_loopw [5, 21] (fun av ix wr => ∃ (k n a : Nat) (T' : Tr n), k + n = K ∧ av = .int .i64 a ∧ ix = .int .i64 k ∧ Hid (SubN N a n T' ∧ Up n T' ∧ chooseT K T s = chooseT n T' (s.drop k)) ∧ Hid (Below (w.heap.size + 1) (w.alloc (.cells #[.int .i64 (K : Int), .slice ao N.length c] 41)) wr)) (fun _ ix _ => K - (intOf ix).toNat)
    case atStart => exact ⟨0, K, 0, T, by omega, rfl, rfl, Lib.hid ⟨Hsub.out, Hu.out, by rw [List.drop_zero]⟩, Hb2⟩
    case round =>
      obtain ⟨k, n, a, T', hkn, rfl, rfl, HT, HB⟩ := hrel
      obtain ⟨e1, hbw, hnr⟩ := HC.out wr HB.out
      have Hbw := Lib.hid hbw
      have hale : a + 1 ≤ N.length := by have := sub_le HT.out.1; have := tsize_pos n T'; omega
      obtain ⟨b, off, a1, c1, a2, c2, rfl, hb, e0, e10, e20, r1, r2, k1, k2, k3, k4⟩ := hnr.get a hale
      have hai : (a : Int) < (N.length : Int) := by omega
      have ha0 : (0 : Int) ≤ (a : Int) := by omega
      cases n with
      | zero =>
        obtain rfl : k = K := by omega
        have hx := sub_leaf (x := T') HT.out.1
        obtain ⟨hi, hx2⟩ := List.getElem?_eq_some_iff.1 hx
        rw [hx2] at e0
        have hE : Hid (chooseI k T s = (show Nat from T' : Nat)) := Lib.hid (by
          unfold chooseI
          rw [HT.out.2.2, List.drop_of_length_le (by have := Hlen.out; omega)]; rfl)
        have e0' : wr.cell? ⟨b, off + a * 3, none⟩ = some (.int .i64 (show Nat from T' : Nat)) := e0
        clear hnr r1 r2 hx hx2 e10 e20 hbw HT k1 k2 k3 k4 e0
        generalize (show Nat from T') = leaf at *
        go_wp2_with fail
        go_ret
        exact ⟨by rw [hE.out]; rfl, Hbw.out⟩
      | succ m =>
        obtain ⟨ks, hks⟩ : ∃ ks : List (UInt8 × Tr m), ks = T' := ⟨T', rfl⟩
        subst hks
        have hx := sub_node (ks := ks) HT.out.1
        obtain ⟨hi, hx2⟩ := List.getElem?_eq_some_iff.1 hx
        rw [hx2] at e10 e20 r1 r2 k1 k3
        simp only [starts_len, tokL_len] at e10 e20 r1 r2 k1 k3
        unfold maxLen at k2 k4
        have hkl : k < s.length := by have := Hlen.out; omega
        have hkK : (k : Int) < (K : Int) := by omega
        have hk0 : (0 : Int) ≤ (k : Int) := by omega
        have hksl : ks.length ≤ 20000 := by have h1 := sub_le HT.out.1; have h2 := ups_len m ks; have h3 : tsize (m + 1) ks = 1 + sizes (tsize m) ks := rfl; have := hN2.out; omega
        have hdrop := List.drop_eq_getElem_cons hkl
        have hix := HX2.out k hkl
        have hy2 : (s[k]).toNat ≤ 255 := by have := (s[k]).toNat_lt; omega
        have hw2 : wrap64 ((s[k]).toNat : Int) = ((s[k]).toNat : Int) := by unfold wrap64; omega
        have hbs0 : ∃ (pp : Nat) (ok : Bool), ((ok = true → ∃ pre post, tokL ks = pre ++ ((s[k]).toNat : Int) :: post ∧ pre.length = pp) ∧ (ok = false → ((s[k]).toNat : Int) ∉ tokL ks)) ∧ ∀ W : World, W.heap = wr.heap → Calls Try.prog 57 #[.slice a1 ks.length c1, .int .i64 ((s[k]).toNat : Int)] W fun e w' => e = .returned (.tuple #[.int .i64 (pp : Nat), .bool ok]) ∧ ∃ q, w' = W.drewN q :=
          ⟨(tokL ks).countP (fun y => decide (y < ((s[k]).toNat : Int))), (tokL ks).contains ((s[k]).toNat : Int), bs_spec (tokL ks) (tokL_up ks HT.out.2.1.1) _, fun W hW => by
            have h := bs_any W B a1 c1 (tokL ks) (by rw [tokL_len]; exact row_heap hW r1) (tokL_up ks HT.out.2.1.1) (by rw [tokL_len]; omega) ((s[k]).toNat : Int)
            rw [tokL_len] at h
            exact h⟩
        obtain ⟨pp, ok, hs, hbs⟩ := hbs0
        have Hbs := Lib.hid hbs; have Hs := Lib.hid hs
        clear hbs hs
        have Hstep : Hid (chooseT K T s = (ks.find? fun p => p.1 == s[k]).bind fun p => chooseT m p.2 (s.drop (k + 1))) := Lib.hid (by
          rw [HT.out.2.2, hdrop]; rfl)
        have HR2 : Hid (∀ W, Below wr.heap.size wr W → Row W B 1 (.slice a2 ks.length c2) ks.length (ints (starts (tsize m) (a + 1) ks)) ∧ W.cell? ⟨b, off + a * 3 + 2, none⟩ = some (.slice a2 ks.length c2) ∧ W.cell? ⟨w.heap.size, 1, none⟩ = some (.slice (some ⟨b, off, none⟩) N.length c)) := Lib.hid fun W hW =>
          ⟨r2.below (hW.mono (by have := Hbw.out.size; omega)), (hW.cell (p := ⟨b, off + a * 3 + 2, none⟩) (by have := Hbw.out.size; show b < _; omega)).trans e20, (HC.out W (HB.out.trans (hW.mono (by have := HB.out.size; simp at this; omega)))).1⟩
        have Htk := Lib.hid (fun (pre post : List Int) (h : tokL ks = pre ++ ((s[k]).toNat : Int) :: post) => tok_split ks s[k] pre post h HT.out.2.1.1)
        have Htn := Lib.hid (fun (h : ((s[k]).toNat : Int) ∉ tokL ks) => tok_none ks s[k] h)
        have Hkl := Lib.hid hkl
        have hcell10 : ∀ W : World, W.heap = wr.heap → W.cell? ⟨b, off + a * 3 + 1, none⟩ = some (.slice a1 ks.length c1) := fun W hW => (World.cell?_of_block (w := wr) (by rw [hW])).trans e10
        have hkb : (k : Int) < (sb.size : Int) := by omega
        have hkb2 : k < sb.size := by omega
        have hks20 : ks.length ≤ 9223372036854775807 := by omega
        generalize hy : s[k] = y at hix hy2 hw2 Hbs Hs Hstep Htk Htn
        clear hnr r1 r2 hx hx2 hbw k1 k3 hdrop hy hkl hksl hcell10 e0
        have Hkn := Lib.hid hkn
        have Hnum := Lib.hid (And.intro k2 (And.intro k4 hks20))
        go_upto_region 7 with fail
        clear hkn hq hN20 hc1 k2 k4 hK63 hB hale hkb2 hks20 hkK hk0 hb hi
        go_quiet ((go_at_call 57; refine Calls.quiet_of (Hbs.out _ rfl)))
        have HBq := Lib.hid (below_drewsP wr nq)
        have HB3 := Lib.hid (HB.out.trans (HBq.out.mono (by have := HB.out.size; simp at this; omega)))
        have Hbw3 := Lib.hid (Hbw.out.trans (HBq.out.mono Hbw.out.size))
        obtain ⟨rr, g20, g1⟩ := HR2.out _ HBq.out
        obtain ⟨k2, k4, hks20⟩ := Hnum.out
        cases ok
        · have hE : Hid (chooseI K T s = -1) := Lib.hid (by unfold chooseI; rw [Hstep.out, Htn.out (Hs.out.2 rfl)]; rfl)
          clear rr g20 g1 Hbs k2 k4 hks20
          go_wp2_with fail
          go_ret
          exact ⟨by rw [hE.out]; rfl, Hbw3.out⟩
        · obtain ⟨pre, post, t1, t2⟩ := Hs.out.1 rfl
          obtain ⟨kp, q, kr, hks, hkp, hqy, hfind⟩ := Htk.out pre post t1
          have hpl : pp < ks.length := by rw [hks, List.length_append, List.length_cons]; omega
          have hst : (starts (tsize m) (a + 1) ks)[pp]'(by rw [starts_len]; exact hpl) = ((a + 1 + sizes (tsize m) kp : Nat) : Int) := by
            have h := starts_at (tsize m) ks (a + 1) pp hpl
            rw [List.getElem?_eq_getElem (by rw [starts_len]; exact hpl)] at h
            have h2 := Option.some.inj h
            rw [h2, hks, ← t2, ← hkp, List.take_left]
          obtain ⟨b2, o2, rfl, hb2, _⟩ := rr.at (by rw [ints_length, starts_len]; omega)
          have g3 := rr.cell pp _ (ints_at _ pp (by rw [starts_len]; exact hpl))
          rw [hst] at g3
          have hpi : (pp : Int) < (ks.length : Int) := by omega
          have hp0 : (0 : Int) ≤ (pp : Int) := by omega
          have Hnew : Hid (SubN N (a + 1 + sizes (tsize m) kp) m q.2 ∧ Up m q.2 ∧ chooseT K T s = chooseT m q.2 (s.drop (k + 1))) := Lib.hid ⟨sub_kid HT.out.1 kp kr q hks, (HT.out.2.1.2 q (by show q ∈ ks; rw [hks]; simp)).1, by rw [Hstep.out, hfind]; rfl⟩
          generalize a + 1 + sizes (tsize m) kp = a' at *
          have Hkn2 : Hid (k + 1 + m = K) := Lib.hid (by have := Hkn.out; omega)
          clear rr Hbs hst hpl hks hkp hqy hfind t1 t2
          have hk100 : k ≤ 4 := by have := Hkn.out; have := HK4.out; omega
          go_wp2_with fail
          go_roundw
          case rel => exact ⟨k + 1, m, a', q.2, Hkn2.out, rfl, by go_num, Hnew, HB3⟩
          case measure => have := Hkn2.out; simp [intOf]; omega
  · have hno := Lib.hid (chooseT_len K T s hlen)
    have hE : Hid (chooseI K T s = -1) := Lib.hid (by unfold chooseI; rw [hno.out])
    clear HX
    generalize (⟨s.toArray⟩ : ByteArray) = sb at *
    rw [← hss] at hlen hs63
    have hne : ((sb.size : Int) == (K : Int)) = false := by rw [beq_eq_false_iff_ne]; omega
    have hne2 : ¬ (sb.size : Int) = (K : Int) := by omega
    clear hss hs hsz hu r hsub hfl hmay hlen hno h1 h4
    go_enter Try.func34, Try.ntmps34
    go_wp2_with fail
    go_ret
    exact ⟨by rw [hE.out]; rfl, Hal.out⟩
end Go.Proofs.Ytbmaappambmhoaa
