/-
  The statements' walk of a trie, whole (layer 18).
-/
import Derived.Test.YtbmaappambmhoaaTriV
namespace Go.Proofs.Ytbmaappambmhoaa
open Go.RowKit PK
set_option linter.unusedVariables false
set_option linter.unusedSimpArgs false

theorem row_byteW (w : World) (b : UInt8) (e : TypeId) : Row (w.alloc (.cells #[.int .u8 (b.toNat : Int)] e)) (w.heap.size + 1) 1 (.slice (some ⟨w.heap.size, 0, none⟩) 1 1) [b].length (bys [b]) := by
  refine ⟨rfl, by simp [maxLen], .inr ⟨_, 1, rfl, Nat.le_refl _, by decide, .inr (Nat.lt_succ_self _), fun j x hx => ?_⟩⟩
  match j, hx with
  | 0, hx => simp [bys] at hx; subst hx; simp [Addr.add]
theorem strCatW (a b : List UInt8) : (⟨a.toArray⟩ : ByteArray) ++ ⟨b.toArray⟩ = ⟨(a ++ b).toArray⟩ := by
  apply ByteArray.ext
  rw [ByteArray.data_append]; simp

set_option maxHeartbeats 4000000 in
set_option maxRecDepth 100000 in
theorem walk_any (K : Nat) (S : List (List Tx)) (N : List Nd) (A : List Tx) (v vs va : Value) (B : Nat) (h4 : K ≤ 4) (hN : N.length ≤ 20000) (hA : A.length ≤ 20000) (hS : S.length ≤ 100000) (n : Nat) : ∀ (i : Nat) (p : Tx) (T : Tr n) (w : World), p.length + n = K → SubN N i n T → SubP A i n p T → LeafOK (whichI S) n p T →
    B ≤ w.heap.size → NR w B v N → Row w B 1 va A.length (svt A) → RR w B vs S →
    Calls Try.prog 32 #[.agg #[.int .i64 K, v], vs, va, .int .i64 i, .int .i64 K] w fun e w' => e = .returned (.int .i64 ((i + tsize n T : Nat) : Int)) ∧ Below w.heap.size w w' := by
  induction n with
  | zero =>
    intro i p T w hp hsn hsp hlf hB r ra rs
    obtain ⟨x, hx⟩ : ∃ x : Nat, x = T := ⟨T, rfl⟩
    subst hx
    exact walk_leaf K S N A v vs va B i p x w hB (by omega) h4 hN hA hS (sub_leaf hsn) (subP_head hsp) hlf r ra rs
  | succ m ih =>
    intro i p T w hp hsn hsp hlf hB r ra rs
    obtain ⟨ks, hks⟩ : ∃ ks : List (UInt8 × Tr m), ks = T := ⟨T, rfl⟩
    subst hks
    have hsl := sub_le hsn
    have hpl := subP_len hsp
    have hts : tsize (m + 1) ks = 1 + sizes (tsize m) ks := rfl
    have hkl := ups_len m ks
    have hn := sub_node hsn
    have ha := subP_head hsp
    obtain ⟨hi, hn2⟩ := List.getElem?_eq_some_iff.1 hn
    obtain ⟨hia, ha2⟩ := List.getElem?_eq_some_iff.1 ha
    obtain ⟨ao, c, rfl, hc1, hc2⟩ := r.val
    obtain ⟨aa, ca, rfl, hca1, hca2⟩ := ra.val
    obtain ⟨b, off, a1, c1, a2, c2, rfl, hb, e0, e1, e2, r1, r2, k1, k2, k3, k4⟩ := r.get i hi
    rw [hn2] at e0 e1 e2 r1 r2 k1 k3
    simp only [starts_len, tokL_len] at e0 e1 e2 r1 r2 k1 k3
    obtain ⟨ba, oa, rfl, hba, _⟩ := ra.at (by rw [svt_length]; omega)
    have e3 := ra.cell i _ (svt_at A i hia)
    rw [ha2] at e3
    have hbel := (Below.refl w.heap.size w).alloc (Nat.le_refl _) (.cells #[.int .i64 (K : Int), .slice (some ⟨b, off, none⟩) N.length c] 41)
    have hcl : ∀ a : Addr, a.block < w.heap.size → (w.alloc (.cells #[.int .i64 (K : Int), .slice (some ⟨b, off, none⟩) N.length c] 41)).cell? a = w.cell? a := fun a h => hbel.cell h
    have f0 := (hcl ⟨b, off + i * 3, none⟩ (by show b < _; omega)).trans e0
    have f1 := (hcl ⟨b, off + i * 3 + 1, none⟩ (by show b < _; omega)).trans e1
    have f2 := (hcl ⟨b, off + i * 3 + 2, none⟩ (by show b < _; omega)).trans e2
    have f3 := (hcl ⟨ba, oa + i, none⟩ (by show ba < _; omega)).trans e3
    have g0 : (w.alloc (.cells #[.int .i64 (K : Int), .slice (some ⟨b, off, none⟩) N.length c] 41)).cell? ⟨w.heap.size, 0, none⟩ = some (.int .i64 (K : Int)) := cell_new w _ _ 0 _ rfl
    have g1 : (w.alloc (.cells #[.int .i64 (K : Int), .slice (some ⟨b, off, none⟩) N.length c] 41)).cell? ⟨w.heap.size, 1, none⟩ = some (.slice (some ⟨b, off, none⟩) N.length c) := cell_new w _ _ 1 _ rfl
    have hsz : (w.alloc (.cells #[.int .i64 (K : Int), .slice (some ⟨b, off, none⟩) N.length c] 41)).heap.size = w.heap.size + 1 := by simp
    have Hbel := Lib.hid hbel; have Hsz := Lib.hid hsz; have Hg0 := Lib.hid g0; have Hg1 := Lib.hid g1
    have Hr := Lib.hid r; have Hra := Lib.hid ra; have Hrs := Lib.hid rs; have Hr1 := Lib.hid r1; have Hr2 := Lib.hid r2
    have Hsn := Lib.hid hsn; have Hsp := Lib.hid hsp; have Hlf := Lib.hid hlf; have HB := Lib.hid hB
    have hii : (i : Int) < (N.length : Int) := by omega
    have hi0 : (0 : Int) ≤ (i : Int) := by omega
    have hia' : (i : Int) < (A.length : Int) := by omega
    have d1 : decide (N.length ≤ i) = false := decide_eq_false (by omega)
    have d2 : decide (A.length ≤ i) = false := decide_eq_false (by omega)
    have d3 : decide ((N.length : Int) ≤ (i : Int)) = false := decide_eq_false (by omega)
    have d4 : decide ((A.length : Int) ≤ (i : Int)) = false := decide_eq_false (by omega)
    have hN63 : N.length ≤ 9223372036854775807 := by omega
    have hA63 : A.length ≤ 9223372036854775807 := by omega
    have Hlim : Hid (i + 1 + sizes (tsize m) ks ≤ N.length ∧ i + 1 + sizes (tsize m) ks ≤ A.length ∧ ks.length ≤ 20000 ∧ i ≤ 20000 ∧ A.length ≤ 20000) := Lib.hid ⟨by omega, by omega, by omega, by omega, hA⟩
    have Hih : Hid (∀ (i : Nat) (p : Tx) (T : Tr m) (w : World), p.length + m = K → SubN N i m T → SubP A i m p T → LeafOK (whichI S) m p T → B ≤ w.heap.size → NR w B (.slice (some ⟨b, off, none⟩) N.length c) N → Row w B 1 (.slice (some ⟨ba, oa, none⟩) A.length ca) A.length (svt A) → RR w B vs S →
      Calls Try.prog 32 #[.agg #[.int .i64 K, .slice (some ⟨b, off, none⟩) N.length c], vs, .slice (some ⟨ba, oa, none⟩) A.length ca, .int .i64 i, .int .i64 K] w fun e w' => e = .returned (.int .i64 ((i + tsize m T : Nat) : Int)) ∧ Below w.heap.size w w') := Lib.hid ih
    have Hpl := Lib.hid hp
    have hps := tx_size p
    obtain ⟨sb, hsb⟩ : ∃ sb : ByteArray, sb = ⟨p.toArray⟩ := ⟨_, rfl⟩
    rw [← hsb] at hps f3
    have Hsb := Lib.hid hsb
    have Hss : Hid (sb.size ≤ 4) := Lib.hid (by omega)
    have hsk : ((sb.size : Int) == (K : Int)) = false := by rw [beq_eq_false_iff_ne]; omega
    have hsk2 : ¬ (sb.size : Int) = (K : Int) := by omega
    obtain ⟨lt, hlt⟩ : ∃ lt, lt = ks.length := ⟨_, rfl⟩
    rw [← hlt] at f1 f2 Hr1 Hr2
    have Hlt := Lib.hid hlt
    have hlt63 : lt ≤ 9223372036854775807 := by omega
    clear hn ha r ra rs hn2 ha2 r1 r2 k1 k2 k3 k4 e0 e1 e2 e3 hbel hcl hsz hps hp hc2 hca2 hN hA hS ih hsn hsp hlf hsb hts hsl hpl hkl hlt g0
    go_enter Try.func32, Try.ntmps32
    go_upto_region 3 with fail
    generalize w.alloc (.cells #[.int .i64 (K : Int), .slice (some ⟨b, off, none⟩) N.length c] 41) = W1 at *
    have hb1 : b < W1.heap.size := by have := Hsz.out; omega
    have hba1 : ba < W1.heap.size := by have := Hsz.out; omega
    have hw1 : w.heap.size < W1.heap.size := by have := Hsz.out; omega
    have B1 := (Below.refl W1.heap.size W1).alloc (Nat.le_refl _) (.cells #[.int .i64 (-1), .slice a1 lt c1, .slice a2 lt c2] 59)
    have j3 := (B1.cell (p := ⟨ba, oa + i, none⟩) hba1).trans f3
    have B0 := (Below.refl W1.heap.size W1).alloc (Nat.le_refl _) (.cells #[.int .i64 0, .slice none 0 0, .slice none 0 0] 59)
    have z0 := (B0.cell (p := ⟨b, off + i * 3, none⟩) hb1).trans f0
    have z1 := (B0.cell (p := ⟨b, off + i * 3 + 1, none⟩) hb1).trans f1
    have z2 := (B0.cell (p := ⟨b, off + i * 3 + 2, none⟩) hb1).trans f2
    have z3 := (B0.cell (p := ⟨ba, oa + i, none⟩) hba1).trans f3
    have z4 := (B0.cell (p := ⟨w.heap.size, 1, none⟩) hw1).trans g1
    have HB1 := Lib.hid B1
    have Hbb := Lib.hid (And.intro hb hba)
    clear B0 B1 hb1 hba1 h4 hc1 hca1 hN63 hA63 hB hb hba hi hia
    go_big_region
    have hlt2 : W1.heap.size < (W1.alloc (.cells #[.int .i64 (-1), .slice a1 lt c1, .slice a2 lt c2] 59)).drew.heap.size := by simp
    have n0 : (W1.alloc (.cells #[.int .i64 (-1), .slice a1 lt c1, .slice a2 lt c2] 59)).drew.cell? ⟨W1.heap.size, 0, none⟩ = some (.int .i64 (-1)) := cell_new W1 _ _ 0 _ rfl
    have n1 : (W1.alloc (.cells #[.int .i64 (-1), .slice a1 lt c1, .slice a2 lt c2] 59)).drew.cell? ⟨W1.heap.size, 1, none⟩ = some (.slice a1 lt c1) := cell_new W1 _ _ 1 _ rfl
    have n2 : (W1.alloc (.cells #[.int .i64 (-1), .slice a1 lt c1, .slice a2 lt c2] 59)).drew.cell? ⟨W1.heap.size, 2, none⟩ = some (.slice a2 lt c2) := cell_new W1 _ _ 2 _ rfl
    have HBd : Hid (Below w.heap.size w (W1.alloc (.cells #[.int .i64 (-1), .slice a1 lt c1, .slice a2 lt c2] 59)).drew) := Lib.hid ((Hbel.out.trans (HB1.out.mono Hbel.out.size)).drew)
    have m0 : (W1.alloc (.cells #[.int .i64 (-1), .slice a1 lt c1, .slice a2 lt c2] 59)).drew.cell? ⟨w.heap.size, 0, none⟩ = some (.int .i64 (K : Int)) := (HB1.out.cell (p := ⟨w.heap.size, 0, none⟩) hw1).trans Hg0.out
    have m1 : (W1.alloc (.cells #[.int .i64 (-1), .slice a1 lt c1, .slice a2 lt c2] 59)).drew.cell? ⟨w.heap.size, 1, none⟩ = some (.slice (some ⟨b, off, none⟩) N.length c) := (HB1.out.cell (p := ⟨w.heap.size, 1, none⟩) hw1).trans Hg1.out
    clear z0 z1 z2 z3 z4 j3 f0 f1 f2 f3 g1 HB1
    generalize (W1.alloc (.cells #[.int .i64 (-1), .slice a1 lt c1, .slice a2 lt c2] 59)).drew = W2 at *
    have hw2 : w.heap.size < W2.heap.size := Nat.lt_trans hw1 hlt2
    have HW12 := Lib.hid hlt2
    have Hn : Hid (∀ W, Below W2.heap.size W2 W → W.cell? ⟨W1.heap.size, 1, none⟩ = some (.slice a1 lt c1) ∧ W.cell? ⟨W1.heap.size, 2, none⟩ = some (.slice a2 lt c2) ∧ W.cell? ⟨w.heap.size, 0, none⟩ = some (.int .i64 (K : Int)) ∧ W.cell? ⟨w.heap.size, 1, none⟩ = some (.slice (some ⟨b, off, none⟩) N.length c)) := Lib.hid fun W hW =>
      ⟨(hW.cell (p := ⟨W1.heap.size, 1, none⟩) hlt2).trans n1, (hW.cell (p := ⟨W1.heap.size, 2, none⟩) hlt2).trans n2, (hW.cell (p := ⟨w.heap.size, 0, none⟩) hw2).trans m0, (hW.cell (p := ⟨w.heap.size, 1, none⟩) hw2).trans m1⟩
    clear hii hi0 hia' hlt2 m0 m1 hw1 hw2
    have hi63 : i ≤ 20000 := Hlim.out.2.2.2.1
    go_wp2_with fail
    go_loopw [13, 14] (fun nv jv wr => ∃ j nx : Nat, j ≤ lt ∧ nv = .int .i64 nx ∧ jv = .int .i64 j ∧ Hid (nx = i + 1 + sizes (tsize m) (ks.take j)) ∧ Hid (Below W2.heap.size W2 wr)) (fun _ jv _ => lt - (intOf jv).toNat)
    case atStart => exact ⟨0, i + 1, Nat.zero_le _, by go_num, rfl, Lib.hid (by simp [sizes]), Lib.hid (Below.refl _ _)⟩
    case round =>
      obtain ⟨j, nx, hj, rfl, rfl, Hnx, HBr⟩ := hrel
      obtain ⟨o1, o2, o3, o4⟩ := Hn.out wr HBr.out
      have Hbw := Lib.hid (HBd.out.trans (HBr.out.mono HBd.out.size))
      by_cases hjl : j < lt
      · have hjk : j < ks.length := by have := Hlt.out; omega
        have hsplit := take_split ks j hjk
        have hsub := sub_kid Hsn.out (ks.take j) (ks.drop (j + 1)) ks[j] hsplit
        have hsup := subP_kid Hsp.out (ks.take j) (ks.drop (j + 1)) ks[j] hsplit
        have hlfk : LeafOK (whichI S) m (p ++ [ks[j].1]) ks[j].2 := Hlf.out _ (List.getElem_mem hjk)
        have hstep := sizes_take (tsize m) ks j hjk
        rw [← Hnx.out] at hsub hsup
        have hnA : nx < A.length := by have := subP_len hsup; have := tsize_pos m ks[j].2; omega
        have hnA2 : nx + tsize m ks[j].2 ≤ A.length := subP_len hsup
        have Hr1' := Hr1.out.below (Hbw.out.mono HB.out)
        have Hr2' := Hr2.out.below (Hbw.out.mono HB.out)
        have Hra' := Hra.out.below (Hbw.out.mono HB.out)
        obtain ⟨b1, s1, rfl, hbb1, _⟩ := Hr1'.at (by rw [ints_length, tokL_len]; omega)
        obtain ⟨b2, s2, rfl, hbb2, _⟩ := Hr2'.at (by rw [ints_length, starts_len]; omega)
        have t1 := Hr1'.cell j _ (ints_at (tokL ks) j (by rw [tokL_len]; exact hjk))
        have t2 := Hr2'.cell j _ (ints_at (starts (tsize m) (i + 1) ks) j (by rw [starts_len]; exact hjk))
        have t3 := Hra'.cell nx _ (svt_at A nx hnA)
        have hA2 : A[nx] = p ++ [ks[j].1] := by
          have h := subP_head hsup
          rw [List.getElem?_eq_getElem hnA] at h; exact Option.some.inj h
        have hk2 : (starts (tsize m) (i + 1) ks)[j]'(by rw [starts_len]; exact hjk) = ((nx : Nat) : Int) := by
          have h := starts_at (tsize m) ks (i + 1) j hjk
          rw [List.getElem?_eq_getElem (by rw [starts_len]; exact hjk)] at h
          rw [Option.some.inj h, Hnx.out]
        have ht2 : (tokL ks)[j]'(by rw [tokL_len]; exact hjk) = ((ks[j].1.toNat : Nat) : Int) := by simp [tokL]
        rw [hk2] at t2
        rw [ht2] at t1
        rw [hA2] at t3
        have Hsub := Lib.hid hsub; have Hsup := Lib.hid hsup; have Hlfk := Lib.hid hlfk; have Hstep := Lib.hid hstep
        generalize ks[j] = q at *
        obtain ⟨y, sub⟩ := q
        simp only at t1 t3 hnA2
        have hbr := HBr.out.size
        have hbl1 : b1 < wr.heap.size := by have := Hbw.out.size; have := HB.out; omega
        have hbl2 : b2 < wr.heap.size := by have := Hbw.out.size; have := HB.out; omega
        have hbl3 : ba < wr.heap.size := by have := Hbw.out.size; have := Hbb.out.2; have := HB.out; omega
        have hbl4 : W1.heap.size < wr.heap.size := Nat.lt_of_lt_of_le HW12.out hbr
        have hst := tx_size (p ++ [y])
        have hcat : sb ++ ⟨[y].toArray⟩ = (⟨(p ++ [y]).toArray⟩ : ByteArray) := by rw [Hsb.out]; exact strCatW p [y]
        generalize (⟨(p ++ [y]).toArray⟩ : ByteArray) = st at *
        have hrow := row_byteW wr y 5
        have hcv := run_bytes_row (P := Try.prog) (src := 75) (dst := 9) (l := [y]) Try.underlying75 Try.underlying5 Try.underlying9 (show Row (wr.alloc (.cells #[.int .u8 (y.toNat : Int)] 5)).drew _ _ _ _ _ from row_heap rfl hrow)
        have hcs : (⟨[y].toArray⟩ : ByteArray).size = 1 := rfl
        generalize hcb : (⟨[y].toArray⟩ : ByteArray) = cb at hcv hcat hcs
        have hsum : sb.size + cb.size ≤ 9223372036854775807 := by have := Hss.out; omega
        have hsum2 : (sb.size : Int) + (cb.size : Int) ≤ 9223372036854775807 := by omega
        have hsum3 : ¬ (9223372036854775807 < (sb.size : Int) + (cb.size : Int)) := by omega
        have hsum4 : ¬ (9223372036854775807 < sb.size + cb.size) := by omega
        have hy := y.toNat_lt
        have hy2 : (y.toNat : Int) ≤ 255 := by omega
        have hy0 : ¬ (y.toNat : Int) < 0 := by omega
        have hy1 : ¬ 255 < (y.toNat : Int) := by omega
        have hyn : ¬ 255 < y.toNat := by omega
        have hwb : IntKind.u8.wrap (y.toNat : Int) = (y.toNat : Int) := by simp [IntKind.wrap, IntKind.bits, IntKind.signed]; omega
        have Bb := (Below.refl wr.heap.size wr).alloc (Nat.le_refl _) (.cells #[.int .u8 (y.toNat : Int)] 5)
        have u1 := (Bb.cell (p := ⟨b1, s1 + j, none⟩) hbl1).trans t1
        have u2 := (Bb.cell (p := ⟨b2, s2 + j, none⟩) hbl2).trans t2
        have u3 := (Bb.cell (p := ⟨ba, oa + nx, none⟩) hbl3).trans t3
        have u4 := (Bb.cell (p := ⟨W1.heap.size, 1, none⟩) hbl4).trans o1
        have u5 := (Bb.cell (p := ⟨W1.heap.size, 2, none⟩) hbl4).trans o2
        have HBb := Lib.hid Bb
        have hji : (j : Int) < (lt : Int) := by omega
        have hj0 : (0 : Int) ≤ (j : Int) := by omega
        have hnxi : (nx : Int) < (A.length : Int) := by omega
        have hnx0 : (0 : Int) ≤ (nx : Int) := by omega
        have hnxn : ¬ (A.length : Int) ≤ (nx : Int) := by omega
        have HnA2 := Lib.hid hnA2
        have Hjl := Lib.hid hjl
        clear hrow hst Bb hsplit hsub hsup hlfk hstep Hr1' Hr2' Hra' hnA hnA2 hA2 hk2 ht2 hbr hbl1 hbl2 hbl3 hbl4 hbb1 hbb2 hjk hj hlt63 hy n0 n1 n2 hcb hi63 hsk hsk2 hy2 hjl hcs
        go_upto_region 14 with fail
        go_big_region
        have HB3 : Hid (Below W2.heap.size W2 (wr.alloc (.cells #[.int .u8 (y.toNat : Int)] 5)).drew) := Lib.hid ((HBr.out.trans (HBb.out.mono HBr.out.size)).drew)
        clear hcv hcat u1 u2 u3 u4 u5 t1 t2 t3 o1 o2 o3 o4 HBb hsum hsum2 hsum3 hsum4 hwb hy0 hy1 hyn
        generalize (wr.alloc (.cells #[.int .u8 (y.toNat : Int)] 5)).drew = W3 at *
        obtain ⟨o1, o2, o3, o4⟩ := Hn.out W3 HB3.out
        have Hbw3 := Lib.hid (HBd.out.trans (HB3.out.mono HBd.out.size))
        have Hcall := Lib.hid (Hih.out nx (p ++ [y]) sub W3 (by rw [List.length_append]; have := Hpl.out; simp only [List.length_cons, List.length_nil]; omega) Hsub.out Hsup.out Hlfk.out (Nat.le_trans HB.out Hbw3.out.size) (Hr.out.below (Hbw3.out.mono HB.out)) (Hra.out.below (Hbw3.out.mono HB.out)) (Hrs.out.below (Hbw3.out.mono HB.out)))
        have Hnext : Hid (nx + tsize m sub = i + 1 + sizes (tsize m) (ks.take (j + 1))) := Lib.hid (by have h1 := Hstep.out; have h2 := Hnx.out; simp only at h1; omega)
        have Hn20 : Hid (nx + tsize m sub ≤ 20000) := Lib.hid (Nat.le_trans HnA2.out Hlim.out.2.2.2.2)
        clear Hih hji hj0 hnxi hnx0 hnxn
        generalize hz : nx + tsize m sub = nx' at *
        clear hz
        go_wp2_with fail
        refine (Hcall.out).mono ?_
        rintro e w5 ⟨rfl, hb5⟩
        have HB5 := Lib.hid (HB3.out.trans (hb5.mono HB3.out.size))
        obtain ⟨o1, o2, o3, o4⟩ := Hn.out w5 HB5.out
        have hn20 := Hn20.out
        have hnn : ¬ ((nx' : Nat) : Int) < 0 := by omega
        have hjl := Hjl.out
        have hlt20 : lt ≤ 20000 := by have := Hlim.out.2.2.1; have := Hlt.out; omega
        clear hb5 Hcall
        go_wp2_with fail
        go_roundw
        case rel => exact ⟨j + 1, nx', hjl, rfl, by go_num, Hnext, HB5⟩
        case measure => simp [intOf]; omega
      · obtain rfl : j = lt := by omega
        have hnx : nx = i + tsize (m + 1) ks := by
          have h := Hnx.out
          rw [Hlt.out, List.take_length] at h
          have e : tsize (m + 1) ks = 1 + sizes (tsize m) ks := rfl
          omega
        have Hnx2 := Lib.hid hnx
        clear hnx n0 n1 n2
        go_wp2_with fail
        go_ret
        exact ⟨by rw [Hnx2.out]; rfl, Hbw.out⟩
end Go.Proofs.Ytbmaappambmhoaa
