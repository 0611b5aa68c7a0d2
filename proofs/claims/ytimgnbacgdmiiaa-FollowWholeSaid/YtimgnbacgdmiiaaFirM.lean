/-
  The document's Row of beginnings.
  The document's Grown, and Of.
  The document's Grown: its walk; Of.
  The document's Of; stage 14's sample and works.
-/
import Derived.Test.YtimgnbacgdmiiaaFirI
import Derived.Test.YtimgnbacgdmiiaaBnfE
import Derived.Test.YtimgnbacgdmiiaaBnfF
namespace Go.Proofs.Ytimgnbacgdmiiaa
open Go.RowKit PK
set_option linter.unusedVariables false
set_option linter.unusedSimpArgs false
attribute [local go_sem ↓] append_appM

theorem toB_tok (n : Int) (h0 : 0 ≤ n) (h1 : n ≤ 255) : toB n = UInt8.ofNat n.toNat := by unfold toB; rw [show n % 256 = n by omega]
set_option maxHeartbeats 4000000 in
set_option maxRecDepth 100000 in
theorem refRow14_any (l : List Sy) (lv : Value) (k : Int) (g N c most : Nat) (S : Sts) (BL : Nat) (w : World) (rl : SR w BL lv l) (hBL : BL ≤ w.heap.size) (h : SetsR w g N c S) (hk : 1 ≤ k ∧ k ≤ 4) (hm : most ≤ 600) (hS : SOk k S) (hs : ∀ s ∈ l, (s.tok = true → 0 ≤ s.n ∧ s.n ≤ 255) ∧ (s.tok = false → 0 ≤ s.n ∧ s.n < N)) (hN : N ≤ 1000) :
    Calls Try.prog 16 #[lv, .int .i64 k, .slice (some ⟨g, 0, none⟩) N c, .int .i64 (most : Nat)] w (RowOfP w k most S l) := by
  obtain ⟨la, lc, rfl, hl1, hl2⟩ := Row.val rl
  unfold maxLen at hl2
  have hr0 : Row (w.alloc (.cells #[.string ⟨#[]⟩] 9)) (w.alloc (.cells #[.string ⟨#[]⟩] 9)).heap.size 1 (.slice (some ⟨w.heap.size, 0, none⟩) 1 1) 1 (svt [[]]) := (row_cellsB w (svt [[]]) 1 1 1 9 rfl (Nat.le_refl _) (by unfold maxLen; omega)).mono (by simp)
  have hb0 := (Below.refl w.heap.size w).alloc (Nat.le_refl _) (.cells #[.string ⟨#[]⟩] 9)
  obtain ⟨ln, hln⟩ : ∃ ln, ln = l.length := ⟨_, rfl⟩
  have Rl := Lib.hid (fun W (hW : Below w.heap.size w W) => (show SR W BL (.slice la l.length lc) l from Row.below rl (hW.mono hBL)))
  rw [← hln] at Rl hl1 ⊢
  have HS := Lib.hid h; have Hk := Lib.hid hk; have HSo := Lib.hid hS; have Hs := Lib.hid hs; have Hr0 := Lib.hid hr0; have Hb0 := Lib.hid hb0; have Hln := Lib.hid hln; have Hm := Lib.hid hm; have HN := Lib.hid hN; have HBL := Lib.hid hBL
  have hl63 : (ln : Int) ≤ 9223372036854775807 := by omega
  have hm63 : (most : Int) ≤ 1000 := by omega
  clear rl hBL h hk hS hs hr0 hb0 hln hl1 hl2 hm hN
  go_enter Try.func16, Try.ntmps16
  go_wp2_with fail
  go_loopw [10, 11] (fun rv iv wr => ∃ i : Nat, i ≤ ln ∧ iv = .int .i64 (i : Nat) ∧ Hid (Row wr wr.heap.size 1 rv (rowS k S (l.take i)).length (svt (rowS k S (l.take i)))) ∧ Hid (∀ j, j < i → (rowS k S (l.take (j + 1))).length ≤ most) ∧ Hid (Below w.heap.size w wr)) (fun _ iv _ => ln - (intOf iv).toNat)
  case atStart => exact ⟨0, Nat.zero_le _, rfl, Hr0, Lib.hid (fun j hj => by omega), Hb0⟩
  case round =>
    clear Hr0 Hb0
    obtain ⟨i, hi, rfl, HR, HO, HB⟩ := hrel
    obtain ⟨ra, rc, rfl, _, _⟩ := HR.out.val
    by_cases hlt : i < ln
    · have hil : i < l.length := by have := Hln.out; omega
      obtain ⟨b6, o6, hao, hb6, f0, f1⟩ := SR.get (show SR wr BL (.slice la l.length lc) l by have := Rl.out wr HB.out; rw [Hln.out] at this; exact this) i hil
      subst hao
      have hsn := Hs.out l[i] (List.getElem_mem hil)
      have Hsu := Lib.hid (rowS_succ k S l i hil)
      generalize l[i] = s at *
      have hok := symS_ok Hk.out.1 HSo.out s
      obtain ⟨t, n⟩ := s
      simp only at f0 f1 hsn
      have hb1 := (Below.refl wr.heap.size wr).alloc (Nat.le_refl _) (.cells #[.int .u8 (n % 256)] 5)
      have hs1 : (wr.alloc (.cells #[.int .u8 (n % 256)] 5)).heap.size = wr.heap.size + 1 := by simp
      have hrb : Row (wr.alloc (.cells #[.int .u8 (n % 256)] 5)) (wr.heap.size + 1) 1 (.slice (some ⟨wr.heap.size, 0, none⟩) 1 1) 1 (bys [toB n]) := by
        have e : bys [toB n] = [.int .u8 (n % 256)] := by simp [bys, toB_nat]
        rw [e]
        exact row_cellsB wr [.int .u8 (n % 256)] 1 1 1 5 rfl (Nat.le_refl _) (by unfold maxLen; omega)
      have hcv := run_bytes_row (P := Try.prog) (src := 66) (dst := 9) (l := [toB n]) Try.underlying66 Try.underlying5 Try.underlying9 (by simpa using hrb)
      have hb2 := (Below.refl _ (wr.alloc (.cells #[.int .u8 (n % 256)] 5))).alloc (Nat.le_refl _) (.cells #[.string ⟨[toB n].toArray⟩] 9)
      have hr2 : Row ((wr.alloc (.cells #[.int .u8 (n % 256)] 5)).alloc (.cells #[.string ⟨[toB n].toArray⟩] 9)) (wr.heap.size + 1 + 1) 1 (.slice (some ⟨wr.heap.size + 1, 0, none⟩) 1 1) 1 (svt [[toB n]]) := by
        have := row_cellsB (wr.alloc (.cells #[.int .u8 (n % 256)] 5)) (svt [[toB n]]) 1 1 1 9 rfl (Nat.le_refl _) (by unfold maxLen; omega)
        rw [hs1] at this; exact this
      have hb12 := hb1.trans (hb2.mono hb1.size)
      have HBs := Lib.hid (HB.out.trans (hb12.mono HB.out.size))
      have HRs := Lib.hid ((HR.out.below hb12).mono hb12.size)
      have hfc0 := (hb12.cell (p := ⟨b6, o6 + i * 2, none⟩) (by have := HB.out.size; have := HBL.out; show b6 < _; omega)).trans f0
      have hfc1 := (hb12.cell (p := ⟨b6, o6 + i * 2 + 1, none⟩) (by have := HB.out.size; have := HBL.out; show b6 < _; omega)).trans f1
      have hi1 : (i : Int) < (ln : Int) := by omega
      have hi2 : (0 : Int) ≤ (i : Int) := by omega
      have hrl : Le k (rowS k S (l.take i)) := rowS_le (by have := Hk.out; omega) S _
      have hrn : (rowS k S (l.take i)).length ≤ 650 := by
        rcases Nat.eq_zero_or_pos i with rfl | hp
        · show (rowS k S []).length ≤ 650
          show ([[]] : List Tx).length ≤ 650
          simp
        · have := HO.out (i - 1) (by omega)
          rw [show i - 1 + 1 = i by omega] at this
          have := Hm.out; omega
      have Hcat := Lib.hid (fun W vb (hr : Row W W.heap.size 1 (.slice ra (rowS k S (l.take i)).length rc) (rowS k S (l.take i)).length (svt (rowS k S (l.take i)))) (hr2 : Row W W.heap.size 1 vb (symS S ⟨t, n⟩).length (svt (symS S ⟨t, n⟩))) => refCat13_any _ vb _ _ k W hr hr2 hrn hok.2.2 (fun x hx => by have := hrl x hx; have := Hk.out; omega) (fun x hx => by have := hok.2.1 x hx; have := Hk.out; omega) (by have := Hk.out; omega))
      rw [← Hsu.out] at Hcat
      have Hlt := Lib.hid hlt
      have Hov : Hid (most < (rowS k S (l.take (i + 1))).length → OverR k most S l) := Lib.hid fun h => ⟨i, hil, h⟩
      obtain ⟨rn, hrn2⟩ : ∃ rn, rn = (rowS k S (l.take i)).length := ⟨_, rfl⟩
      rw [← hrn2] at HRs Hcat HR ⊢
      obtain ⟨r2, hr2e⟩ : ∃ r2, r2 = rowS k S (l.take (i + 1)) := ⟨_, rfl⟩
      rw [← hr2e] at Hcat Hov
      have Hr2 := Lib.hid hr2e
      have Hrx : Hid (t = true → ∃ vx, vx = Value.slice (some ⟨wr.heap.size + 1, 0, none⟩) 1 1 ∧ Row ((wr.alloc (.cells #[.int .u8 (n % 256)] 5)).alloc (.cells #[.string ⟨[toB n].toArray⟩] 9)) ((wr.alloc (.cells #[.int .u8 (n % 256)] 5)).alloc (.cells #[.string ⟨[toB n].toArray⟩] 9)).heap.size 1 (.slice (some ⟨wr.heap.size + 1, 0, none⟩) 1 1) (symS S ⟨t, n⟩).length (svt (symS S ⟨t, n⟩))) := Lib.hid fun ht => by
        subst ht
        have h1 := hsn.1 rfl
        have e : symS S ⟨true, n⟩ = [[toB n]] := by unfold symS; simp only [if_true]; rw [toB_tok n h1.1 h1.2]
        rw [e]
        exact ⟨_, rfl, hr2.mono (by simp)⟩
      have Hsn := Lib.hid hsn.2
      clear hil hb6 hb1 hs1 hrb hb2 hr2 hb12 hsn hok hlt hi hrl hrn hrn2 hr2e HR Hsu
      go_upto_region 6 with fail
      clear hcv f0 f1
      have Hsz : Hid (((wr.alloc (.cells #[.int .u8 (n % 256)] 5)).alloc (.cells #[.string ⟨[toB n].toArray⟩] 9)).heap.size = wr.heap.size + 2) := Lib.hid (by simp)
      generalize (wr.alloc (.cells #[.int .u8 (n % 256)] 5)).alloc (.cells #[.string ⟨[toB n].toArray⟩] 9) = ws at *
      have Hfin : Hid (∀ w4 v4, w4.ownsRow ws.heap.size 9 1 v4 r2.length (svt r2) → Below ws.heap.size ws w4 → ∃ a4 c4, v4 = .slice a4 r2.length c4 ∧ Row w4 w4.heap.size 1 (.slice a4 r2.length c4) r2.length (svt r2) ∧ Below w.heap.size w w4) := Lib.hid fun w4 v4 ho hb => by
        obtain ⟨a4, c4, rfl, _, _⟩ := owns_valPK ho
        exact ⟨a4, c4, rfl, Row.of_owns ho, HBs.out.trans (hb.mono HBs.out.size)⟩
      have Hend : Hid (∀ j, j < i + 1 → r2.length ≤ most → (rowS k S (l.take (j + 1))).length ≤ most) := Lib.hid fun j hj hle => by
        rcases Nat.lt_or_ge j i with h1 | h1
        · exact HO.out j h1
        · obtain rfl : j = i := by omega
          rw [← Hr2.out]; exact hle
      cases t with
      | true =>
        obtain ⟨vx, _, hrx⟩ := Hrx.out rfl
        have Hq := Lib.hid (Hcat.out ws _ HRs.out hrx)
        clear hrx Hrx Hcat
        go_wp2_with fail
        refine (Hq.out).mono ?_
        rintro e w4 ⟨v4, rfl, ho4, hb4⟩
        obtain ⟨a4, c4, rfl, hr4, hb04⟩ := Hfin.out w4 v4 ho4 hb4
        have Hr4 := Lib.hid hr4; have HB4 := Lib.hid hb04
        obtain ⟨r2n, hr2n⟩ : ∃ r2n, r2n = r2.length := ⟨_, rfl⟩
        rw [← hr2n] at Hr4 Hov Hend ⊢
        have Hr2n := Lib.hid hr2n
        clear ho4 hb4 hr4 hb04 Hq Hfin hr2n hfc0 hfc1
        by_cases hov : most < r2n
        · have q1 : decide (most < r2n) = true := decide_eq_true hov
          have q2 : decide ((most : Int) < (r2n : Int)) = true := decide_eq_true (by omega)
          have HE : Hid (RowOfP w k most S l (.returned (.tuple #[.slice none 0 0, .bool false])) w4) := Lib.hid ⟨.inr ⟨Hov.out hov, rfl⟩, HB4.out⟩
          clear hov
          go_wp2_with fail
          go_ret2
          exact HE.out
        · have q1 : decide (most < r2n) = false := decide_eq_false hov
          have q2 : decide ((most : Int) < (r2n : Int)) = false := decide_eq_false (by omega)
          have Hle := Lib.hid (Nat.not_lt.1 hov)
          clear hov
          go_wp2_with fail
          go_roundw
          case rel => exact ⟨i + 1, Hlt.out, by go_num, Lib.hid (by rw [← Hr2.out, ← Hr2n.out]; exact Hr4.out), Lib.hid (fun j hj => Hend.out j hj Hle.out), HB4⟩
          case measure => have := Hlt.out; simp [intOf]; omega
      | false =>
        obtain ⟨n0, n1⟩ := Hsn.out rfl
        obtain ⟨q, rfl⟩ : ∃ q : Nat, n = (q : Int) := ⟨n.toNat, by omega⟩
        have hSs := HS.out.below HBs.out
        have hq : q < S.length := by rw [hSs.len]; omega
        obtain ⟨v, hv, hr⟩ := hSs.at_ q hq
        have e : symS S ⟨false, (q : Int)⟩ = S[q] := by unfold symS; simp only [Bool.false_eq_true, if_false]; exact stAt_nat S q hq
        rw [e] at Hcat
        have hq1 : (q : Int) < (N : Int) := by omega
        have hq2 : (0 : Int) ≤ (q : Int) := by omega
        have Hq := Lib.hid (Hcat.out ws v HRs.out hr)
        obtain ⟨xa, xc, rfl, _, _⟩ := hr.val
        generalize S[q] = y at *
        generalize y.length = yn at *
        clear hr hSs hq e Hrx Hcat n0 n1
        go_wp2_with fail
        refine (Hq.out).mono ?_
        rintro e w4 ⟨v4, rfl, ho4, hb4⟩
        obtain ⟨a4, c4, rfl, hr4, hb04⟩ := Hfin.out w4 v4 ho4 hb4
        have Hr4 := Lib.hid hr4; have HB4 := Lib.hid hb04
        obtain ⟨r2n, hr2n⟩ : ∃ r2n, r2n = r2.length := ⟨_, rfl⟩
        rw [← hr2n] at Hr4 Hov Hend ⊢
        have Hr2n := Lib.hid hr2n
        clear ho4 hb4 hr4 hb04 Hq Hfin hr2n hfc0 hfc1 hv
        by_cases hov : most < r2n
        · have q1 : decide (most < r2n) = true := decide_eq_true hov
          have q2 : decide ((most : Int) < (r2n : Int)) = true := decide_eq_true (by omega)
          have HE : Hid (RowOfP w k most S l (.returned (.tuple #[.slice none 0 0, .bool false])) w4) := Lib.hid ⟨.inr ⟨Hov.out hov, rfl⟩, HB4.out⟩
          clear hov
          go_wp2_with fail
          go_ret2
          exact HE.out
        · have q1 : decide (most < r2n) = false := decide_eq_false hov
          have q2 : decide ((most : Int) < (r2n : Int)) = false := decide_eq_false (by omega)
          have Hle := Lib.hid (Nat.not_lt.1 hov)
          clear hov
          go_wp2_with fail
          go_roundw
          case rel => exact ⟨i + 1, Hlt.out, by go_num, Lib.hid (by rw [← Hr2.out, ← Hr2n.out]; exact Hr4.out), Lib.hid (fun j hj => Hend.out j hj Hle.out), HB4⟩
          case measure => have := Hlt.out; simp [intOf]; omega
    · obtain rfl : i = ln := by omega
      have Hno : Hid (¬ OverR k most S l) := Lib.hid fun ⟨j, hj, h1⟩ => by
        have := HO.out j (by have := Hln.out; omega); omega
      have hR := HR.out
      rw [Hln.out, List.take_length] at hR
      have hi0 : decide (i < i) = false := by simp
      obtain ⟨rn, hrn2⟩ : ∃ rn, rn = (rowS k S (l.take i)).length := ⟨_, rfl⟩
      have hrn3 : rn = (rowS k S l).length := by rw [hrn2, Hln.out, List.take_length]
      rw [← hrn2]
      have HE : Hid (RowOfP w k most S l (.returned (.tuple #[.slice ra rn rc, .bool true])) wr) := Lib.hid ⟨.inl ⟨Hno.out, _, rfl, by rw [hrn3]; exact hR⟩, HB.out⟩
      clear hR hrn2 hrn3 hlt hi
      go_wp2_with fail
      go_ret2
      exact HE.out
end Go.Proofs.Ytimgnbacgdmiiaa
namespace Go.Proofs.Ytimgnbacgdmiiaa
open Go.RowKit PK
set_option linter.unusedVariables false
set_option linter.unusedSimpArgs false
attribute [local go_sem ↓] append_appM

theorem strs_oneT (l : List Value) (h : ∀ u ∈ l, u = .slice none 0 0) : ∀ u ∈ l, u.oneCell' = true := by
  intro u hu; rw [h u hu]; rfl
theorem own_pushS {w : World} {n m : Nat} {lv : Value} (hn : n ≤ w.heap.size) (h : w.ownsRow n 32 1 lv m (List.replicate m (.slice none 0 0))) (hl : m + 1 ≤ 10000000) :
    ∃ a c w3, Sem.run Try.prog (appM #[27, 27] 27 #[lv, .slice (some ⟨w.heap.size, 0, none⟩) 1 1]) (w.alloc (.cells #[.slice none 0 0] 32)) = .ok (.slice a (m + 1) c) w3 ∧ w3.ownsRow n 32 1 (.slice a (m + 1) c) (m + 1) (List.replicate (m + 1) (.slice none 0 0)) ∧ Below n w w3 := by
  obtain ⟨i0, hi0, hz0, hz1, hz2⟩ := info_parts info_strs
  have rt : Row (w.alloc (.cells #[.slice none 0 0] 32)) (w.heap.size + 1) 1 (.slice (some ⟨w.heap.size, 0, none⟩) 1 1) 1 [.slice none 0 0] := row_cellsB w [.slice none 0 0] 1 1 1 _ rfl (Nat.le_refl _) (by unfold maxLen; omega)
  obtain ⟨v', w2, h1, h2, h3, h4⟩ := run_append_row (P := Try.prog) (w.alloc (.cells #[.slice none 0 0] 32)) 27 27 n 32 i0 (.slice none 0 0) 1 24 Try.underlying27 hi0 hz0 hz1 hz2 rfl (by decide) lv m _ (h.alloc _) (w.heap.size + 1) _ 1 [.slice none 0 0] rt (strs_oneT _ (by simp)) (by unfold maxLen; omega) (by omega) (by simp; omega)
  have e : List.replicate m (Value.slice none 0 0) ++ [.slice none 0 0] = List.replicate (m + 1) (.slice none 0 0) := by rw [List.replicate_succ']
  rw [e] at h2
  obtain ⟨a, c, rfl, _, _⟩ := owns_valP h2
  exact ⟨a, c, w2, h1, h2, ((Below.refl n w).alloc hn _).grown h3 (by simp; omega) fun k e => (h.lt k e).1⟩
/-- The document's sets in memory. -/
structure DSt (W : World) (n0 g N c : Nat) (X : List (Value × List Tx)) : Prop where
  lt : n0 ≤ g ∧ g < W.heap.size
  len : X.length = N
  out : W.ownsRow n0 32 1 (.slice (some ⟨g, 0, none⟩) N c) N (X.map (·.1))
  each : ∀ x ∈ X, W.ownsRow n0 9 1 x.1 x.2.length (svt x.2)
  ap : ∀ x ∈ X, ∀ q, x.1.ownBlock = some q → q ≠ g
theorem DSt.below {W W' : World} {n0 g N c : Nat} {X : List (Value × List Tx)} (h : DSt W n0 g N c X) (hb : Below W.heap.size W W') : DSt W' n0 g N c X :=
  ⟨⟨h.lt.1, Nat.lt_of_lt_of_le h.lt.2 hb.size⟩, h.len, owns_belowP h.out hb, fun x hx => owns_belowP (h.each x hx) hb, h.ap⟩
theorem DSt.sets {W : World} {n0 g N c : Nat} {X : List (Value × List Tx)} (h : DSt W n0 g N c X) (hN : 0 < N) : SetsR W g N c (X.map (·.2)) := by
  refine ⟨by rw [List.length_map]; exact h.len, h.lt.2, fun j hj => ?_⟩
  rw [List.length_map] at hj
  obtain ⟨g', hv, _, _, hc, _⟩ := owns_cellN h.out hN
  simp only [Option.some.injEq, Addr.mk.injEq, and_true] at hv
  subst hv
  refine ⟨X[j].1, hc j _ (by rw [List.getElem?_map, List.getElem?_eq_getElem hj]; rfl), ?_⟩
  rw [List.getElem_map]
  exact Row.of_owns (h.each _ (List.getElem_mem hj))
theorem DSt.put {W : World} {n0 g N c : Nat} {X : List (Value × List Tx)} (h : DSt W n0 g N c X) (j : Nat) (hj : j < N) (v : Value) (l : List Tx) (n1 : Nat) (hv : W.ownsRow n1 9 1 v l.length (svt l)) (hn : g < n1) : DSt (W.setCell ⟨g, j, none⟩ v) n0 g N c (X.set j (v, l)) := by
  have hs : (W.setCell ⟨g, j, none⟩ v).heap.size = W.heap.size := by simp [World.setCell]
  have hb : ∀ q, q ≠ g → (W.setCell ⟨g, j, none⟩ v).heap[q]? = W.heap[q]? := fun q hq => Below.heap_setCell _ _ _ _ hq
  refine ⟨⟨h.lt.1, by rw [hs]; exact h.lt.2⟩, by rw [List.length_set]; exact h.len, ?_, fun x hx => ?_, fun x hx q e => ?_⟩
  · have e : (X.set j (v, l)).map (·.1) = (X.map (·.1)).set j v := by rw [List.map_set]
    rw [e]
    exact owns_setN h.out j (by rw [List.length_map, h.len]; exact hj) v
  · rcases List.mem_or_eq_of_mem_set hx with h1 | h1
    · exact owns_blockN (h.each x h1) fun q e => hb q (h.ap x h1 q e)
    · subst h1
      exact owns_blockN (owns_baseP hv (by have := h.lt.1; omega)) fun q e => hb q (by have := (hv.lt q e).1; omega)
  · rcases List.mem_or_eq_of_mem_set hx with h1 | h1
    · exact h.ap x h1 q e
    · subst h1; have := (hv.lt q e).1; omega
def lenV : Value → Nat
  | .slice _ n _ => n
  | _ => 0
/-- How much sets may grow yet. -/
def restW (most : Nat) (W : World) (g N : Nat) : Nat := ((List.range N).map fun j => most - lenV ((W.cell? ⟨g, j, none⟩).getD undef)).sum
theorem DSt.rest {W : World} {n0 g N c most : Nat} {X : List (Value × List Tx)} (h : DSt W n0 g N c X) (hN : 0 < N) : restW most W g N + 1 = muG most (some (X.map (·.2))) := by
  show _ = 1 + _
  rw [Nat.add_comm]
  congr 1
  unfold restW
  congr 1
  refine List.ext_getElem (by simp [h.len]) fun j h1 h2 => ?_
  have hj : j < X.length := by simpa using h2
  obtain ⟨g', hv, _, _, hc, _⟩ := owns_cellN h.out hN
  simp only [Option.some.injEq, Addr.mk.injEq, and_true] at hv
  subst hv
  have h3 := hc j X[j].1 (by rw [List.getElem?_map, List.getElem?_eq_getElem hj]; rfl)
  obtain ⟨a, c', h4, _, _⟩ := owns_valP (h.each _ (List.getElem_mem hj))
  simp only [List.getElem_map, List.getElem_range, h3, Option.getD_some, h4, lenV]
/-- Nothing is to be done at a production. -/
def QP (k : Int) (most : Nat) (S : Sts) (p : Pr) : Prop := ¬ OverR k most S p.right ∧ ∀ x ∈ rowS k S p.right, x ∈ stAt S p.left
/-- What the document's Grown answers. -/
def GrownP (w : World) (b : Bn) (k : Int) (most : Nat) (e : Ending) (w' : World) : Prop :=
  ((∃ g c S, e = .returned (.tuple #[.slice (some ⟨g, 0, none⟩) b.of.length c, .bool true]) ∧ InvS b k most S ∧ Closed b k S ∧ (∀ p ∈ b.l, ¬ OverR k most S p.right) ∧ SetsR w' g b.of.length c S) ∨ (e = .returned (.tuple #[.slice none 0 0, .bool false]) ∧ ∃ S, Sound b k S ∧ Over b k most S)) ∧ Below w.heap.size w w'
end Go.Proofs.Ytimgnbacgdmiiaa
namespace Go.Proofs.Ytimgnbacgdmiiaa
open Go.RowKit PK
set_option linter.unusedVariables false
set_option linter.unusedSimpArgs false
attribute [local go_sem ↓] append_appM

theorem mu_put {b : Bn} {k : Int} {most : Nat} {S : Sts} (h : InvS b k most S) (j : Nat) (hj : j < S.length) (a : List Tx) (h1 : S[j].length < a.length) (h2 : a.length ≤ most) : muG most (some (S.set j a)) < muG most (some S) := by
  show 1 + _ < 1 + _
  rw [List.map_set]
  have := sum_set_lt (S.map fun a => most - a.length) j (most - a.length) (by simpa using hj) (by rw [List.getElem_map]; omega)
  omega
theorem qp_closed {b : Bn} {k : Int} {most : Nat} {S : Sts} (h : ∀ p ∈ b.l, QP k most S p) : Closed b k S ∧ ∀ p ∈ b.l, ¬ OverR k most S p.right := ⟨fun p hp => (h p hp).2, fun p hp => (h p hp).1⟩
set_option maxHeartbeats 8000000 in
set_option maxRecDepth 100000 in
theorem grown_any (b : Bn) (k : Int) (most : Nat) (ov lv : Value) (B : Nat) (w : World) (hB : B ≤ w.heap.size) (r : BR w B ov lv b) (h0 : bmay b = 0) (hk : 1 ≤ k ∧ k ≤ 4) (hm : most ≤ 600) :
    Calls Try.prog 36 #[.agg #[.int .i64 b.toks, .int .i64 b.look, ov, lv], .int .i64 k, .int .i64 (most : Nat)] w (GrownP w b k most) := by
  obtain ⟨oa, oc, rfl, ho1, ho2⟩ := r.of.val
  obtain ⟨la, lc, rfl, hl1, hl2⟩ := r.l.val
  obtain ⟨z1, z2, z3, z4, z5, z6, z7, z8, z9, z10⟩ := bmay_zero h0
  have hbox := BoxB.new b.toks b.look 25 hB r
  have hb1 := (Below.refl w.heap.size w).alloc (Nat.le_refl _) (.cells #[.int .i64 b.toks, .int .i64 b.look, .slice oa b.of.length oc, .slice la b.l.length lc] 25)
  have hL : LookOk b k most b.of.length := ⟨z6, z7, hk, hm, ⟨rfl, z1, z2⟩, z4⟩
  have hinv := inv_start b k most
  obtain ⟨ol, hol⟩ : ∃ ol, ol = b.of.length := ⟨_, rfl⟩
  obtain ⟨ll, hll⟩ : ∃ ll, ll = b.l.length := ⟨_, rfl⟩
  obtain ⟨tk, htk⟩ : ∃ tk, tk = b.toks := ⟨_, rfl⟩
  obtain ⟨lk, hlk⟩ : ∃ lk, lk = b.look := ⟨_, rfl⟩
  rw [← hol, ← hll, ← htk, ← hlk] at hbox hb1
  rw [← hol] at hL hinv
  rw [← hol, ← hll, ← htk, ← hlk]
  have ho500 : ol ≤ 500 := by omega
  have ho1' : 1 ≤ ol := by omega
  have hl2000 : ll ≤ 2000 := by omega
  have hm63 : (most : Int) ≤ 1000 := by omega
  have Hbox := Lib.hid hbox; have Hb1 := Lib.hid hb1; have HL := Lib.hid hL; have Hinv := Lib.hid hinv; have Hol := Lib.hid hol; have Hll := Lib.hid hll; have Hok := Lib.hid z6
  clear r hbox hb1 hL hinv hol hll htk hlk hB hm ho1 ho2 hl1 hl2 z1 z2 z3 z4 z5 z6 z7 z8 z9 z10 h0 hk
  go_enter Try.func36, Try.ntmps36
  go_upto_region 1 with fail
  generalize w.alloc (.cells #[.int .i64 tk, .int .i64 lk, .slice oa ol oc, .slice la ll lc] 25) = w1 at *
  have Hc : Hid (∀ W, Below w1.heap.size w1 W → W.cell? ⟨w.heap.size, 2, none⟩ = some (.slice oa ol oc) ∧ W.cell? ⟨w.heap.size, 3, none⟩ = some (.slice la ll lc)) := Lib.hid fun W hW => ⟨(Hbox.out.keep hW).c2, (Hbox.out.keep hW).c3⟩
  have Hown0 : Hid ((w1.alloc (.cells #[] 32)).ownsRow w1.heap.size 32 1 (.slice (some ⟨w1.heap.size, 0, none⟩) 0 0) 0 (List.replicate 0 (.slice none 0 0))) := Lib.hid (World.ownsRow_made (base := w1.heap.size) (e := 32) (size := 1) w1 #[] 0 (Nat.le_refl _) (Nat.zero_le _) rfl)
  go_wp2_with fail
  go_loopw [8, 9] (fun xv nv wr => ∃ m : Nat, m ≤ ol ∧ nv = .int .i64 (m : Nat) ∧ Hid (wr.ownsRow w1.heap.size 32 1 xv m (List.replicate m (.slice none 0 0))) ∧ Hid (Below w1.heap.size w1 wr)) (fun _ nv _ => ol - (intOf nv).toNat)
  case atStart => exact ⟨0, Nat.zero_le _, rfl, Hown0, Lib.hid ((Below.refl _ w1).alloc (Nat.le_refl _) _)⟩
  case round =>
    clear Hown0
    obtain ⟨m, hm, rfl, HO, HB⟩ := hrel
    obtain ⟨xa, xc, rfl, _, _⟩ := owns_valP HO.out
    obtain ⟨c2, c3⟩ := Hc.out _ HB.out
    by_cases hlt : m < ol
    · obtain ⟨a5, d5, w5, happ, ho5, hb5⟩ := own_pushS HB.out.size HO.out (by omega)
      have Ho5 := Lib.hid ho5
      have HB5 := Lib.hid (HB.out.trans hb5)
      have hm1 : (m : Int) < (ol : Int) := by omega
      have hm3 : (m : Int) ≤ 1000 := by omega
      have Hlt := Lib.hid hlt
      clear ho5 hb5 hlt hm
      go_wp2_with fail
      go_roundw
      case rel => exact ⟨m + 1, Hlt.out, by go_num, Ho5, HB5⟩
      case measure => have := Hlt.out; simp [intOf]; omega
    · obtain rfl : m = ol := by omega
      obtain ⟨g, hg, hg1, hg2, _, _⟩ := owns_cellN HO.out (by omega)
      subst hg
      have HD0 : Hid (DSt wr w1.heap.size g m xc (List.replicate m (.slice none 0 0, []))) := Lib.hid ⟨⟨hg1, hg2⟩, by simp, by simpa using HO.out, (fun x hx => by rw [List.eq_of_mem_replicate hx]; exact World.ownsRow_nil _ _ _ _), fun x hx q e => by rw [List.eq_of_mem_replicate hx] at e; cases e⟩
      have e0 : (List.replicate m ((.slice none 0 0, []) : Value × List Tx)).map (·.2) = List.replicate m [] := by simp
      have HI0 : Hid (InvS b k most ((List.replicate m ((.slice none 0 0, []) : Value × List Tx)).map (·.2))) := Lib.hid (by rw [e0]; exact Hinv.out)
      have hi0 : decide (m < m) = false := by simp
      clear hlt hm HO hg1 hg2 e0
      go_wp2_with fail
      clear c2 c3
      go_loopw [10] (fun mv wr => ∃ (m' : Bool) (X : List (Value × List Tx)), mv = .bool m' ∧ Hid (DSt wr w1.heap.size g m xc X) ∧ Hid (InvS b k most (X.map (·.2))) ∧ Hid (Below w1.heap.size w1 wr) ∧ Hid (m' = false → ∀ p ∈ b.l, QP k most (X.map (·.2)) p)) (fun mv wr => match mv with | .bool true => restW most wr g m + 1 | _ => 0)
      case atStart => exact ⟨true, _, rfl, HD0, HI0, HB, Lib.hid (fun h => by cases h)⟩
      case round =>
        clear HD0 HI0 HB
        obtain ⟨m', X0, rfl, HD, HI, HB, HQ⟩ := hrel
        cases m' with
        | false =>
          obtain ⟨hcl, hno⟩ := qp_closed (HQ.out rfl)
          have HE : Hid (GrownP w b k most (.returned (.tuple #[.slice (some ⟨g, 0, none⟩) m xc, .bool true])) wr) := Lib.hid ⟨.inl ⟨g, xc, _, by rw [Hol.out], HI.out, hcl, hno, by rw [← Hol.out]; exact HD.out.sets ho1'⟩, Hb1.out.trans (HB.out.mono Hb1.out.size)⟩
          clear hcl hno
          go_wp2_with fail
          go_ret2
          exact HE.out
        | true =>
          obtain ⟨wo, rfl⟩ : ∃ wo : World, wo = wr := ⟨_, rfl⟩
          have Hrest := Lib.hid (HD.out.rest (most := most) ho1')
          go_wp2_with fail
          go_loopw [10, 11] (fun mv iv wx => ∃ (m' : Bool) (X : List (Value × List Tx)) (i : Nat), i ≤ ll ∧ mv = .bool m' ∧ iv = .int .i64 (i : Nat) ∧ Hid (DSt wx w1.heap.size g m xc X) ∧ Hid (InvS b k most (X.map (·.2))) ∧ Hid (Below w1.heap.size w1 wx) ∧ Hid (m' = false → X.map (·.2) = X0.map (·.2) ∧ ∀ j (hj : j < b.l.length), j < i → QP k most (X0.map (·.2)) b.l[j]) ∧ Hid (m' = true → muG most (some (X.map (·.2))) < muG most (some (X0.map (·.2))))) (fun _ iv _ => ll - (intOf iv).toNat)
          case atStart => exact ⟨false, X0, 0, Nat.zero_le _, rfl, rfl, HD, HI, HB, Lib.hid (fun _ => ⟨rfl, fun j _ hj => by omega⟩), Lib.hid (fun h => by cases h)⟩
          case round =>
            obtain ⟨m', X, i, hi, rfl, rfl, HD2, HI2, HB2, HQ2, HC2⟩ := hrel
            obtain ⟨c2, c3⟩ := Hc.out _ HB2.out
            by_cases hlt : i < ll
            · have hlt' : i < b.l.length := by have := Hll.out; omega
              obtain ⟨b1, o1, a1, d1, hao, hbb, e0, e1, rk, m1, m2⟩ := Hbox.out.r.l.get i hlt'
              subst hao
              have hpm := List.getElem_mem hlt'
              obtain ⟨p, hp⟩ : ∃ p, p = b.l[i] := ⟨_, rfl⟩
              rw [← hp] at e0 e1 rk m1 hpm
              have Hp : Hid (∀ h : i < b.l.length, p = b.l[i]'h) := Lib.hid (fun h => hp)
              obtain ⟨x, rt⟩ := p
              simp only at e0 e1 rk m1
              have hpo := Hok.out _ hpm
              obtain ⟨hp1, hp2⟩ := prOk_left hpo
              simp only at hp1 hp2
              have hps : ∀ s ∈ rt, (s.tok = true → 0 ≤ s.n ∧ s.n ≤ 255) ∧ (s.tok = false → 0 ≤ s.n ∧ s.n < m) := fun s hs => ⟨fun ht => by have := prOk_tok hpo hs ht; have := HL.out.tk; omega, fun ht => by have := prOk_sym hpo hs ht; have := Hol.out; omega⟩
              obtain ⟨q, rfl⟩ : ∃ q : Nat, x = (q : Int) := ⟨x.toNat, by omega⟩
              have hq : q < m := by have := Hol.out; omega
              have hb1l : b1 < w1.heap.size := Nat.lt_of_lt_of_le hbb Hbox.out.le
              have Hg := Lib.hid (fun W (hW : Below w1.heap.size w1 W) => And.intro ((hW.cell (p := ⟨b1, o1 + i * 2, none⟩) hb1l).trans e0) ((hW.cell (p := ⟨b1, o1 + i * 2 + 1, none⟩) hb1l).trans e1))
              have hrk := Row.below rk (HB2.out.mono Hbox.out.le)
              have hSO : SOk k (X.map (·.2)) := fun a ha => ⟨HI2.out.sound.set a ha, HI2.out.le a ha, Nat.le_trans (HI2.out.few a ha) HL.out.m1⟩
              have Hrow := Lib.hid (refRow14_any rt (.slice a1 rt.length d1) k g m xc most (X.map (·.2)) B wr hrk (Nat.le_trans Hbox.out.le HB2.out.size) (HD2.out.sets ho1') HL.out.k1 HL.out.m1 hSO hps (by omega))
              obtain ⟨f0, f1⟩ := Hg.out _ HB2.out
              have Hpm := Lib.hid hpm; have Hq := Lib.hid hq
              have hi1 : (i : Int) < (ll : Int) := by omega
              have hi2 : (0 : Int) ≤ (i : Int) := by omega
              have hi3 : (i : Int) ≤ 10000 := by omega
              have Hlt := Lib.hid hlt
              obtain ⟨rn, hrn⟩ : ∃ rn, rn = rt.length := ⟨_, rfl⟩
              rw [← hrn] at Hrow Hg f1
              clear e0 e1 rk m1 m2 hpo hps hb1l hrk hSO hpm hp hlt hlt' hi hrn hp1 hp2 hq
              go_wp2_with fail
              refine (Hrow.out).mono ?_
              rintro e W2 ⟨hor, hb2⟩
              have HB3 := Lib.hid (HB2.out.trans (hb2.mono HB2.out.size))
              have HD3 := Lib.hid (HD2.out.below hb2)
              obtain ⟨g0, g1⟩ := Hg.out _ HB3.out
              obtain ⟨c22, c32⟩ := Hc.out _ HB3.out
              clear hb2 Hrow f0 f1 c2 c3
              rcases hor with ⟨hno, v2, rfl, hr2⟩ | ⟨hov, rfl⟩
              rotate_left
              · have HE : Hid (GrownP w b k most (.returned (.tuple #[.slice none 0 0, .bool false])) W2) := Lib.hid ⟨.inr ⟨rfl, _, HI2.out.sound, _, Hpm.out, .inl hov⟩, Hb1.out.trans (HB3.out.mono Hb1.out.size)⟩
                clear hov
                go_wp2_with fail
                go_ret2
                exact HE.out
              · obtain ⟨a2, d2, rfl, _, _⟩ := hr2.val
                have hrn2 : (rowS k (X.map (·.2)) rt).length ≤ 1000 := by
                  rcases List.eq_nil_or_concat rt with rfl | ⟨r', s', rfl⟩
                  · show ([[]] : List Tx).length ≤ 1000; simp
                  · have h1 : ¬ most < (rowS k (X.map (·.2)) ((r'.concat s').take (r'.length + 1))).length := fun h => hno ⟨r'.length, by simp, h⟩
                    rw [List.take_of_length_le (by simp)] at h1
                    have := HL.out.m1; omega
                have hqX : q < X.length := by rw [HD3.out.len]; exact Hq.out
                obtain ⟨g', hv, _, _, hcl, hfr⟩ := owns_cellN HD3.out.out (by omega)
                simp only [Option.some.injEq, Addr.mk.injEq, and_true] at hv
                subst hv
                have hcq : W2.cell? ⟨g, q, none⟩ = some X[q].1 := hcl q _ (by rw [List.getElem?_map, List.getElem?_eq_getElem hqX]; rfl)
                have hrq := Row.of_owns (HD3.out.each _ (List.getElem_mem hqX))
                have hqS : q < (X.map (·.2)).length := by rw [List.length_map]; exact hqX
                have hst : stAt (X.map (·.2)) (q : Int) = X[q].2 := by rw [stAt_nat _ q hqS, List.getElem_map]
                obtain ⟨xa2, xc2, hxv, hz1, hz2⟩ := hrq.val
                rw [hxv] at hcq hrq
                have hfew : X[q].2.length ≤ 1000 := by
                  have h1 := HI2.out.few X[q].2 (List.mem_map.2 ⟨_, List.getElem_mem hqX, rfl⟩)
                  have := HL.out.m1; omega
                have Hj := Lib.hid (refJoin_any _ _ _ _ W2.heap.size W2.heap.size W2 (Nat.le_refl _) (Nat.le_refl _) hrq hr2 (Nat.le_trans hfew (by decide)) (Nat.le_trans hrn2 (by decide)))
                have HPut := Lib.hid (fun h => HI2.out.put Hok.out (by have := HL.out.k1; omega) ⟨(q : Int), rt⟩ Hpm.out h)
                have HOv : Hid (most < (joinL X[q].2 (rowS k (X.map (·.2)) rt)).length → Over b k most (X.map (·.2))) := Lib.hid fun h => ⟨_, Hpm.out, .inr (by rw [hst]; exact h)⟩
                have HQp : Hid ((joinL X[q].2 (rowS k (X.map (·.2)) rt)).length = X[q].2.length → QP k most (X.map (·.2)) ⟨(q : Int), rt⟩) := Lib.hid fun h => ⟨hno, fun y hy => by
                  show y ∈ stAt (X.map (·.2)) (q : Int)
                  rw [hst]
                  exact (join_same (by rw [← hst]; exact stAt_isSet HI2.out _) h).2 y hy⟩
                have Hle : Hid (X[q].2.length ≤ (joinL X[q].2 (rowS k (X.map (·.2)) rt)).length) := Lib.hid (join_le (by rw [← hst]; exact stAt_isSet HI2.out _))
                have Hmu := Lib.hid (fun a h1 h2 => mu_put HI2.out q hqS a (by rw [List.getElem_map]; exact h1) h2)
                simp only [Int.toNat_natCast] at HPut
                rw [hst] at HPut
                obtain ⟨A, hA⟩ : ∃ A, A = joinL X[q].2 (rowS k (X.map (·.2)) rt) := ⟨_, rfl⟩
                rw [← hA] at Hj HPut HOv HQp Hle
                obtain ⟨an, han⟩ : ∃ an, an = X[q].2.length := ⟨_, rfl⟩
                rw [← han] at Hj HQp Hle Hmu hcq
                generalize (rowS k (X.map (·.2)) rt).length = r2n at *
                have hq1 : (q : Int) < (m : Int) := by have := Hq.out; omega
                have hq2 : (0 : Int) ≤ (q : Int) := by omega
                clear hr2 hno hrn2 hz1 hz2 hcl hfr hrq hst hxv hfew hA han
                go_wp2_with fail
                refine (Hj.out).mono ?_
                rintro e W3 ⟨v3, rfl, own3, hb3⟩
                obtain ⟨a3, d3, rfl, _, _⟩ := owns_valPK own3
                have HB4 := Lib.hid (HB3.out.trans (hb3.mono HB3.out.size))
                have HD4 := Lib.hid (HD3.out.below hb3)
                have Hown3 := Lib.hid own3
                have hcq3 := (hb3.cell (p := ⟨g, q, none⟩) HD3.out.lt.2).trans hcq
                have hfq3 : W3.frozen? ⟨g, q, none⟩ = false := by
                  obtain ⟨g', hv, _, _, _, hf⟩ := owns_cellN HD4.out.out (by omega)
                  simp only [Option.some.injEq, Addr.mk.injEq, and_true] at hv
                  subst hv; exact hf q
                have hgl : g < W3.heap.size := HD4.out.lt.2
                obtain ⟨gn, hgn⟩ : ∃ gn, gn = A.length := ⟨_, rfl⟩
                rw [← hgn] at Hown3 HOv HPut HQp Hle ⊢
                have Hgn := Lib.hid hgn
                have Hg3 := Lib.hid (HD3.out.lt.2)
                clear own3 hb3 Hj hgn hcq g0 g1 c22 c32 HD2
                by_cases hov : most < gn
                · have q1 : decide (most < gn) = true := decide_eq_true hov
                  have q2 : decide ((most : Int) < (gn : Int)) = true := decide_eq_true (by omega)
                  have HE : Hid (GrownP w b k most (.returned (.tuple #[.slice none 0 0, .bool false])) W3) := Lib.hid ⟨.inr ⟨rfl, _, HI2.out.sound, HOv.out hov⟩, Hb1.out.trans (HB4.out.mono Hb1.out.size)⟩
                  clear hov
                  go_wp2_with fail
                  go_ret2
                  exact HE.out
                · have q1 : decide (most < gn) = false := decide_eq_false hov
                  have q2 : decide ((most : Int) < (gn : Int)) = false := decide_eq_false (by omega)
                  by_cases hgt : an < gn
                  · have q3 : decide (an < gn) = true := decide_eq_true hgt
                    have q4 : decide ((an : Int) < (gn : Int)) = true := decide_eq_true (by omega)
                    have HI5 := HPut.out hov
                    have hput := HD4.out.put q Hq.out (.slice a3 gn d3) A W2.heap.size (by rw [← Hgn.out]; exact Hown3.out) Hg3.out
                    have e5 : (X.map (·.2)).set q A = (X.set q ((.slice a3 gn d3 : Value), A)).map (·.2) := by rw [List.map_set]
                    rw [e5] at HI5
                    have HI6 := Lib.hid HI5
                    have HD6 := Lib.hid hput
                    have HB6 := Lib.hid (HB4.out.setCell (p := ⟨g, q, none⟩) HD4.out.lt.1 (.slice a3 gn d3))
                    have Hm6 : Hid (muG most (some ((X.set q ((.slice a3 gn d3 : Value), A)).map (·.2))) < muG most (some (X0.map (·.2)))) := Lib.hid (by
                      have h1 := Hmu.out A (by rw [← Hgn.out]; exact hgt) (by rw [← Hgn.out]; omega)
                      rw [e5] at h1
                      cases m' with
                      | true => exact Nat.lt_trans h1 (HC2.out rfl)
                      | false => rw [(HQ2.out rfl).1] at h1; exact h1)
                    clear hov hgt HI5 hput e5
                    go_wp2_with fail
                    go_roundw
                    case rel => exact ⟨true, _, i + 1, Hlt.out, rfl, by go_num, HD6, HI6, HB6, Lib.hid (fun h => by cases h), Lib.hid (fun _ => Hm6.out)⟩
                    case measure => have := Hlt.out; simp [intOf]; omega
                  · have q3 : decide (an < gn) = false := decide_eq_false hgt
                    have q4 : decide ((an : Int) < (gn : Int)) = false := decide_eq_false (by omega)
                    have Hqp := Lib.hid (HQp.out (by have := Hle.out; omega))
                    have HQ5 : Hid (m' = false → X.map (·.2) = X0.map (·.2) ∧ ∀ j (hj : j < b.l.length), j < i + 1 → QP k most (X0.map (·.2)) b.l[j]) := Lib.hid fun hm => ⟨(HQ2.out hm).1, fun j hj hji => by
                      rcases Nat.lt_or_ge j i with h1 | h1
                      · exact (HQ2.out hm).2 j hj h1
                      · obtain rfl : j = i := by omega
                        rw [← Hp.out hj, ← (HQ2.out hm).1]; exact Hqp.out⟩
                    clear hov hgt
                    go_wp2_with fail
                    go_roundw
                    case rel => exact ⟨m', X, i + 1, Hlt.out, rfl, by go_num, HD4, HI2, HB4, HQ5, HC2⟩
                    case measure => have := Hlt.out; simp [intOf]; omega
            · obtain rfl : i = ll := by omega
              have HQ5 : Hid (m' = false → ∀ p ∈ b.l, QP k most (X.map (·.2)) p) := Lib.hid fun hm p hp => by
                obtain ⟨j, hj, rfl⟩ := List.getElem_of_mem hp
                rw [(HQ2.out hm).1]
                exact (HQ2.out hm).2 j hj (by have := Hll.out; omega)
              have Hrest2 := Lib.hid (HD2.out.rest (most := most) ho1')
              have hi0 : decide (i < i) = false := by simp
              clear hlt hi
              go_wp2_with fail
              go_roundw
              case rel => exact ⟨m', X, rfl, HD2, HI2, HB2, HQ5⟩
              case measure =>
                cases m' with
                | false => simp
                | true => have := HC2.out rfl; have := Hrest.out; have := Hrest2.out; simp; omega
end Go.Proofs.Ytimgnbacgdmiiaa
namespace Go.Proofs.Ytimgnbacgdmiiaa
open Go.RowKit PK
set_option linter.unusedVariables false
set_option linter.unusedSimpArgs false
attribute [local go_sem ↓] append_appM

/-- What the document's Of answers. -/
def ROfP (w : World) (b : Bn) (e : Ending) (w' : World) : Prop :=
  ((bmay b ≠ 0 ∧ e = .returned (.tuple #[.slice none 0 0, .int .i64 (bmay b)])) ∨ (bmay b = 0 ∧ ((∃ g c S, e = .returned (.tuple #[.slice (some ⟨g, 0, none⟩) b.of.length c, .int .i64 0]) ∧ InvS b b.look 600 S ∧ Closed b b.look S ∧ (∀ p ∈ b.l, ¬ OverR b.look 600 S p.right) ∧ SetsR w' g b.of.length c S) ∨ (e = .returned (.tuple #[.slice none 0 0, .int .i64 15]) ∧ ∃ S, Sound b b.look S ∧ Over b b.look 600 S)))) ∧ Below w.heap.size w w'
set_option maxHeartbeats 2000000 in
set_option maxRecDepth 100000 in
theorem refOf14_any (b : Bn) (tk lk : Int) (ov lv : Value) (B : Nat) (w : World) (etk : b.toks = tk) (elk : b.look = lk) (hB : B ≤ w.heap.size) (r : BR w B ov lv b) :
    Calls Try.prog 12 #[.agg #[.int .i64 tk, .int .i64 lk, ov, lv]] w (ROfP w b) := by
  obtain ⟨oa, oc, rfl, ho1, ho2⟩ := r.of.val
  obtain ⟨la, lc, rfl, hl1, hl2⟩ := r.l.val
  subst etk elk
  have hbox := BoxB.new b.toks b.look 25 hB r
  have hb1 := (Below.refl w.heap.size w).alloc (Nat.le_refl _) (.cells #[.int .i64 b.toks, .int .i64 b.look, .slice oa b.of.length oc, .slice la b.l.length lc] 25)
  have hmy := refMay_any b (.slice oa b.of.length oc) (.slice la b.l.length lc) B _ hbox.le hbox.r
  have hgr : bmay b = 0 → ∀ W BW, BW ≤ W.heap.size → BR W BW (.slice oa b.of.length oc) (.slice la b.l.length lc) b → Calls Try.prog 36 #[.agg #[.int .i64 b.toks, .int .i64 b.look, .slice oa b.of.length oc, .slice la b.l.length lc], .int .i64 b.look, .int .i64 600] W (GrownP W b b.look 600) := fun h0 W BW hBW hr => grown_any b b.look 600 _ _ BW W hBW hr h0 (by have := (bmay_zero h0).2.2.2.2.2.2.2.2; omega) (Nat.le_refl _)
  obtain ⟨ol, hol⟩ : ∃ ol, ol = b.of.length := ⟨_, rfl⟩
  obtain ⟨ll, hll⟩ : ∃ ll, ll = b.l.length := ⟨_, rfl⟩
  obtain ⟨tk, htk⟩ : ∃ tk, tk = b.toks := ⟨_, rfl⟩
  obtain ⟨lk, hlk⟩ : ∃ lk, lk = b.look := ⟨_, rfl⟩
  rw [← hol, ← hll, ← htk, ← hlk] at hbox hb1 hmy hgr
  rw [← hol, ← hll, ← htk, ← hlk]
  have Hbox := Lib.hid hbox; have Hb1 := Lib.hid hb1; have Hmy := Lib.hid hmy; have Hgr := Lib.hid hgr; have Hol := Lib.hid hol; have Hlk := Lib.hid hlk
  clear r hbox hb1 hmy hgr hol hll htk hlk ho1 ho2 hl1 hl2 hB
  go_enter Try.func12, Try.ntmps12
  go_upto_region 1 with fail
  generalize w.alloc (.cells #[.int .i64 tk, .int .i64 lk, .slice oa ol oc, .slice la ll lc] 25) = w1 at *
  obtain ⟨c0, c1, c2, c3⟩ := Hbox.out.four
  go_wp2_with fail
  refine (Hmy.out).mono ?_
  rintro e w2 ⟨rfl, hb2⟩
  have Hbx2 := Lib.hid (Hbox.out.keep hb2)
  have HB2 := Lib.hid (Hb1.out.trans (hb2.mono Hb1.out.size))
  clear hb2 c0 c1 c2 c3 Hmy
  by_cases h0 : bmay b = 0
  · have H0 := Lib.hid h0
    have HG := Lib.hid (Hgr.out h0 w2 _ Hbx2.out.le Hbx2.out.r)
    rw [h0]
    clear h0 Hgr
    obtain ⟨c0, c1, c2, c3⟩ := Hbx2.out.four
    go_wp2_with fail
    refine (HG.out).mono ?_
    rintro e w3 ⟨h3, hb3⟩
    have HB3 := Lib.hid (HB2.out.trans (hb3.mono HB2.out.size))
    clear hb3 HG c0 c1 c2 c3
    rcases h3 with ⟨g, c, S, rfl, hI, hcl, hno, hst⟩ | ⟨rfl, hS4⟩
    · rw [← Hol.out]
      have HE : Hid (ROfP w b (.returned (.tuple #[.slice (some ⟨g, 0, none⟩) ol c, .int .i64 0])) w3) := Lib.hid ⟨.inr ⟨H0.out, .inl ⟨g, c, S, by rw [Hol.out], by rw [← Hlk.out]; exact hI, by rw [← Hlk.out]; exact hcl, by rw [← Hlk.out]; exact hno, hst⟩⟩, HB3.out⟩
      clear hI hcl hno hst
      go_wp2_with fail
      go_ret2
      exact HE.out
    · have HE : Hid (ROfP w b (.returned (.tuple #[.slice none 0 0, .int .i64 15])) w3) := Lib.hid ⟨.inr ⟨H0.out, .inr ⟨rfl, by rw [← Hlk.out]; exact hS4⟩⟩, HB3.out⟩
      clear hS4
      go_wp2_with fail
      go_ret2
      exact HE.out
  · have Hne := Lib.hid h0
    have hq : ((bmay b : Int) == 0) = false := by rw [beq_eq_false_iff_ne]; exact h0
    have hq2 : ((bmay b : Int) != 0) = true := by rw [bne_iff_ne]; exact h0
    clear h0
    generalize hm : bmay b = m at *
    have HE : Hid (ROfP w b (.returned (.tuple #[.slice none 0 0, .int .i64 m])) w2) := Lib.hid ⟨.inl ⟨by rw [hm]; exact Hne.out, by rw [hm]⟩, HB2.out⟩
    go_wp2_with fail
    go_ret2
    exact HE.out
/-- The chapter's sample rules. -/
def smp14 : Bn := ⟨2, 2, [-1], [⟨0, [⟨true, 1⟩, ⟨false, 0⟩]⟩, ⟨0, [⟨true, 2⟩]⟩]⟩
theorem br_smp14 (w : World) (A : Obj) : ∃ W, W = ((((w.alloc A).alloc (.cells #[.int .i64 (-1)] 3)).alloc (.cells #[.bool true, .int .i64 1, .bool false, .int .i64 0] 39)).alloc (.cells #[.bool true, .int .i64 2] 39)).alloc (.cells #[.int .i64 0, .slice (some ⟨w.heap.size + 1 + 1, 0, none⟩) 2 2, .int .i64 0, .slice (some ⟨w.heap.size + 1 + 1 + 1, 0, none⟩) 1 1] 57) ∧
    BR W W.heap.size (.slice (some ⟨w.heap.size + 1, 0, none⟩) 1 1) (.slice (some ⟨w.heap.size + 1 + 1 + 1 + 1, 0, none⟩) 2 2) smp14 ∧ Below w.heap.size w W ∧ Below (w.heap.size + 1) (w.alloc A) W := by
  have s1 : (w.alloc A).heap.size = w.heap.size + 1 := by simp
  obtain ⟨W1, hW1⟩ : ∃ W1, W1 = w.alloc A := ⟨_, rfl⟩
  have b1 : Below w.heap.size w W1 := by rw [hW1]; exact (Below.refl w.heap.size w).alloc (Nat.le_refl _) _
  rw [← hW1] at s1 ⊢
  have r1 := row_cellsB W1 (ints [-1]) 1 1 1 3 rfl (Nat.le_refl _) (by unfold maxLen; omega)
  have s2 : (W1.alloc (.cells (ints [-1]).toArray 3)).heap.size = W1.heap.size + 1 := by simp
  have b2 := (Below.refl W1.heap.size W1).alloc (Nat.le_refl _) (.cells (ints [-1]).toArray 3)
  rw [show W1.alloc (.cells #[.int .i64 (-1)] 3) = W1.alloc (.cells (ints [-1]).toArray 3) from rfl]
  generalize W1.alloc (.cells (ints [-1]).toArray 3) = W2 at *
  have r2 := row_cellsB W2 (symC [⟨true, 1⟩, ⟨false, 0⟩]) 2 2 2 39 rfl (Nat.le_refl _) (by unfold maxLen; omega)
  have s3 : (W2.alloc (.cells (symC [⟨true, 1⟩, ⟨false, 0⟩]).toArray 39)).heap.size = W2.heap.size + 1 := by simp
  have b3 := (Below.refl W2.heap.size W2).alloc (Nat.le_refl _) (.cells (symC [⟨true, 1⟩, ⟨false, 0⟩]).toArray 39)
  rw [show W2.alloc (.cells #[.bool true, .int .i64 1, .bool false, .int .i64 0] 39) = W2.alloc (.cells (symC [⟨true, 1⟩, ⟨false, 0⟩]).toArray 39) from rfl]
  generalize W2.alloc (.cells (symC [⟨true, 1⟩, ⟨false, 0⟩]).toArray 39) = W3 at *
  have r3 := row_cellsB W3 (symC [⟨true, 2⟩]) 2 1 1 39 rfl (Nat.le_refl _) (by unfold maxLen; omega)
  have s4 : (W3.alloc (.cells (symC [⟨true, 2⟩]).toArray 39)).heap.size = W3.heap.size + 1 := by simp
  have b4 := (Below.refl W3.heap.size W3).alloc (Nat.le_refl _) (.cells (symC [⟨true, 2⟩]).toArray 39)
  rw [show W3.alloc (.cells #[.bool true, .int .i64 2] 39) = W3.alloc (.cells (symC [⟨true, 2⟩]).toArray 39) from rfl]
  generalize W3.alloc (.cells (symC [⟨true, 2⟩]).toArray 39) = W4 at *
  have r4 := row_cellsB W4 ([[.int .i64 0, .slice (some ⟨w.heap.size + 1 + 1, 0, none⟩) 2 2], [.int .i64 0, .slice (some ⟨w.heap.size + 1 + 1 + 1, 0, none⟩) 1 1]] : List (List Value)).flatten 2 2 2 57 rfl (Nat.le_refl _) (by unfold maxLen; omega)
  have s5 : (W4.alloc (.cells ([[.int .i64 0, .slice (some ⟨w.heap.size + 1 + 1, 0, none⟩) 2 2], [.int .i64 0, .slice (some ⟨w.heap.size + 1 + 1 + 1, 0, none⟩) 1 1]] : List (List Value)).flatten.toArray 57)).heap.size = W4.heap.size + 1 := by simp
  have b5 := (Below.refl W4.heap.size W4).alloc (Nat.le_refl _) (.cells ([[.int .i64 0, .slice (some ⟨w.heap.size + 1 + 1, 0, none⟩) 2 2], [.int .i64 0, .slice (some ⟨w.heap.size + 1 + 1 + 1, 0, none⟩) 1 1]] : List (List Value)).flatten.toArray 57)
  refine ⟨_, rfl, ?_⟩
  rw [show W4.alloc (.cells #[.int .i64 0, .slice (some ⟨w.heap.size + 1 + 1, 0, none⟩) 2 2, .int .i64 0, .slice (some ⟨w.heap.size + 1 + 1 + 1, 0, none⟩) 1 1] 57) = W4.alloc (.cells ([[.int .i64 0, .slice (some ⟨w.heap.size + 1 + 1, 0, none⟩) 2 2], [.int .i64 0, .slice (some ⟨w.heap.size + 1 + 1 + 1, 0, none⟩) 1 1]] : List (List Value)).flatten.toArray 57) from rfl]
  generalize W4.alloc (.cells ([[.int .i64 0, .slice (some ⟨w.heap.size + 1 + 1, 0, none⟩) 2 2], [.int .i64 0, .slice (some ⟨w.heap.size + 1 + 1 + 1, 0, none⟩) 1 1]] : List (List Value)).flatten.toArray 57) = W5 at *
  rw [s1] at s2 r1 b2
  rw [s2] at s3 r2 b3
  rw [s3] at s4 r3 b4
  rw [s4] at s5 r4 b5
  rw [s5]
  have c4 := b5
  have c3 := b4.trans (c4.mono (by omega))
  have c2 := b3.trans (c3.mono (by omega))
  have c1 := b2.trans (c2.mono (by omega))
  refine ⟨⟨((r1.below c2).mono (by omega) : Row W5 _ 1 _ 1 (ints [-1])), _, r4, rfl, fun c hc => ?_, fun i hi => ?_⟩, b1.trans (c1.mono (by omega)), c1⟩
  · simp only [List.mem_cons, List.not_mem_nil, or_false] at hc
    rcases hc with rfl | rfl <;> rfl
  · match i, hi with
    | 0, _ => exact ⟨_, rfl, (r2.below c3).mono (by omega)⟩
    | 1, _ => exact ⟨_, rfl, (r3.below c4).mono (by omega)⟩
set_option maxHeartbeats 1000000 in
theorem any_smp14 (w : World) : Calls Try.prog 37 #[] w fun e w' => ∃ o l, e = .returned (.agg #[.int .i64 2, .int .i64 2, o, l]) ∧ BR w' w'.heap.size o l smp14 ∧ Below w.heap.size w w' := by
  have hc := fun A => br_smp14 w A
  go_enter Try.func37, Try.ntmps37
  go_wp2_with fail
  obtain ⟨W, hW, hr, hb, hb2⟩ := hc (.cells #[.int .i64 2, .int .i64 2, .slice (some ⟨w.heap.size + 1, 0, none⟩) 1 1, .slice (some ⟨w.heap.size + 1 + 1 + 1 + 1, 0, none⟩) 2 2] 25)
  rw [← hW]
  have q := fun j u h => (hb2.cell (p := ⟨w.heap.size, j, none⟩) (Nat.lt_succ_self _)).trans (cell_new w #[.int .i64 2, .int .i64 2, .slice (some ⟨w.heap.size + 1, 0, none⟩) 1 1, .slice (some ⟨w.heap.size + 1 + 1 + 1 + 1, 0, none⟩) 2 2] 25 j u h)
  have q5 := q 0 _ rfl
  have q6 := q 1 _ rfl
  have q7 := q 2 _ rfl
  have q8 := q 3 _ rfl
  clear hc hW q
  refine bodyPost_ret (v := .agg #[.int .i64 2, .int .i64 2, .slice (some ⟨w.heap.size + 1, 0, none⟩) 1 1, .slice (some ⟨w.heap.size + 1 + 1 + 1 + 1, 0, none⟩) 2 2]) (by simp [results, Try.results37, go_sem, q5, q6, q7, q8]) rfl ?_
  exact ⟨_, _, rfl, hr, hb⟩
end Go.Proofs.Ytimgnbacgdmiiaa
