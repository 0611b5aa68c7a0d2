/-
  The document's Row of beginnings.
-/
import Derived.Test.YtimgnbacgdmiiaaFirI
namespace Go.Proofs.Ytimgnbacgdmiiaa
open Go.RowKit PK
set_option linter.unusedVariables false
set_option linter.unusedSimpArgs false
attribute [local go_sem ↓] append_appM

theorem toB_tok (n : Int) (h0 : 0 ≤ n) (h1 : n ≤ 255) : toB n = UInt8.ofNat n.toNat := by unfold toB; rw [show n % 256 = n by omega]
set_option maxHeartbeats 4000000 in
set_option maxRecDepth 100000 in
theorem refRow14_any (l : List Sy) (lv : Value) (k : Int) (g N c most : Nat) (S : Sts) (BL : Nat) (w : World) (rl : SR w BL lv l) (hBL : BL ≤ w.heap.size) (h : SetsR w g N c S) (hk : 1 ≤ k ∧ k ≤ 4) (hm : most ≤ 600) (hS : SOk k S) (hs : ∀ s ∈ l, (s.tok = true → 0 ≤ s.n ∧ s.n ≤ 255) ∧ (s.tok = false → 0 ≤ s.n ∧ s.n < N)) (hN : N ≤ 1000) :
    Calls Try.prog 16 #[lv, .int .i64 k, .slice (some ⟨g, 0, none⟩) N c, .int .i64 (most : Nat)] w (RowOfP w k most S l) := by
  obtain ⟨la, lc, rfl, hl1, hl2⟩ := Row.val rl
  unfold maxLen at hl2
  have hr0 : Row (w.alloc (.cells #[.string ⟨#[]⟩] 9)) (w.alloc (.cells #[.string ⟨#[]⟩] 9)).heap.size 1 (.slice (some ⟨w.heap.size, 0, none⟩) 1 1) 1 (svt [[]]) := (row_cellsB w (svt [[]]) 1 1 1 9 rfl (Nat.le_refl _) (by unfold maxLen; omega)).mono (by simp)
  have hb0 := (Below.refl w.heap.size w).alloc (Nat.le_refl _) (.cells #[.string ⟨#[]⟩] 9)
  obtain ⟨ln, hln⟩ : ∃ ln, ln = l.length := ⟨_, rfl⟩
  have Rl := Lib.hid (fun W (hW : Below w.heap.size w W) => (show SR W BL (.slice la l.length lc) l from Row.below rl (hW.mono hBL)))
  rw [← hln] at Rl hl1 ⊢
  have HS := Lib.hid h; have Hk := Lib.hid hk; have HSo := Lib.hid hS; have Hs := Lib.hid hs; have Hr0 := Lib.hid hr0; have Hb0 := Lib.hid hb0; have Hln := Lib.hid hln; have Hm := Lib.hid hm; have HN := Lib.hid hN; have HBL := Lib.hid hBL
  have hl63 : (ln : Int) ≤ 9223372036854775807 := by omega
  have hm63 : (most : Int) ≤ 1000 := by omega
  clear rl hBL h hk hS hs hr0 hb0 hln hl1 hl2 hm hN
  go_enter Try.func16, Try.ntmps16
  go_wp2_with fail
  go_loopw [10, 11] (fun rv iv wr => ∃ i : Nat, i ≤ ln ∧ iv = .int .i64 (i : Nat) ∧ Hid (Row wr wr.heap.size 1 rv (rowS k S (l.take i)).length (svt (rowS k S (l.take i)))) ∧ Hid (∀ j, j < i → (rowS k S (l.take (j + 1))).length ≤ most) ∧ Hid (Below w.heap.size w wr)) (fun _ iv _ => ln - (intOf iv).toNat)
  case atStart => exact ⟨0, Nat.zero_le _, rfl, Hr0, Lib.hid (fun j hj => by omega), Hb0⟩
  case round =>
    clear Hr0 Hb0
    obtain ⟨i, hi, rfl, HR, HO, HB⟩ := hrel
    obtain ⟨ra, rc, rfl, _, _⟩ := HR.out.val
    by_cases hlt : i < ln
    · have hil : i < l.length := by have := Hln.out; omega
      obtain ⟨b6, o6, hao, hb6, f0, f1⟩ := SR.get (show SR wr BL (.slice la l.length lc) l by have := Rl.out wr HB.out; rw [Hln.out] at this; exact this) i hil
      subst hao
      have hsn := Hs.out l[i] (List.getElem_mem hil)
      have Hsu := Lib.hid (rowS_succ k S l i hil)
      generalize l[i] = s at *
      have hok := symS_ok Hk.out.1 HSo.out s
      obtain ⟨t, n⟩ := s
      simp only at f0 f1 hsn
      have hb1 := (Below.refl wr.heap.size wr).alloc (Nat.le_refl _) (.cells #[.int .u8 (n % 256)] 5)
      have hs1 : (wr.alloc (.cells #[.int .u8 (n % 256)] 5)).heap.size = wr.heap.size + 1 := by simp
      have hrb : Row (wr.alloc (.cells #[.int .u8 (n % 256)] 5)) (wr.heap.size + 1) 1 (.slice (some ⟨wr.heap.size, 0, none⟩) 1 1) 1 (bys [toB n]) := by
        have e : bys [toB n] = [.int .u8 (n % 256)] := by simp [bys, toB_nat]
        rw [e]
        exact row_cellsB wr [.int .u8 (n % 256)] 1 1 1 5 rfl (Nat.le_refl _) (by unfold maxLen; omega)
      have hcv := run_bytes_row (P := Try.prog) (src := 66) (dst := 9) (l := [toB n]) Try.underlying66 Try.underlying5 Try.underlying9 (by simpa using hrb)
      have hb2 := (Below.refl _ (wr.alloc (.cells #[.int .u8 (n % 256)] 5))).alloc (Nat.le_refl _) (.cells #[.string ⟨[toB n].toArray⟩] 9)
      have hr2 : Row ((wr.alloc (.cells #[.int .u8 (n % 256)] 5)).alloc (.cells #[.string ⟨[toB n].toArray⟩] 9)) (wr.heap.size + 1 + 1) 1 (.slice (some ⟨wr.heap.size + 1, 0, none⟩) 1 1) 1 (svt [[toB n]]) := by
        have := row_cellsB (wr.alloc (.cells #[.int .u8 (n % 256)] 5)) (svt [[toB n]]) 1 1 1 9 rfl (Nat.le_refl _) (by unfold maxLen; omega)
        rw [hs1] at this; exact this
      have hb12 := hb1.trans (hb2.mono hb1.size)
      have HBs := Lib.hid (HB.out.trans (hb12.mono HB.out.size))
      have HRs := Lib.hid ((HR.out.below hb12).mono hb12.size)
      have hfc0 := (hb12.cell (p := ⟨b6, o6 + i * 2, none⟩) (by have := HB.out.size; have := HBL.out; show b6 < _; omega)).trans f0
      have hfc1 := (hb12.cell (p := ⟨b6, o6 + i * 2 + 1, none⟩) (by have := HB.out.size; have := HBL.out; show b6 < _; omega)).trans f1
      have hi1 : (i : Int) < (ln : Int) := by omega
      have hi2 : (0 : Int) ≤ (i : Int) := by omega
      have hrl : Le k (rowS k S (l.take i)) := rowS_le (by have := Hk.out; omega) S _
      have hrn : (rowS k S (l.take i)).length ≤ 650 := by
        rcases Nat.eq_zero_or_pos i with rfl | hp
        · show (rowS k S []).length ≤ 650
          show ([[]] : List Tx).length ≤ 650
          simp
        · have := HO.out (i - 1) (by omega)
          rw [show i - 1 + 1 = i by omega] at this
          have := Hm.out; omega
      have Hcat := Lib.hid (fun W vb (hr : Row W W.heap.size 1 (.slice ra (rowS k S (l.take i)).length rc) (rowS k S (l.take i)).length (svt (rowS k S (l.take i)))) (hr2 : Row W W.heap.size 1 vb (symS S ⟨t, n⟩).length (svt (symS S ⟨t, n⟩))) => refCat13_any _ vb _ _ k W hr hr2 hrn hok.2.2 (fun x hx => by have := hrl x hx; have := Hk.out; omega) (fun x hx => by have := hok.2.1 x hx; have := Hk.out; omega) (by have := Hk.out; omega))
      rw [← Hsu.out] at Hcat
      have Hlt := Lib.hid hlt
      have Hov : Hid (most < (rowS k S (l.take (i + 1))).length → OverR k most S l) := Lib.hid fun h => ⟨i, hil, h⟩
      obtain ⟨rn, hrn2⟩ : ∃ rn, rn = (rowS k S (l.take i)).length := ⟨_, rfl⟩
      rw [← hrn2] at HRs Hcat HR ⊢
      obtain ⟨r2, hr2e⟩ : ∃ r2, r2 = rowS k S (l.take (i + 1)) := ⟨_, rfl⟩
      rw [← hr2e] at Hcat Hov
      have Hr2 := Lib.hid hr2e
      have Hrx : Hid (t = true → ∃ vx, vx = Value.slice (some ⟨wr.heap.size + 1, 0, none⟩) 1 1 ∧ Row ((wr.alloc (.cells #[.int .u8 (n % 256)] 5)).alloc (.cells #[.string ⟨[toB n].toArray⟩] 9)) ((wr.alloc (.cells #[.int .u8 (n % 256)] 5)).alloc (.cells #[.string ⟨[toB n].toArray⟩] 9)).heap.size 1 (.slice (some ⟨wr.heap.size + 1, 0, none⟩) 1 1) (symS S ⟨t, n⟩).length (svt (symS S ⟨t, n⟩))) := Lib.hid fun ht => by
        subst ht
        have h1 := hsn.1 rfl
        have e : symS S ⟨true, n⟩ = [[toB n]] := by unfold symS; simp only [if_true]; rw [toB_tok n h1.1 h1.2]
        rw [e]
        exact ⟨_, rfl, hr2.mono (by simp)⟩
      have Hsn := Lib.hid hsn.2
      clear hil hb6 hb1 hs1 hrb hb2 hr2 hb12 hsn hok hlt hi hrl hrn hrn2 hr2e HR Hsu
      go_upto_region 6 with fail
      clear hcv f0 f1
      have Hsz : Hid (((wr.alloc (.cells #[.int .u8 (n % 256)] 5)).alloc (.cells #[.string ⟨[toB n].toArray⟩] 9)).heap.size = wr.heap.size + 2) := Lib.hid (by simp)
      generalize (wr.alloc (.cells #[.int .u8 (n % 256)] 5)).alloc (.cells #[.string ⟨[toB n].toArray⟩] 9) = ws at *
      have Hfin : Hid (∀ w4 v4, w4.ownsRow ws.heap.size 9 1 v4 r2.length (svt r2) → Below ws.heap.size ws w4 → ∃ a4 c4, v4 = .slice a4 r2.length c4 ∧ Row w4 w4.heap.size 1 (.slice a4 r2.length c4) r2.length (svt r2) ∧ Below w.heap.size w w4) := Lib.hid fun w4 v4 ho hb => by
        obtain ⟨a4, c4, rfl, _, _⟩ := owns_valPK ho
        exact ⟨a4, c4, rfl, Row.of_owns ho, HBs.out.trans (hb.mono HBs.out.size)⟩
      have Hend : Hid (∀ j, j < i + 1 → r2.length ≤ most → (rowS k S (l.take (j + 1))).length ≤ most) := Lib.hid fun j hj hle => by
        rcases Nat.lt_or_ge j i with h1 | h1
        · exact HO.out j h1
        · obtain rfl : j = i := by omega
          rw [← Hr2.out]; exact hle
      cases t with
      | true =>
        obtain ⟨vx, _, hrx⟩ := Hrx.out rfl
        have Hq := Lib.hid (Hcat.out ws _ HRs.out hrx)
        clear hrx Hrx Hcat
        go_wp2_with fail
        refine (Hq.out).mono ?_
        rintro e w4 ⟨v4, rfl, ho4, hb4⟩
        obtain ⟨a4, c4, rfl, hr4, hb04⟩ := Hfin.out w4 v4 ho4 hb4
        have Hr4 := Lib.hid hr4; have HB4 := Lib.hid hb04
        obtain ⟨r2n, hr2n⟩ : ∃ r2n, r2n = r2.length := ⟨_, rfl⟩
        rw [← hr2n] at Hr4 Hov Hend ⊢
        have Hr2n := Lib.hid hr2n
        clear ho4 hb4 hr4 hb04 Hq Hfin hr2n hfc0 hfc1
        by_cases hov : most < r2n
        · have q1 : decide (most < r2n) = true := decide_eq_true hov
          have q2 : decide ((most : Int) < (r2n : Int)) = true := decide_eq_true (by omega)
          have HE : Hid (RowOfP w k most S l (.returned (.tuple #[.slice none 0 0, .bool false])) w4) := Lib.hid ⟨.inr ⟨Hov.out hov, rfl⟩, HB4.out⟩
          clear hov
          go_wp2_with fail
          go_ret2
          exact HE.out
        · have q1 : decide (most < r2n) = false := decide_eq_false hov
          have q2 : decide ((most : Int) < (r2n : Int)) = false := decide_eq_false (by omega)
          have Hle := Lib.hid (Nat.not_lt.1 hov)
          clear hov
          go_wp2_with fail
          go_roundw
          case rel => exact ⟨i + 1, Hlt.out, by go_num, Lib.hid (by rw [← Hr2.out, ← Hr2n.out]; exact Hr4.out), Lib.hid (fun j hj => Hend.out j hj Hle.out), HB4⟩
          case measure => have := Hlt.out; simp [intOf]; omega
      | false =>
        obtain ⟨n0, n1⟩ := Hsn.out rfl
        obtain ⟨q, rfl⟩ : ∃ q : Nat, n = (q : Int) := ⟨n.toNat, by omega⟩
        have hSs := HS.out.below HBs.out
        have hq : q < S.length := by rw [hSs.len]; omega
        obtain ⟨v, hv, hr⟩ := hSs.at_ q hq
        have e : symS S ⟨false, (q : Int)⟩ = S[q] := by unfold symS; simp only [Bool.false_eq_true, if_false]; exact stAt_nat S q hq
        rw [e] at Hcat
        have hq1 : (q : Int) < (N : Int) := by omega
        have hq2 : (0 : Int) ≤ (q : Int) := by omega
        have Hq := Lib.hid (Hcat.out ws v HRs.out hr)
        obtain ⟨xa, xc, rfl, _, _⟩ := hr.val
        generalize S[q] = y at *
        generalize y.length = yn at *
        clear hr hSs hq e Hrx Hcat n0 n1
        go_wp2_with fail
        refine (Hq.out).mono ?_
        rintro e w4 ⟨v4, rfl, ho4, hb4⟩
        obtain ⟨a4, c4, rfl, hr4, hb04⟩ := Hfin.out w4 v4 ho4 hb4
        have Hr4 := Lib.hid hr4; have HB4 := Lib.hid hb04
        obtain ⟨r2n, hr2n⟩ : ∃ r2n, r2n = r2.length := ⟨_, rfl⟩
        rw [← hr2n] at Hr4 Hov Hend ⊢
        have Hr2n := Lib.hid hr2n
        clear ho4 hb4 hr4 hb04 Hq Hfin hr2n hfc0 hfc1 hv
        by_cases hov : most < r2n
        · have q1 : decide (most < r2n) = true := decide_eq_true hov
          have q2 : decide ((most : Int) < (r2n : Int)) = true := decide_eq_true (by omega)
          have HE : Hid (RowOfP w k most S l (.returned (.tuple #[.slice none 0 0, .bool false])) w4) := Lib.hid ⟨.inr ⟨Hov.out hov, rfl⟩, HB4.out⟩
          clear hov
          go_wp2_with fail
          go_ret2
          exact HE.out
        · have q1 : decide (most < r2n) = false := decide_eq_false hov
          have q2 : decide ((most : Int) < (r2n : Int)) = false := decide_eq_false (by omega)
          have Hle := Lib.hid (Nat.not_lt.1 hov)
          clear hov
          go_wp2_with fail
          go_roundw
          case rel => exact ⟨i + 1, Hlt.out, by go_num, Lib.hid (by rw [← Hr2.out, ← Hr2n.out]; exact Hr4.out), Lib.hid (fun j hj => Hend.out j hj Hle.out), HB4⟩
          case measure => have := Hlt.out; simp [intOf]; omega
    · obtain rfl : i = ln := by omega
      have Hno : Hid (¬ OverR k most S l) := Lib.hid fun ⟨j, hj, h1⟩ => by
        have := HO.out j (by have := Hln.out; omega); omega
      have hR := HR.out
      rw [Hln.out, List.take_length] at hR
      have hi0 : decide (i < i) = false := by simp
      obtain ⟨rn, hrn2⟩ : ∃ rn, rn = (rowS k S (l.take i)).length := ⟨_, rfl⟩
      have hrn3 : rn = (rowS k S l).length := by rw [hrn2, Hln.out, List.take_length]
      rw [← hrn2]
      have HE : Hid (RowOfP w k most S l (.returned (.tuple #[.slice ra rn rc, .bool true])) wr) := Lib.hid ⟨.inl ⟨Hno.out, _, rfl, by rw [hrn3]; exact hR⟩, HB.out⟩
      clear hR hrn2 hrn3 hlt hi
      go_wp2_with fail
      go_ret2
      exact HE.out
end Go.Proofs.Ytimgnbacgdmiiaa
