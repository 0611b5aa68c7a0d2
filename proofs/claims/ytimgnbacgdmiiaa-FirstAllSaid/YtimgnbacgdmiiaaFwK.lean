/-
  The document's row of words.
  The document's Words.
  first.Words.
  FirstWords: both functions find the same words.
-/
import Derived.Test.YtimgnbacgdmiiaaFwH
import Derived.Test.YtimgnbacgdmiiaaFirM
import Derived.Deep.CutRange
import Derived.Test.YtimgnbacgdmiiaaFirS
namespace Go.Proofs.Ytimgnbacgdmiiaa
open Go.RowKit PK
set_option linter.unusedVariables false
set_option linter.unusedSimpArgs false
attribute [local go_sem ↓] append_appM

/-- What stands behind one word. -/
def inW (x : Tx) (y : List Tx) (k : Int) : List Tx := (y.filter fun z => decide (((x ++ z).length : Int) ≤ k)).map (x ++ ·)
theorem inW_yes (x : Tx) (y : List Tx) (k : Int) (n : Nat) (h : n < y.length) (hk : ((x ++ y[n]).length : Int) ≤ k) : inW x (y.take (n + 1)) k = inW x (y.take n) k ++ [x ++ y[n]] := by
  unfold inW
  rw [List.take_succ_eq_append_getElem h, List.filter_append, List.map_append]
  congr 1
  rw [List.filter_cons, if_pos (decide_eq_true hk)]; rfl
theorem inW_no (x : Tx) (y : List Tx) (k : Int) (n : Nat) (h : n < y.length) (hk : ¬ ((x ++ y[n]).length : Int) ≤ k) : inW x (y.take (n + 1)) k = inW x (y.take n) k := by
  unfold inW
  rw [List.take_succ_eq_append_getElem h, List.filter_append, List.map_append]
  rw [List.filter_cons, if_neg (by simpa using hk), List.filter_nil, List.map_nil, List.append_nil]
theorem inW_len (x : Tx) (y : List Tx) (k : Int) : (inW x y k).length ≤ y.length := by unfold inW; rw [List.length_map]; exact List.length_filter_le _ _
theorem catWF_take (a b : List Tx) (k : Int) (m : Nat) (h : m < a.length) : catWF (a.take (m + 1)) b k = catWF (a.take m) b k ++ inW a[m] b k := by
  unfold catWF inW
  rw [List.take_succ_eq_append_getElem h, List.flatMap_append, List.flatMap_cons, List.flatMap_nil, List.append_nil]
theorem catWF_len (a b : List Tx) (k : Int) : (catWF a b k).length ≤ a.length * b.length := by
  induction a with
  | nil => simp [catWF]
  | cons x a ih =>
    have h1 : catWF (x :: a) b k = inW x b k ++ catWF a b k := by unfold catWF inW; rw [List.flatMap_cons]
    rw [h1, List.length_append, List.length_cons, Nat.succ_mul]
    have := inW_len x b k
    omega
theorem put_snocW (L : List Tx) (z : Tx) : putL (toSet L) z = toSet (L ++ [z]) := by
  refine set_ext (toSet_set _) (toSet_set _) fun u => ?_
  unfold putL
  simp only [toSet_mem, List.mem_append, List.mem_singleton]
set_option maxHeartbeats 4000000 in
set_option maxRecDepth 100000 in
theorem bounded_any (l : List Sy) (lv : Value) (k : Int) (g N c : Nat) (S : Sts) (BL : Nat) (w : World) (rl : SR w BL lv l) (hBL : BL ≤ w.heap.size) (h : SetsR w g N c S) (hk : 0 ≤ k ∧ k ≤ 4) (hS : SOkW k S) (hs : ∀ s ∈ l, (s.tok = true → 0 ≤ s.n ∧ s.n ≤ 255) ∧ (s.tok = false → 0 ≤ s.n ∧ s.n < N)) (hN : N ≤ 1000) :
    Calls Try.prog 42 #[lv, .int .i64 k, .slice (some ⟨g, 0, none⟩) N c] w (RowOfPW w k 10000 S l) := by
  obtain ⟨la, lc, rfl, hl1, hl2⟩ := Row.val rl
  unfold maxLen at hl2
  have hr0 : Row (w.alloc (.cells #[.string ⟨#[]⟩] 9)) (w.alloc (.cells #[.string ⟨#[]⟩] 9)).heap.size 1 (.slice (some ⟨w.heap.size, 0, none⟩) 1 1) 1 (svt [[]]) := (row_cellsB w (svt [[]]) 1 1 1 9 rfl (Nat.le_refl _) (by unfold maxLen; omega)).mono (by simp)
  have hb0 := (Below.refl w.heap.size w).alloc (Nat.le_refl _) (.cells #[.string ⟨#[]⟩] 9)
  obtain ⟨ln, hln⟩ : ∃ ln, ln = l.length := ⟨_, rfl⟩
  have Rl := Lib.hid (fun W (hW : Below w.heap.size w W) => (show SR W BL (.slice la l.length lc) l from Row.below rl (hW.mono hBL)))
  rw [← hln] at Rl hl1 ⊢
  have HS := Lib.hid h; have Hk := Lib.hid hk; have HSo := Lib.hid hS; have Hs := Lib.hid hs; have Hr0 := Lib.hid hr0; have Hb0 := Lib.hid hb0; have Hln := Lib.hid hln; have HN := Lib.hid hN; have HBL := Lib.hid hBL
  have hl63 : (ln : Int) ≤ 9223372036854775807 := by omega
  clear rl hBL h hk hS hs hr0 hb0 hln hl1 hl2 hN
  go_enter Try.func42, Try.ntmps42
  go_wp2_with fail
  go_loopw [8, 9] (fun rv iv wr => ∃ (i rn : Nat) (ra : Option Addr) (rc : Nat), i ≤ ln ∧ iv = .int .i64 (i : Nat) ∧ rv = .slice ra rn rc ∧ Hid (rn = (rowSW k S (l.take i)).length) ∧ Hid (Row wr wr.heap.size 1 (.slice ra rn rc) rn (svt (rowSW k S (l.take i)))) ∧ Hid (∀ j, j < i → (rowSW k S (l.take (j + 1))).length ≤ 10000) ∧ Hid (Below w.heap.size w wr)) (fun _ iv _ => ln - (intOf iv).toNat)
  case atStart => exact ⟨0, 1, _, 1, Nat.zero_le _, rfl, rfl, Lib.hid rfl, Hr0, Lib.hid (fun j hj => by omega), Hb0⟩
  case round =>
    clear Hr0 Hb0
    obtain ⟨i, rn, ra, rc, hi, rfl, rfl, Hrn, HR, HO, HB⟩ := hrel
    by_cases hlt : i < ln
    · have hil : i < l.length := by have := Hln.out; omega
      obtain ⟨b6, o6, hao, hb6, f0, f1⟩ := SR.get (show SR wr BL (.slice la l.length lc) l by have := Rl.out wr HB.out; rw [Hln.out] at this; exact this) i hil
      subst hao
      have hsn := Hs.out l[i] (List.getElem_mem hil)
      have Hsu := Lib.hid (rowS_succW k S l i hil)
      generalize l[i] = s at *
      have hok := symS_okW Hk.out.2 HSo.out s
      obtain ⟨t, n⟩ := s
      simp only at f0 f1 hsn
      have hb1 := (Below.refl wr.heap.size wr).alloc (Nat.le_refl _) (.cells #[.int .u8 (n % 256)] 5)
      have hs1 : (wr.alloc (.cells #[.int .u8 (n % 256)] 5)).heap.size = wr.heap.size + 1 := by simp
      have hrb : Row (wr.alloc (.cells #[.int .u8 (n % 256)] 5)) (wr.heap.size + 1) 1 (.slice (some ⟨wr.heap.size, 0, none⟩) 1 1) 1 (bys [toB n]) := by
        have e : bys [toB n] = [.int .u8 (n % 256)] := by simp [bys, toB_nat]
        rw [e]
        exact row_cellsB wr [.int .u8 (n % 256)] 1 1 1 5 rfl (Nat.le_refl _) (by unfold maxLen; omega)
      have hcv := run_bytes_row (P := Try.prog) (src := 66) (dst := 9) (l := [toB n]) Try.underlying66 Try.underlying5 Try.underlying9 (by simpa using hrb)
      have hb2 := (Below.refl _ (wr.alloc (.cells #[.int .u8 (n % 256)] 5))).alloc (Nat.le_refl _) (.cells #[.string ⟨[toB n].toArray⟩] 9)
      have hr2 : Row ((wr.alloc (.cells #[.int .u8 (n % 256)] 5)).alloc (.cells #[.string ⟨[toB n].toArray⟩] 9)) (wr.heap.size + 1 + 1) 1 (.slice (some ⟨wr.heap.size + 1, 0, none⟩) 1 1) 1 (svt [[toB n]]) := by
        have := row_cellsB (wr.alloc (.cells #[.int .u8 (n % 256)] 5)) (svt [[toB n]]) 1 1 1 9 rfl (Nat.le_refl _) (by unfold maxLen; omega)
        rw [hs1] at this; exact this
      have hb12 := hb1.trans (hb2.mono hb1.size)
      have HBs := Lib.hid (HB.out.trans (hb12.mono HB.out.size))
      have HRs := Lib.hid ((HR.out.below hb12).mono hb12.size)
      have hfc0 := (hb12.cell (p := ⟨b6, o6 + i * 2, none⟩) (by have := HB.out.size; have := HBL.out; show b6 < _; omega)).trans f0
      have hfc1 := (hb12.cell (p := ⟨b6, o6 + i * 2 + 1, none⟩) (by have := HB.out.size; have := HBL.out; show b6 < _; omega)).trans f1
      have hi1 : (i : Int) < (ln : Int) := by omega
      have hi2 : (0 : Int) ≤ (i : Int) := by omega
      have Hrl : Hid (Le 4 (rowSW k S (l.take i))) := Lib.hid fun x hx => by have := rowS_leW Hk.out.1 S _ x hx; have := Hk.out; omega
      have hrn4 : rn ≤ 10000 := by
        rw [Hrn.out]
        rcases Nat.eq_zero_or_pos i with rfl | hp
        · show ([[]] : List Tx).length ≤ 10000
          simp
        · have := HO.out (i - 1) (by omega)
          rw [show i - 1 + 1 = i by omega] at this
          exact this
      have Hlt := Lib.hid hlt
      have Hov : Hid (10000 < (rowSW k S (l.take (i + 1))).length → OverRW k 10000 S l) := Lib.hid fun h => ⟨i, hil, h⟩
      obtain ⟨yn, hyn⟩ : ∃ yn, yn = (symS S ⟨t, n⟩).length := ⟨_, rfl⟩
      have hyn4 : yn ≤ 10000 := by rw [hyn]; exact hok.2.2
      have Hyl := Lib.hid hok.2.1
      have Hrx : Hid (t = true → yn = 1 ∧ Row ((wr.alloc (.cells #[.int .u8 (n % 256)] 5)).alloc (.cells #[.string ⟨[toB n].toArray⟩] 9)) ((wr.alloc (.cells #[.int .u8 (n % 256)] 5)).alloc (.cells #[.string ⟨[toB n].toArray⟩] 9)).heap.size 1 (.slice (some ⟨wr.heap.size + 1, 0, none⟩) 1 1) 1 (svt (symS S ⟨t, n⟩))) := Lib.hid fun ht => by
        subst ht
        have h1 := hsn.1 rfl
        have e : symS S ⟨true, n⟩ = [[toB n]] := by unfold symS; simp only [if_true]; rw [toB_tok n h1.1 h1.2]
        rw [hyn, e]
        exact ⟨rfl, hr2.mono (by simp)⟩
      have Hry : Hid (t = false → ∃ q : Nat, n = (q : Int) ∧ q < N ∧ ∃ xa xc, ((wr.alloc (.cells #[.int .u8 (n % 256)] 5)).alloc (.cells #[.string ⟨[toB n].toArray⟩] 9)).cell? ⟨g, q, none⟩ = some (.slice xa yn xc) ∧ Row ((wr.alloc (.cells #[.int .u8 (n % 256)] 5)).alloc (.cells #[.string ⟨[toB n].toArray⟩] 9)) ((wr.alloc (.cells #[.int .u8 (n % 256)] 5)).alloc (.cells #[.string ⟨[toB n].toArray⟩] 9)).heap.size 1 (.slice xa yn xc) yn (svt (symS S ⟨t, n⟩))) := Lib.hid fun ht => by
        subst ht
        obtain ⟨n0, n1⟩ := hsn.2 rfl
        have hSs := HS.out.below HBs.out
        have hq : n.toNat < S.length := by rw [hSs.len]; omega
        obtain ⟨v, hv, hr⟩ := hSs.at_ n.toNat hq
        have e : symS S ⟨false, n⟩ = S[n.toNat] := by
          have := stAt_nat S n.toNat hq
          rw [Int.toNat_of_nonneg n0] at this
          unfold symS; simp only [Bool.false_eq_true, if_false]; exact this
        rw [← e, ← hyn] at hr
        obtain ⟨xa, xc, rfl, _, _⟩ := hr.val
        exact ⟨n.toNat, by omega, by omega, xa, xc, hv, hr⟩
      obtain ⟨Y, hY⟩ : ∃ Y, Y = symS S ⟨t, n⟩ := ⟨_, rfl⟩
      rw [← hY] at Hsu Hyl hyn Hrx Hry
      have Hyn := Lib.hid hyn
      clear hil hb6 hb1 hs1 hrb hb2 hr2 hb12 hsn hok hlt hi HR hY hyn
      go_upto_if 35 with fail
      clear hcv f0 f1
      have Hsz : Hid (((wr.alloc (.cells #[.int .u8 (n % 256)] 5)).alloc (.cells #[.string ⟨[toB n].toArray⟩] 9)).heap.size = wr.heap.size + 2) := Lib.hid (by simp)
      generalize (wr.alloc (.cells #[.int .u8 (n % 256)] 5)).alloc (.cells #[.string ⟨[toB n].toArray⟩] 9) = ws at *
      go_cut [10] from 15 to 84 (fun xv wx => wx = ws ∧ ∃ xa xc, xv = .slice xa yn xc ∧ Hid (Row ws ws.heap.size 1 (.slice xa yn xc) yn (svt Y)))
      case first =>
        cases t with
        | true =>
          obtain ⟨h1, h2⟩ := Hrx.out rfl
          subst h1
          have H2 := Lib.hid h2
          clear h2 Hrx Hry
          go_wp2_with fail
          go_meet
          case rel => exact ⟨rfl, _, _, rfl, H2⟩
        | false =>
          obtain ⟨q, rfl, hq, xa, xc, hv, hr⟩ := Hry.out rfl
          have H2 := Lib.hid hr
          have hq1 : (q : Int) < (N : Int) := by omega
          have hq2 : (0 : Int) ≤ (q : Int) := by omega
          clear hr Hrx Hry hq
          go_wp2_with fail
          go_meet
          case rel => exact ⟨rfl, _, _, rfl, H2⟩
      case rest =>
        obtain ⟨rfl, xa, xc, rfl, Hx⟩ := hcut
        clear Hrx Hry hfc0 hfc1
        have hown0 := World.ownsRow_made (base := wc.heap.size) (e := 9) (size := 1) wc #[] 0 (Nat.le_refl _) (Nat.zero_le _) rfl
        have e0 : toSet (catWF (List.take 0 (rowSW k S (l.take i))) Y k) = [] := by rw [List.take_zero]; exact toSet_nil
        have HE0 := Lib.hid e0
        have Hown0 := Lib.hid hown0
        have HB0 := Lib.hid ((Below.refl wc.heap.size wc).alloc (Nat.le_refl _) (.cells #[] 9))
        clear hown0 e0
        obtain ⟨R, hR⟩ : ∃ R, R = rowSW k S (l.take i) := ⟨_, rfl⟩
        have hRset : IsSet R := by rw [hR]; exact rowS_setW _ _ _
        rw [← hR] at HRs Hrn Hrl Hsu HE0
        have HRset := Lib.hid hRset
        clear hR hRset
        go_wp2_with fail
        go_loopw [11, 12] (fun nv av wx => ∃ (m nn : Nat) (na : Option Addr) (nc : Nat), m ≤ rn ∧ av = .int .i64 (m : Nat) ∧ nv = .slice na nn nc ∧ Hid (nn = (toSet (catWF (R.take m) Y k)).length) ∧ Hid (wx.ownsRow wc.heap.size 9 1 (.slice na nn nc) nn (svt (toSet (catWF (R.take m) Y k)))) ∧ Hid (Below wc.heap.size wc wx)) (fun _ av _ => rn - (intOf av).toNat)
        case atStart => exact ⟨0, 0, _, 0, Nat.zero_le _, rfl, rfl, Lib.hid (by rw [HE0.out]; rfl), Lib.hid (by rw [HE0.out]; exact Hown0.out), HB0⟩
        case round =>
          clear Hown0 HB0 HE0
          obtain ⟨m, nn, na, nc, hm, rfl, rfl, Hnn, Hown, Hbel⟩ := hrel
          obtain ⟨wo, rfl⟩ : ∃ wo : World, wo = wr := ⟨_, rfl⟩
          by_cases hlt2 : m < rn
          · have hmR : m < R.length := by
              have h1 := HRs.out.1
              rw [svt_length] at h1
              omega
            have Hfl := Lib.hid (catWF_take R Y k m hmR)
            have hlen := catWF_len (R.take m) Y k
            rw [List.length_take, Nat.min_eq_left (by omega), ← Hyn.out] at hlen
            have hmul : m * yn ≤ 100000000 := Nat.le_trans (Nat.mul_le_mul (show m ≤ 10000 by omega) hyn4) (by decide)
            have Hlen : Hid ((catWF (R.take m) Y k).length ≤ 100000000) := Lib.hid (Nat.le_trans hlen hmul)
            have hx4 := Hrl.out R[m] (List.getElem_mem hmR)
            have HmR := Lib.hid hmR
            have hm1 : (m : Int) < (rn : Int) := by omega
            have hm2 : (0 : Int) ≤ (m : Int) := by omega
            have Hlt2 := Lib.hid hlt2
            have Hst : Hid (∀ j, (h : j < Y.length) → inW R[m] (Y.take (j + 1)) k = if ((R[m] ++ Y[j]).length : Int) ≤ k then inW R[m] (Y.take j) k ++ [R[m] ++ Y[j]] else inW R[m] (Y.take j) k) := Lib.hid fun j h => by
              split
              · rename_i h2; exact inW_yes _ _ _ j h h2
              · rename_i h2; exact inW_no _ _ _ j h h2
            have Hcx := Lib.hid (fun (W : World) (hW : Below wc.heap.size wc W) => (HRs.out.below hW))
            have Hat : Hid ((svt R)[m]? = some (.string ⟨R[m].toArray⟩)) := Lib.hid (svt_at R m hmR)
            clear hlen hmul hlt2
            generalize catWF (R.take m) Y k = L at *
            generalize R[m] = x at *
            clear hmR HmR
            go_wp2_with fail
            go_loopw [11, 13] (fun nv jv wy => ∃ (j nn : Nat) (na : Option Addr) (nc : Nat), j ≤ yn ∧ jv = .int .i64 (j : Nat) ∧ nv = .slice na nn nc ∧ Hid (nn = (toSet (L ++ inW x (Y.take j) k)).length) ∧ Hid (wy.ownsRow wc.heap.size 9 1 (.slice na nn nc) nn (svt (toSet (L ++ inW x (Y.take j) k)))) ∧ Hid (Below wc.heap.size wc wy)) (fun _ jv _ => yn - (intOf jv).toNat)
            case atStart =>
              have e : L ++ inW x (Y.take 0) k = L := by simp [inW]
              exact ⟨0, nn, na, nc, Nat.zero_le _, rfl, rfl, by rw [e]; exact Hnn, by rw [e]; exact Hown, Hbel⟩
            case round =>
              clear Hnn Hown Hbel
              obtain ⟨j, nn, na, nc, hj, rfl, rfl, Hnn, Hown, Hbel⟩ := hrel
              by_cases hlt3 : j < yn
              · have hjY : j < Y.length := by rw [← Hyn.out]; exact hlt3
                have a1 := HRs.out.below Hbel.out
                have a2 := Hx.out.below Hbel.out
                obtain ⟨b1, o1, hbo1, hb1, _⟩ := a1.at (by have := a1.1; omega)
                subst hbo1
                obtain ⟨b2, o2, hbo2, hb2, _⟩ := a2.at (by rw [svt_length]; omega)
                subst hbo2
                have c10 := a1.cell m _ Hat.out
                have c20 := a2.cell j _ (svt_at Y j hjY)
                have hy4 := Hyl.out _ (List.getElem_mem hjY)
                have Hsj := Lib.hid (Hst.out j hjY)
                have Hlj := Lib.hid (inW_len x (Y.take j) k)
                have hjt : (Y.take j).length = j := by rw [List.length_take]; omega
                rw [hjt] at Hlj
                generalize Y[j] = y at *
                have hx41 : (x.length : Int) ≤ 4 := by omega
                have hx0 : (0 : Int) ≤ (x.length : Int) := by omega
                have hy41 : (y.length : Int) ≤ 4 := by omega
                have hy0 : (0 : Int) ≤ (y.length : Int) := by omega
                have hj1 : (j : Int) < (yn : Int) := by omega
                have hj2 : (0 : Int) ≤ (j : Int) := by omega
                have hj3 : (j : Int) ≤ 10000 := by omega
                have Hlt3 := Lib.hid hlt3
                have Hput := Lib.hid (fun W (hW : Below wr.heap.size wr W) => refPut_any (.slice na nn nc) (toSet (L ++ inW x (Y.take j) k)) (x ++ y) wc.heap.size W (Nat.le_trans Hbel.out.size hW.size) (by rw [← Hnn.out]; exact owns_belowPK Hown.out hW) (toSet_set _) (by have h1 := toSet_len (L ++ inW x (Y.take j) k); rw [List.length_append] at h1; have := Hlen.out; have := Hlj.out; omega) (⟨x.toArray⟩ ++ ⟨y.toArray⟩) (cat_bytes x y))
                have Hq : Hid (∀ nq, Below wr.heap.size wr (wr.drewN nq)) := Lib.hid fun nq => below_drewsP wr nq
                have HBn := Lib.hid (Hbel.out)
                clear a1 a2 hjY hjt hlt3 hj hx4 hy4
                have hsum : x.length + y.length ≤ 8 := by omega
                have HsL : Hid (((x ++ y).length : Int) = (x.length : Int) + (y.length : Int)) := Lib.hid (by rw [List.length_append]; omega)
                by_cases hfit : (x.length : Int) + (y.length : Int) ≤ k
                · have q1 : decide ((x.length : Int) + (y.length : Int) ≤ k) = true := decide_eq_true hfit
                  have e1 := Hsj.out
                  rw [if_pos (by rw [HsL.out]; exact hfit)] at e1
                  have He1 := Lib.hid e1
                  clear hfit e1 Hsj HsL Hst
                  go_wp2_with fail
                  go_quiet (fail)
                  generalize hwq : wr.drewN _ = wq at *
                  have Hwq : Hid (Below wr.heap.size wr wq) := Lib.hid (by rw [← hwq]; exact below_drewsP wr _)
                  have HpQ := Lib.hid (Hput.out wq.drew (Hwq.out.trans ((Below.refl wq.heap.size wq).drew.mono Hwq.out.size)))
                  have c11 := (Hwq.out.cell (p := ⟨b1, o1 + m, none⟩) (by have := Hbel.out.size; show b1 < _; omega)).trans c10
                  have c21 := (Hwq.out.cell (p := ⟨b2, o2 + j, none⟩) (by have := Hbel.out.size; show b2 < _; omega)).trans c20
                  clear hwq c10 c20 Hput
                  have HW2 : Hid (∀ v3 w3, w3.ownsRow wc.heap.size 9 1 v3 (putL (toSet (L ++ inW x (Y.take j) k)) (x ++ y)).length (svt (putL (toSet (L ++ inW x (Y.take j) k)) (x ++ y))) → Below wc.heap.size wq.drew w3 → ∃ a3 c3 n3, v3 = .slice a3 n3 c3 ∧ Hid (n3 = (toSet (L ++ inW x (Y.take (j + 1)) k)).length) ∧ Hid (w3.ownsRow wc.heap.size 9 1 (.slice a3 n3 c3) n3 (svt (toSet (L ++ inW x (Y.take (j + 1)) k)))) ∧ Hid (Below wc.heap.size wc w3)) := Lib.hid fun v3 w3 ho hb => by
                    rw [put_snocW, List.append_assoc, ← He1.out] at ho
                    obtain ⟨a3, c3, rfl, _, _⟩ := owns_valPK ho
                    have hbq : Below wc.heap.size wc wq.drew := (Hbel.out.trans (Hwq.out.mono Hbel.out.size)).drew
                    exact ⟨a3, c3, _, rfl, Lib.hid rfl, Lib.hid ho, Lib.hid (hbq.trans hb)⟩
                  clear He1 Hlj Hwq Hnn Hown
                  go_wp2_with fail
                  go_region_with (first | (go_at_call 67; refine (HpQ.out).mono ?_; rintro e w3 ⟨v3, rfl, own3, b3⟩; obtain ⟨a3, c3, n3, rfl, H1, H2, H3⟩ := HW2.out _ _ own3 b3; clear own3 b3))
                  all_goals
                    go_wp2_with fail
                    go_roundw
                    case rel => exact ⟨j + 1, n3, a3, c3, Hlt3.out, by go_num, rfl, H1, H2, H3⟩
                    case measure => have := Hlt3.out; simp [intOf]; omega
                · have q1 : decide ((x.length : Int) + (y.length : Int) ≤ k) = false := decide_eq_false hfit
                  have e1 := Hsj.out
                  rw [if_neg (by rw [HsL.out]; exact hfit)] at e1
                  have He1 := Lib.hid e1
                  clear hfit e1 Hsj HsL Hst Hput
                  go_wp2_with fail
                  go_quiet (fail)
                  generalize hwq : wr.drewN _ = wq at *
                  have Hwq : Hid (Below wr.heap.size wr wq) := Lib.hid (by rw [← hwq]; exact below_drewsP wr _)
                  clear hwq c10 c20
                  have H1 : Hid (nn = (toSet (L ++ inW x (Y.take (j + 1)) k)).length) := Lib.hid (by rw [He1.out]; exact Hnn.out)
                  have H2 : Hid (wq.ownsRow wc.heap.size 9 1 (.slice na nn nc) nn (svt (toSet (L ++ inW x (Y.take (j + 1)) k)))) := Lib.hid (by rw [He1.out]; exact owns_belowPK Hown.out Hwq.out)
                  have H3 : Hid (Below wc.heap.size wc wq) := Lib.hid (Hbel.out.trans (Hwq.out.mono Hbel.out.size))
                  clear Hnn Hown He1 Hbel Hwq
                  go_wp2_with fail
                  go_roundw
                  case rel => exact ⟨j + 1, nn, na, nc, Hlt3.out, by go_num, rfl, H1, H2, H3⟩
                  case measure => have := Hlt3.out; simp [intOf]; omega
              · obtain rfl : j = yn := by omega
                rw [Hyn.out, List.take_length, ← Hfl.out] at Hnn Hown
                have hj0 : decide (j < j) = false := by simp
                have hm9 : (m : Int) ≤ 10000 := by omega
                clear hlt3 hj
                go_wp2_with fail
                go_roundw
                case rel => exact ⟨m + 1, nn, na, nc, Hlt2.out, by go_num, rfl, Hnn, Hown, Hbel⟩
                case measure => have := Hlt2.out; simp [intOf]; omega
          · obtain rfl : m = rn := by omega
            have eR : R.take m = R := by
              have h1 := HRs.out.1
              rw [svt_length] at h1
              exact List.take_of_length_le (by omega)
            rw [eR] at Hnn Hown
            have eC : toSet (catWF R Y k) = rowSW k S (l.take (i + 1)) := by rw [Hsu.out]; rfl
            rw [eC] at Hnn Hown
            have hm0 : decide (m < m) = false := by simp
            have Hbe := Lib.hid (HBs.out.trans (Hbel.out.mono HBs.out.size))
            have hi9 : (i : Int) ≤ 9223372036854775806 := by omega
            clear eR eC hlt2 hm Hbel
            by_cases hov : 10000 < nn
            · have q1 : decide (10000 < nn) = true := decide_eq_true hov
              have q2 : decide ((10000 : Int) < (nn : Int)) = true := decide_eq_true (by omega)
              have HE : Hid (RowOfPW w k 10000 S l (.returned (.tuple #[.slice none 0 0, .bool false])) wo) := Lib.hid ⟨.inr ⟨Hov.out (by rw [← Hnn.out]; exact hov), rfl⟩, Hbe.out⟩
              clear hov
              go_wp2_with fail
              go_ret2
              exact HE.out
            · have q1 : decide (10000 < nn) = false := decide_eq_false hov
              have q2 : decide ((10000 : Int) < (nn : Int)) = false := decide_eq_false (by omega)
              have HR2 := Lib.hid (Row.of_owns Hown.out)
              have HO2 : Hid (∀ j, j < i + 1 → (rowSW k S (l.take (j + 1))).length ≤ 10000) := Lib.hid fun j hj => by
                rcases Nat.lt_or_ge j i with h1 | h1
                · exact HO.out j h1
                · obtain rfl : j = i := by omega
                  rw [← Hnn.out]; omega
              clear hov
              go_wp2_with fail
              go_roundw
              case rel => exact ⟨i + 1, nn, na, nc, Hlt.out, by go_num, rfl, Hnn, HR2, HO2, Hbe⟩
              case measure => have := Hlt.out; simp [intOf]; omega
    · obtain rfl : i = ln := by omega
      have Hno : Hid (¬ OverRW k 10000 S l) := Lib.hid fun ⟨j, hj, h1⟩ => by
        have := HO.out j (by have := Hln.out; omega); omega
      have hR := HR.out
      have hrn3 := Hrn.out
      rw [Hln.out, List.take_length] at hR hrn3
      have hi0 : decide (i < i) = false := by simp
      have HE : Hid (RowOfPW w k 10000 S l (.returned (.tuple #[.slice ra rn rc, .bool true])) wr) := Lib.hid ⟨.inl ⟨Hno.out, _, rfl, by rw [← hrn3]; exact hR⟩, HB.out⟩
      clear hR hrn3 hlt hi
      go_wp2_with fail
      go_ret2
      exact HE.out
end Go.Proofs.Ytimgnbacgdmiiaa
namespace Go.Proofs.Ytimgnbacgdmiiaa
open Go.RowKit PK
set_option linter.unusedVariables false
set_option linter.unusedSimpArgs false
attribute [local go_sem ↓] append_appM

/-- Nothing is to be done at a production. -/
def QPW (k : Int) (most : Nat) (S : Sts) (p : Pr) : Prop := ¬ OverRW k most S p.right ∧ ∀ x ∈ rowSW k S p.right, x ∈ stAt S p.left
/-- What the document's Words answers. -/
def RWordsP (w : World) (b : Bn) (k n : Int) (e : Ending) (w' : World) : Prop :=
  ((∃ v S, e = .returned (.tuple #[v, .bool true]) ∧ InvSW b k 10000 S ∧ ClosedW b k S ∧ (∀ p ∈ b.l, ¬ OverRW k 10000 S p.right) ∧ Row w' w'.heap.size 1 v (stAt S n).length (svt (stAt S n))) ∨ (e = .returned (.tuple #[.slice none 0 0, .bool false]) ∧ ∃ S, SoundW b k S ∧ OverW b k 10000 S)) ∧ Below w.heap.size w w'
theorem mu_putW {b : Bn} {k : Int} {most : Nat} {S : Sts} (h : InvSW b k most S) (j : Nat) (hj : j < S.length) (a : List Tx) (h1 : S[j].length < a.length) (h2 : a.length ≤ most) : muG most (some (S.set j a)) < muG most (some S) := by
  show 1 + _ < 1 + _
  rw [List.map_set]
  have := sum_set_lt (S.map fun a => most - a.length) j (most - a.length) (by simpa using hj) (by rw [List.getElem_map]; omega)
  omega
theorem qp_closedW {b : Bn} {k : Int} {most : Nat} {S : Sts} (h : ∀ p ∈ b.l, QPW k most S p) : ClosedW b k S ∧ ∀ p ∈ b.l, ¬ OverRW k most S p.right := ⟨fun p hp => (h p hp).2, fun p hp => (h p hp).1⟩

set_option maxHeartbeats 8000000 in
set_option maxRecDepth 100000 in
theorem refWords_any (b : Bn) (k mo n : Int) (ov lv : Value) (B : Nat) (w : World) (hB : B ≤ w.heap.size) (r : BR w B ov lv b) (h0 : bmay b = 0) (hk : 0 ≤ k ∧ k ≤ 4) (hmo : -9223372036854775808 ≤ mo ∧ mo ≤ 9223372036854775807) (hkm : min (max mo 0) 4 = k) (hn : 0 ≤ n ∧ n < b.of.length) :
    Calls Try.prog 19 #[.agg #[.int .i64 b.toks, .int .i64 b.look, ov, lv], .int .i64 n, .int .i64 mo] w (RWordsP w b k n) := by
  obtain ⟨oa, oc, rfl, ho1, ho2⟩ := r.of.val
  obtain ⟨la, lc, rfl, hl1, hl2⟩ := r.l.val
  obtain ⟨z1, z2, z3, z4, z5, z6, z7, z8, z9, z10⟩ := bmay_zero h0
  have hbox := BoxB.new b.toks b.look 25 hB r
  have hb1 := (Below.refl w.heap.size w).alloc (Nat.le_refl _) (.cells #[.int .i64 b.toks, .int .i64 b.look, .slice oa b.of.length oc, .slice la b.l.length lc] 25)
  have hL : LookOkW b k 10000 b.of.length := ⟨z6, z7, hk, Nat.le_refl _, ⟨rfl, z1, z2⟩, z4⟩
  have hinv := inv_startW b k 10000
  obtain ⟨ol, hol⟩ : ∃ ol, ol = b.of.length := ⟨_, rfl⟩
  obtain ⟨ll, hll⟩ : ∃ ll, ll = b.l.length := ⟨_, rfl⟩
  obtain ⟨tk, htk⟩ : ∃ tk, tk = b.toks := ⟨_, rfl⟩
  obtain ⟨lk, hlk⟩ : ∃ lk, lk = b.look := ⟨_, rfl⟩
  rw [← hol, ← hll, ← htk, ← hlk] at hbox hb1
  rw [← hol] at hL hinv
  rw [← hol, ← hll, ← htk, ← hlk]
  have Hn0 := Lib.hid (show 0 ≤ n ∧ n < (ol : Int) by rw [hol]; exact hn)
  have ho500 : ol ≤ 500 := by omega
  have ho1' : 1 ≤ ol := by omega
  have hl2000 : ll ≤ 2000 := by omega
  have Hbox := Lib.hid hbox; have Hb1 := Lib.hid hb1; have HL := Lib.hid hL; have Hinv := Lib.hid hinv; have Hol := Lib.hid hol; have Hll := Lib.hid hll; have Hok := Lib.hid z6
  clear r hbox hb1 hL hinv hol hll htk hlk hB ho1 ho2 hl1 hl2 z1 z2 z3 z4 z5 z6 z7 z8 z9 z10 h0 hk hn
  go_enter Try.func19, Try.ntmps19
  go_upto_region 1 with fail
  generalize w.alloc (.cells #[.int .i64 tk, .int .i64 lk, .slice oa ol oc, .slice la ll lc] 25) = w1 at *
  have Hc : Hid (∀ W, Below w1.heap.size w1 W → W.cell? ⟨w.heap.size, 2, none⟩ = some (.slice oa ol oc) ∧ W.cell? ⟨w.heap.size, 3, none⟩ = some (.slice la ll lc)) := Lib.hid fun W hW => ⟨(Hbox.out.keep hW).c2, (Hbox.out.keep hW).c3⟩
  have Hown0 : Hid ((w1.alloc (.cells #[] 32)).ownsRow w1.heap.size 32 1 (.slice (some ⟨w1.heap.size, 0, none⟩) 0 0) 0 (List.replicate 0 (.slice none 0 0))) := Lib.hid (World.ownsRow_made (base := w1.heap.size) (e := 32) (size := 1) w1 #[] 0 (Nat.le_refl _) (Nat.zero_le _) rfl)
  go_wp2_with fail
  go_loopw [9, 10] (fun xv nv wr => ∃ m : Nat, m ≤ ol ∧ nv = .int .i64 (m : Nat) ∧ Hid (wr.ownsRow w1.heap.size 32 1 xv m (List.replicate m (.slice none 0 0))) ∧ Hid (Below w1.heap.size w1 wr)) (fun _ nv _ => ol - (intOf nv).toNat)
  case atStart => exact ⟨0, Nat.zero_le _, rfl, Hown0, Lib.hid ((Below.refl _ w1).alloc (Nat.le_refl _) _)⟩
  case round =>
    clear Hown0
    obtain ⟨m, hm, rfl, HO, HB⟩ := hrel
    obtain ⟨xa, xc, rfl, _, _⟩ := owns_valP HO.out
    obtain ⟨c2, c3⟩ := Hc.out _ HB.out
    by_cases hlt : m < ol
    · obtain ⟨a5, d5, w5, happ, ho5, hb5⟩ := own_pushS HB.out.size HO.out (by omega)
      have Ho5 := Lib.hid ho5
      have HB5 := Lib.hid (HB.out.trans hb5)
      have hm1 : (m : Int) < (ol : Int) := by omega
      have hm3 : (m : Int) ≤ 1000 := by omega
      have Hlt := Lib.hid hlt
      clear ho5 hb5 hlt hm
      go_wp2_with fail
      go_roundw
      case rel => exact ⟨m + 1, Hlt.out, by go_num, Ho5, HB5⟩
      case measure => have := Hlt.out; simp [intOf]; omega
    · obtain rfl : m = ol := by omega
      obtain ⟨g, hg, hg1, hg2, _, _⟩ := owns_cellN HO.out (by omega)
      subst hg
      have HD0 : Hid (DSt wr w1.heap.size g m xc (List.replicate m (.slice none 0 0, []))) := Lib.hid ⟨⟨hg1, hg2⟩, by simp, by simpa using HO.out, (fun x hx => by rw [List.eq_of_mem_replicate hx]; exact World.ownsRow_nil _ _ _ _), fun x hx q e => by rw [List.eq_of_mem_replicate hx] at e; cases e⟩
      have e0 : (List.replicate m ((.slice none 0 0, []) : Value × List Tx)).map (·.2) = List.replicate m [] := by simp
      have HI0 : Hid (InvSW b k 10000 ((List.replicate m ((.slice none 0 0, []) : Value × List Tx)).map (·.2))) := Lib.hid (by rw [e0]; exact Hinv.out)
      have hi0 : decide (m < m) = false := by simp
      clear hlt hm HO hg1 hg2 e0
      go_wp2_with fail
      clear c2 c3
      go_loopw [11] (fun mv wr => ∃ (m' : Bool) (X : List (Value × List Tx)), mv = .bool m' ∧ Hid (DSt wr w1.heap.size g m xc X) ∧ Hid (InvSW b k 10000 (X.map (·.2))) ∧ Hid (Below w1.heap.size w1 wr) ∧ Hid (m' = false → ∀ p ∈ b.l, QPW k 10000 (X.map (·.2)) p)) (fun mv wr => match mv with | .bool true => restW 10000 wr g m + 1 | _ => 0)
      case atStart => exact ⟨true, _, rfl, HD0, HI0, HB, Lib.hid (fun h => by cases h)⟩
      case round =>
        clear HD0 HI0 HB
        obtain ⟨m', X0, rfl, HD, HI, HB, HQ⟩ := hrel
        cases m' with
        | false =>
          obtain ⟨hcl, hno⟩ := qp_closedW (HQ.out rfl)
          obtain ⟨q, rfl⟩ : ∃ q : Nat, n = (q : Int) := ⟨n.toNat, by have := Hn0.out; omega⟩
          have hq : q < m := by have := Hn0.out; omega
          have hqX : q < X0.length := by rw [HD.out.len]; exact hq
          obtain ⟨g', hv, _, _, hcl2, _⟩ := owns_cellN HD.out.out (by omega)
          simp only [Option.some.injEq, Addr.mk.injEq, and_true] at hv
          subst hv
          have hcq : wr.cell? ⟨g, q, none⟩ = some X0[q].1 := hcl2 q _ (by rw [List.getElem?_map, List.getElem?_eq_getElem hqX]; rfl)
          have hst : stAt (X0.map (·.2)) (q : Int) = X0[q].2 := by rw [stAt_nat _ q (by rw [List.length_map]; exact hqX), List.getElem_map]
          have hrq := Row.of_owns (HD.out.each _ (List.getElem_mem hqX))
          have HE : Hid (RWordsP w b k (q : Int) (.returned (.tuple #[X0[q].1, .bool true])) wr) := Lib.hid ⟨.inl ⟨_, _, rfl, HI.out, hcl, hno, by rw [hst]; exact hrq⟩, Hb1.out.trans (HB.out.mono Hb1.out.size)⟩
          obtain ⟨xa2, xc2, hxv, _, _⟩ := hrq.val
          rw [hxv] at hcq HE
          have hq1 : (q : Int) < (m : Int) := by omega
          have hq2 : (0 : Int) ≤ (q : Int) := by omega
          generalize X0[q].2.length = xn at *
          clear hcl hno hst hrq hxv hcl2 hqX hq
          go_wp2_with fail
          go_ret2
          exact HE.out
        | true =>
          obtain ⟨wo, rfl⟩ : ∃ wo : World, wo = wr := ⟨_, rfl⟩
          have Hrest := Lib.hid (HD.out.rest (most := 10000) ho1')
          go_wp2_with fail
          go_loopw [11, 12] (fun mv iv wx => ∃ (m' : Bool) (X : List (Value × List Tx)) (i : Nat), i ≤ ll ∧ mv = .bool m' ∧ iv = .int .i64 (i : Nat) ∧ Hid (DSt wx w1.heap.size g m xc X) ∧ Hid (InvSW b k 10000 (X.map (·.2))) ∧ Hid (Below w1.heap.size w1 wx) ∧ Hid (m' = false → X.map (·.2) = X0.map (·.2) ∧ ∀ j (hj : j < b.l.length), j < i → QPW k 10000 (X0.map (·.2)) b.l[j]) ∧ Hid (m' = true → muG 10000 (some (X.map (·.2))) < muG 10000 (some (X0.map (·.2))))) (fun _ iv _ => ll - (intOf iv).toNat)
          case atStart => exact ⟨false, X0, 0, Nat.zero_le _, rfl, rfl, HD, HI, HB, Lib.hid (fun _ => ⟨rfl, fun j _ hj => by omega⟩), Lib.hid (fun h => by cases h)⟩
          case round =>
            obtain ⟨m', X, i, hi, rfl, rfl, HD2, HI2, HB2, HQ2, HC2⟩ := hrel
            obtain ⟨c2, c3⟩ := Hc.out _ HB2.out
            by_cases hlt : i < ll
            · have hlt' : i < b.l.length := by have := Hll.out; omega
              obtain ⟨b1, o1, a1, d1, hao, hbb, e0, e1, rk, m1, m2⟩ := Hbox.out.r.l.get i hlt'
              subst hao
              have hpm := List.getElem_mem hlt'
              obtain ⟨p, hp⟩ : ∃ p, p = b.l[i] := ⟨_, rfl⟩
              rw [← hp] at e0 e1 rk m1 hpm
              have Hp : Hid (∀ h : i < b.l.length, p = b.l[i]'h) := Lib.hid (fun h => hp)
              obtain ⟨x, rt⟩ := p
              simp only at e0 e1 rk m1
              have hpo := Hok.out _ hpm
              obtain ⟨hp1, hp2⟩ := prOk_left hpo
              simp only at hp1 hp2
              have hps : ∀ s ∈ rt, (s.tok = true → 0 ≤ s.n ∧ s.n ≤ 255) ∧ (s.tok = false → 0 ≤ s.n ∧ s.n < m) := fun s hs => ⟨fun ht => by have := prOk_tok hpo hs ht; have := HL.out.tk; omega, fun ht => by have := prOk_sym hpo hs ht; have := Hol.out; omega⟩
              obtain ⟨q, rfl⟩ : ∃ q : Nat, x = (q : Int) := ⟨x.toNat, by omega⟩
              have hq : q < m := by have := Hol.out; omega
              have hb1l : b1 < w1.heap.size := Nat.lt_of_lt_of_le hbb Hbox.out.le
              have Hg := Lib.hid (fun W (hW : Below w1.heap.size w1 W) => And.intro ((hW.cell (p := ⟨b1, o1 + i * 2, none⟩) hb1l).trans e0) ((hW.cell (p := ⟨b1, o1 + i * 2 + 1, none⟩) hb1l).trans e1))
              have hrk := Row.below rk (HB2.out.mono Hbox.out.le)
              have hSO : SOkW k (X.map (·.2)) := fun a ha => ⟨HI2.out.sound.set a ha, HI2.out.le a ha, Nat.le_trans (HI2.out.few a ha) HL.out.m1⟩
              have Hrow := Lib.hid (bounded_any rt (.slice a1 rt.length d1) k g m xc (X.map (·.2)) B wr hrk (Nat.le_trans Hbox.out.le HB2.out.size) (HD2.out.sets ho1') HL.out.k1 hSO hps (by omega))
              obtain ⟨f0, f1⟩ := Hg.out _ HB2.out
              have Hpm := Lib.hid hpm; have Hq := Lib.hid hq
              have hi1 : (i : Int) < (ll : Int) := by omega
              have hi2 : (0 : Int) ≤ (i : Int) := by omega
              have hi3 : (i : Int) ≤ 10000 := by omega
              have Hlt := Lib.hid hlt
              obtain ⟨rn, hrn⟩ : ∃ rn, rn = rt.length := ⟨_, rfl⟩
              rw [← hrn] at Hrow Hg f1
              clear e0 e1 rk m1 m2 hpo hps hb1l hrk hSO hpm hp hlt hlt' hi hrn hp1 hp2 hq
              go_wp2_with fail
              refine (Hrow.out).mono ?_
              rintro e W2 ⟨hor, hb2⟩
              have HB3 := Lib.hid (HB2.out.trans (hb2.mono HB2.out.size))
              have HD3 := Lib.hid (HD2.out.below hb2)
              obtain ⟨g0, g1⟩ := Hg.out _ HB3.out
              obtain ⟨c22, c32⟩ := Hc.out _ HB3.out
              clear hb2 Hrow f0 f1 c2 c3
              rcases hor with ⟨hno, v2, rfl, hr2⟩ | ⟨hov, rfl⟩
              rotate_left
              · have HE : Hid (RWordsP w b k n (.returned (.tuple #[.slice none 0 0, .bool false])) W2) := Lib.hid ⟨.inr ⟨rfl, _, HI2.out.sound, _, Hpm.out, .inl hov⟩, Hb1.out.trans (HB3.out.mono Hb1.out.size)⟩
                clear hov
                go_wp2_with fail
                go_ret2
                exact HE.out
              · obtain ⟨a2, d2, rfl, _, _⟩ := hr2.val
                have hrn2 : (rowSW k (X.map (·.2)) rt).length ≤ 10000 := by
                  rcases List.eq_nil_or_concat rt with rfl | ⟨r', s', rfl⟩
                  · show ([[]] : List Tx).length ≤ 10000; simp
                  · have h1 : ¬ 10000 < (rowSW k (X.map (·.2)) ((r'.concat s').take (r'.length + 1))).length := fun h => hno ⟨r'.length, by simp, h⟩
                    rw [List.take_of_length_le (by simp)] at h1
                    have := HL.out.m1; omega
                have hqX : q < X.length := by rw [HD3.out.len]; exact Hq.out
                obtain ⟨g', hv, _, _, hcl, hfr⟩ := owns_cellN HD3.out.out (by omega)
                simp only [Option.some.injEq, Addr.mk.injEq, and_true] at hv
                subst hv
                have hcq : W2.cell? ⟨g, q, none⟩ = some X[q].1 := hcl q _ (by rw [List.getElem?_map, List.getElem?_eq_getElem hqX]; rfl)
                have hrq := Row.of_owns (HD3.out.each _ (List.getElem_mem hqX))
                have hqS : q < (X.map (·.2)).length := by rw [List.length_map]; exact hqX
                have hst : stAt (X.map (·.2)) (q : Int) = X[q].2 := by rw [stAt_nat _ q hqS, List.getElem_map]
                obtain ⟨xa2, xc2, hxv, hz1, hz2⟩ := hrq.val
                rw [hxv] at hcq hrq
                have hfew : X[q].2.length ≤ 10000 := by
                  have h1 := HI2.out.few X[q].2 (List.mem_map.2 ⟨_, List.getElem_mem hqX, rfl⟩)
                  have := HL.out.m1; omega
                have Hj := Lib.hid (refJoin_any _ _ _ _ W2.heap.size W2.heap.size W2 (Nat.le_refl _) (Nat.le_refl _) hrq hr2 (Nat.le_trans hfew (by decide)) (Nat.le_trans hrn2 (by decide)))
                have HPut := Lib.hid (fun h => HI2.out.put Hok.out (by have := HL.out.k1; omega) ⟨(q : Int), rt⟩ Hpm.out h)
                have HOv : Hid (10000 < (joinL X[q].2 (rowSW k (X.map (·.2)) rt)).length → OverW b k 10000 (X.map (·.2))) := Lib.hid fun h => ⟨_, Hpm.out, .inr (by rw [hst]; exact h)⟩
                have HQp : Hid ((joinL X[q].2 (rowSW k (X.map (·.2)) rt)).length = X[q].2.length → QPW k 10000 (X.map (·.2)) ⟨(q : Int), rt⟩) := Lib.hid fun h => ⟨hno, fun y hy => by
                  show y ∈ stAt (X.map (·.2)) (q : Int)
                  rw [hst]
                  exact (join_same (by rw [← hst]; exact stAt_isSetW HI2.out _) h).2 y hy⟩
                have Hle : Hid (X[q].2.length ≤ (joinL X[q].2 (rowSW k (X.map (·.2)) rt)).length) := Lib.hid (join_le (by rw [← hst]; exact stAt_isSetW HI2.out _))
                have Hmu := Lib.hid (fun a h1 h2 => mu_putW HI2.out q hqS a (by rw [List.getElem_map]; exact h1) h2)
                simp only [Int.toNat_natCast] at HPut
                rw [hst] at HPut
                obtain ⟨A, hA⟩ : ∃ A, A = joinL X[q].2 (rowSW k (X.map (·.2)) rt) := ⟨_, rfl⟩
                rw [← hA] at Hj HPut HOv HQp Hle
                obtain ⟨an, han⟩ : ∃ an, an = X[q].2.length := ⟨_, rfl⟩
                rw [← han] at Hj HQp Hle Hmu hcq
                generalize (rowSW k (X.map (·.2)) rt).length = r2n at *
                have hq1 : (q : Int) < (m : Int) := by have := Hq.out; omega
                have hq2 : (0 : Int) ≤ (q : Int) := by omega
                clear hr2 hno hrn2 hz1 hz2 hcl hfr hrq hst hxv hfew hA han
                go_wp2_with fail
                refine (Hj.out).mono ?_
                rintro e W3 ⟨v3, rfl, own3, hb3⟩
                obtain ⟨a3, d3, rfl, _, _⟩ := owns_valPK own3
                have HB4 := Lib.hid (HB3.out.trans (hb3.mono HB3.out.size))
                have HD4 := Lib.hid (HD3.out.below hb3)
                have Hown3 := Lib.hid own3
                have hcq3 := (hb3.cell (p := ⟨g, q, none⟩) HD3.out.lt.2).trans hcq
                have hfq3 : W3.frozen? ⟨g, q, none⟩ = false := by
                  obtain ⟨g', hv, _, _, _, hf⟩ := owns_cellN HD4.out.out (by omega)
                  simp only [Option.some.injEq, Addr.mk.injEq, and_true] at hv
                  subst hv; exact hf q
                have hgl : g < W3.heap.size := HD4.out.lt.2
                obtain ⟨gn, hgn⟩ : ∃ gn, gn = A.length := ⟨_, rfl⟩
                rw [← hgn] at Hown3 HOv HPut HQp Hle ⊢
                have Hgn := Lib.hid hgn
                have Hg3 := Lib.hid (HD3.out.lt.2)
                clear own3 hb3 Hj hgn hcq g0 g1 c22 c32 HD2
                by_cases hov : 10000 < gn
                · have q1 : decide (10000 < gn) = true := decide_eq_true hov
                  have q2 : decide ((10000 : Int) < (gn : Int)) = true := decide_eq_true (by omega)
                  have HE : Hid (RWordsP w b k n (.returned (.tuple #[.slice none 0 0, .bool false])) W3) := Lib.hid ⟨.inr ⟨rfl, _, HI2.out.sound, HOv.out hov⟩, Hb1.out.trans (HB4.out.mono Hb1.out.size)⟩
                  clear hov
                  go_wp2_with fail
                  go_ret2
                  exact HE.out
                · have q1 : decide (10000 < gn) = false := decide_eq_false hov
                  have q2 : decide ((10000 : Int) < (gn : Int)) = false := decide_eq_false (by omega)
                  by_cases hgt : an < gn
                  · have q3 : decide (an < gn) = true := decide_eq_true hgt
                    have q4 : decide ((an : Int) < (gn : Int)) = true := decide_eq_true (by omega)
                    have HI5 := HPut.out hov
                    have hput := HD4.out.put q Hq.out (.slice a3 gn d3) A W2.heap.size (by rw [← Hgn.out]; exact Hown3.out) Hg3.out
                    have e5 : (X.map (·.2)).set q A = (X.set q ((.slice a3 gn d3 : Value), A)).map (·.2) := by rw [List.map_set]
                    rw [e5] at HI5
                    have HI6 := Lib.hid HI5
                    have HD6 := Lib.hid hput
                    have HB6 := Lib.hid (HB4.out.setCell (p := ⟨g, q, none⟩) HD4.out.lt.1 (.slice a3 gn d3))
                    have Hm6 : Hid (muG 10000 (some ((X.set q ((.slice a3 gn d3 : Value), A)).map (·.2))) < muG 10000 (some (X0.map (·.2)))) := Lib.hid (by
                      have h1 := Hmu.out A (by rw [← Hgn.out]; exact hgt) (by rw [← Hgn.out]; omega)
                      rw [e5] at h1
                      cases m' with
                      | true => exact Nat.lt_trans h1 (HC2.out rfl)
                      | false => rw [(HQ2.out rfl).1] at h1; exact h1)
                    clear hov hgt HI5 hput e5
                    go_wp2_with fail
                    go_roundw
                    case rel => exact ⟨true, _, i + 1, Hlt.out, rfl, by go_num, HD6, HI6, HB6, Lib.hid (fun h => by cases h), Lib.hid (fun _ => Hm6.out)⟩
                    case measure => have := Hlt.out; simp [intOf]; omega
                  · have q3 : decide (an < gn) = false := decide_eq_false hgt
                    have q4 : decide ((an : Int) < (gn : Int)) = false := decide_eq_false (by omega)
                    have Hqp := Lib.hid (HQp.out (by have := Hle.out; omega))
                    have HQ5 : Hid (m' = false → X.map (·.2) = X0.map (·.2) ∧ ∀ j (hj : j < b.l.length), j < i + 1 → QPW k 10000 (X0.map (·.2)) b.l[j]) := Lib.hid fun hm => ⟨(HQ2.out hm).1, fun j hj hji => by
                      rcases Nat.lt_or_ge j i with h1 | h1
                      · exact (HQ2.out hm).2 j hj h1
                      · obtain rfl : j = i := by omega
                        rw [← Hp.out hj, ← (HQ2.out hm).1]; exact Hqp.out⟩
                    clear hov hgt
                    go_wp2_with fail
                    go_roundw
                    case rel => exact ⟨m', X, i + 1, Hlt.out, rfl, by go_num, HD4, HI2, HB4, HQ5, HC2⟩
                    case measure => have := Hlt.out; simp [intOf]; omega
            · obtain rfl : i = ll := by omega
              have HQ5 : Hid (m' = false → ∀ p ∈ b.l, QPW k 10000 (X.map (·.2)) p) := Lib.hid fun hm p hp => by
                obtain ⟨j, hj, rfl⟩ := List.getElem_of_mem hp
                rw [(HQ2.out hm).1]
                exact (HQ2.out hm).2 j hj (by have := Hll.out; omega)
              have Hrest2 := Lib.hid (HD2.out.rest (most := 10000) ho1')
              have hi0 : decide (i < i) = false := by simp
              clear hlt hi
              go_wp2_with fail
              go_roundw
              case rel => exact ⟨m', X, rfl, HD2, HI2, HB2, HQ5⟩
              case measure =>
                cases m' with
                | false => simp
                | true => have := HC2.out rfl; have := Hrest.out; have := Hrest2.out; simp; omega
end Go.Proofs.Ytimgnbacgdmiiaa
namespace Go.Proofs.Ytimgnbacgdmiiaa
open Go.RowKit PK
set_option linter.unusedVariables false
set_option linter.unusedSimpArgs false
attribute [local go_sem ↓] append_appM

/-- What first.Words answers. -/
def WordsP (w : World) (b : Bn) (k n : Int) (e : Ending) (w' : World) : Prop :=
  ((bmay b ≠ 0 ∧ e = .returned (.tuple #[.slice none 0 0, .int .i64 (bmay b)])) ∨ (bmay b = 0 ∧ ¬ (0 ≤ n ∧ n < b.of.length) ∧ e = .returned (.tuple #[.slice none 0 0, .int .i64 3])) ∨
   (bmay b = 0 ∧ (0 ≤ n ∧ n < b.of.length) ∧ ((∃ v S, e = .returned (.tuple #[v, .int .i64 0]) ∧ InvSW b k 10000 S ∧ ClosedW b k S ∧ (∀ p ∈ b.l, ¬ OverRW k 10000 S p.right) ∧ Row w' w'.heap.size 1 v (stAt S n).length (svt (stAt S n))) ∨ (e = .returned (.tuple #[.slice none 0 0, .int .i64 15]) ∧ ∃ S, SoundW b k S ∧ OverW b k 10000 S)))) ∧ Below w.heap.size w w'
set_option maxHeartbeats 4000000 in
set_option maxRecDepth 100000 in
theorem firstWords_any (b : Bn) (tk lk mo n k : Int) (ov lv : Value) (B : Nat) (w : World) (etk : b.toks = tk) (elk : b.look = lk) (hB : B ≤ w.heap.size) (r : BR w B ov lv b) (hmo : -9223372036854775808 ≤ mo ∧ mo ≤ 9223372036854775807) (hkm : min (max mo 0) 4 = k) :
    Calls Try.prog 17 #[.agg #[.int .i64 tk, .int .i64 lk, ov, lv], .int .i64 n, .int .i64 mo] w (WordsP w b k n) := by
  obtain ⟨oa, oc, rfl, ho1, ho2⟩ := r.of.val
  obtain ⟨la, lc, rfl, hl1, hl2⟩ := r.l.val
  subst etk elk
  have hbox := BoxB.new b.toks b.look 25 hB r
  have hb1 := (Below.refl w.heap.size w).alloc (Nat.le_refl _) (.cells #[.int .i64 b.toks, .int .i64 b.look, .slice oa b.of.length oc, .slice la b.l.length lc] 25)
  have hs1 : (w.alloc (.cells #[.int .i64 b.toks, .int .i64 b.look, .slice oa b.of.length oc, .slice la b.l.length lc] 25)).heap.size = w.heap.size + 1 := by simp
  have hb2 := (Below.refl _ (w.alloc (.cells #[.int .i64 b.toks, .int .i64 b.look, .slice oa b.of.length oc, .slice la b.l.length lc] 25))).alloc (Nat.le_refl _) (.cells #[.int .i64 mo] 3)
  have hp2 : ((w.alloc (.cells #[.int .i64 b.toks, .int .i64 b.look, .slice oa b.of.length oc, .slice la b.l.length lc] 25)).alloc (.cells #[.int .i64 mo] 3)).heap[w.heap.size + 1]? = some (.cells #[.int .i64 mo] 3 (0, 0)) := by
    rw [← hs1]; exact Array.getElem?_push_size
  have hbox2 := hbox.keep hb2
  have hB2 := hb1.trans (hb2.mono hb1.size)
  have hmy := bnfMay_any b (.slice oa b.of.length oc) (.slice la b.l.length lc) B _ hbox2.le hbox2.r
  have hk4 : 0 ≤ k ∧ k ≤ 4 := by omega
  have hgr : bmay b = 0 → ∀ W BW kb, BW ≤ W.heap.size → BR W BW (.slice oa b.of.length oc) (.slice la b.l.length lc) b → W.cell? ⟨kb, 0, none⟩ = some (.int .i64 k) → kb < W.heap.size → Calls Try.prog 35 #[.agg #[.func (.func 40) #[] #[.pointer (some ⟨kb, 0, none⟩)], .int .i64 10000], .agg #[.int .i64 b.toks, .int .i64 b.look, .slice oa b.of.length oc, .slice la b.l.length lc]] W (GrowPW W b k 10000) := fun h0 W BW kb hBW hr hc hkb => grow_anyW b k 10000 kb _ _ BW W hBW hr h0 hk4 (Nat.le_refl _) hc hkb
  have hN5 : bmay b = 0 → 1 ≤ b.of.length ∧ b.of.length ≤ 500 := fun h0 => by have := bmay_zero h0; omega
  have ho2' : b.of.length ≤ 9223372036854775807 := by unfold maxLen at ho2; omega
  obtain ⟨ol, hol⟩ : ∃ ol, ol = b.of.length := ⟨_, rfl⟩
  obtain ⟨ll, hll⟩ : ∃ ll, ll = b.l.length := ⟨_, rfl⟩
  obtain ⟨tk, htk⟩ : ∃ tk, tk = b.toks := ⟨_, rfl⟩
  obtain ⟨lk, hlk⟩ : ∃ lk, lk = b.look := ⟨_, rfl⟩
  rw [← hol, ← hll, ← htk, ← hlk] at hbox2 hB2 hmy hgr hp2
  rw [← hol] at hN5 ho2'
  rw [← hol, ← hll, ← htk, ← hlk]
  have Hbox := Lib.hid hbox2; have Hb1 := Lib.hid hB2; have Hmy := Lib.hid hmy; have Hgr := Lib.hid hgr; have Hol := Lib.hid hol; have Hp2 := Lib.hid hp2; have HN5 := Lib.hid hN5; have Hk4 := Lib.hid hk4; have HhB := Lib.hid hB
  clear r hbox hb1 hs1 hb2 hbox2 hB2 hmy hgr hol hll htk hlk ho1 ho2 hl1 hl2 hB hp2 hN5 hk4
  go_enter Try.func17, Try.ntmps17
  go_upto_region 1 with fail
  generalize (w.alloc (.cells #[.int .i64 tk, .int .i64 lk, .slice oa ol oc, .slice la ll lc] 25)).alloc (.cells #[.int .i64 mo] 3) = w1 at *
  obtain ⟨c0, c1, c2, c3⟩ := Hbox.out.four
  go_wp2_with fail
  refine (Hmy.out).mono ?_
  rintro e w2 ⟨rfl, hb2⟩
  have Hbx2 := Lib.hid (Hbox.out.keep hb2)
  have HB2 := Lib.hid (Hb1.out.trans (hb2.mono Hb1.out.size))
  have hlt1 : w.heap.size + 1 < w1.heap.size := (Array.getElem?_eq_some_iff.1 Hp2.out).1
  have hp3 : w2.heap[w.heap.size + 1]? = some (.cells #[.int .i64 mo] 3 (0, 0)) := (hb2.block _ hlt1).trans Hp2.out
  have Hp3 := Lib.hid hp3
  have Hlt1 := Lib.hid (Nat.lt_of_lt_of_le hlt1 hb2.size)
  clear hb2 c0 c1 c2 c3 Hmy hlt1 hp3 Hp2 Hbox
  by_cases h0 : bmay b = 0
  · have H0 := Lib.hid h0
    have Hgr0 := Lib.hid (Hgr.out h0)
    obtain ⟨hN1, hN5⟩ := HN5.out h0
    rw [h0]
    clear h0 Hgr HN5
    obtain ⟨c0, c1, c2, c3⟩ := Hbx2.out.four
    by_cases hn : 0 ≤ n ∧ n < (ol : Int)
    · obtain ⟨q, rfl⟩ : ∃ q : Nat, n = (q : Int) := ⟨n.toNat, by omega⟩
      have hq : q < ol := by omega
      have hq1 : (q : Int) < (ol : Int) := hn.2
      have hq2 : (0 : Int) ≤ (q : Int) := hn.1
      have q1 : decide ((q : Int) < 0) = false := decide_eq_false (by omega)
      have q2 : decide ((ol : Int) ≤ (q : Int)) = false := decide_eq_false (by omega)
      have q3 : decide (ol ≤ q) = false := decide_eq_false (by omega)
      have cm : w2.cell? ⟨w.heap.size + 1, 0, none⟩ = some (.int .i64 mo) := by rw [cell_of_row w2 (w.heap.size + 1) _ _ _ (0, 0) Hp3.out]; rfl
      have fm : w2.frozen? ⟨w.heap.size + 1, 0, none⟩ = false := by simp [World.frozen?, Hp3.out]
      have lm := Hlt1.out
      have Hn := Lib.hid hn
      clear hn hq
      go_upto_region 8 with fail
      have hc3 : (w2.setCell ⟨w.heap.size + 1, 0, none⟩ (.int .i64 k)).cell? ⟨w.heap.size + 1, 0, none⟩ = some (.int .i64 k) := by
        rw [cell_of_row _ (w.heap.size + 1) _ _ _ (0, 0) (ptr_set Hp3.out 0 _)]; rfl
      have hs3 : (w2.setCell ⟨w.heap.size + 1, 0, none⟩ (.int .i64 k)).heap.size = w2.heap.size := by simp [World.setCell]
      have hBx3 : BoxB (w2.setCell ⟨w.heap.size + 1, 0, none⟩ (.int .i64 k)) w.heap.size B tk lk (.slice oa ol oc) (.slice la ll lc) b := by
        have hne : ∀ i : Nat, (w2.setCell ⟨w.heap.size + 1, 0, none⟩ (.int .i64 k)).cell? ⟨w.heap.size, i, none⟩ = w2.cell? ⟨w.heap.size, i, none⟩ := fun i => cell_eq (p := ⟨w.heap.size, i, none⟩) (Below.heap_setCell _ _ _ _ (by show w.heap.size ≠ w.heap.size + 1; omega))
        exact ⟨(hne 0).trans c0, (hne 1).trans c1, (hne 2).trans c2, (hne 3).trans c3, by rw [hs3]; omega, by rw [hs3]; have := HhB.out; omega, Hbx2.out.r.below ((Below.refl B w2).setCell (p := ⟨w.heap.size + 1, 0, none⟩) (by have := HhB.out; show B ≤ w.heap.size + 1; omega) _)⟩
      have hB3 : Below w.heap.size w (w2.setCell ⟨w.heap.size + 1, 0, none⟩ (.int .i64 k)) := HB2.out.setCell (p := ⟨w.heap.size + 1, 0, none⟩) (by show w.heap.size ≤ w.heap.size + 1; omega) _
      have HBx3 := Lib.hid hBx3
      have HB3 := Lib.hid hB3
      have HG := Lib.hid (Hgr0.out _ B (w.heap.size + 1) hBx3.le hBx3.r hc3 (by rw [hs3]; exact lm))
      clear hc3 hs3 hBx3 hB3 Hgr0 c0 c1 c2 c3 cm fm lm
      generalize w2.setCell ⟨w.heap.size + 1, 0, none⟩ (.int .i64 k) = w3 at *
      obtain ⟨c0, c1, c2, c3⟩ := HBx3.out.four
      go_wp2_with fail
      refine (HG.out).mono ?_
      rintro e w4 ⟨h4, hb4⟩
      have HB4 := Lib.hid (HB3.out.trans (hb4.mono HB3.out.size))
      clear hb4 HG c0 c1 c2 c3
      rcases h4 with ⟨g, S, rfl, hI, hcl, hno, hst⟩ | ⟨rfl, hS4⟩
      · rw [← Hol.out] at hst ⊢
        have hqS : q < S.length := by rw [hst.len]; omega
        obtain ⟨v, hv, hr⟩ := hst.at_ q hqS
        have e : S[q] = stAt S (q : Int) := (stAt_nat S q hqS).symm
        rw [e] at hr
        have HE : Hid (WordsP w b k (q : Int) (.returned (.tuple #[v, .int .i64 0])) w4) := Lib.hid ⟨.inr (.inr ⟨H0.out, by rw [← Hol.out]; exact Hn.out, .inl ⟨_, S, rfl, hI, hcl, hno, hr⟩⟩), HB4.out⟩
        obtain ⟨xa, xc, rfl, _, _⟩ := hr.val
        generalize (stAt S (q : Int)).length = xn at *
        clear hI hcl hno hst hr hqS e
        go_wp2_with fail
        go_ret2
        exact HE.out
      · have HE : Hid (WordsP w b k (q : Int) (.returned (.tuple #[.slice none 0 0, .int .i64 15])) w4) := Lib.hid ⟨.inr (.inr ⟨H0.out, by rw [← Hol.out]; exact Hn.out, .inr ⟨rfl, hS4⟩⟩), HB4.out⟩
        clear hS4
        go_wp2_with fail
        go_ret2
        exact HE.out
    · have HE : Hid (WordsP w b k n (.returned (.tuple #[.slice none 0 0, .int .i64 3])) w2) := Lib.hid ⟨.inr (.inl ⟨H0.out, by rw [← Hol.out]; exact hn, rfl⟩), HB2.out⟩
      by_cases hn0 : n < 0
      · have q1 : decide (n < 0) = true := decide_eq_true hn0
        clear hn hn0
        go_wp2_with fail
        go_ret2
        exact HE.out
      · have q1 : decide (n < 0) = false := decide_eq_false hn0
        have q2 : decide ((ol : Int) ≤ n) = true := decide_eq_true (by omega)
        clear hn hn0
        go_wp2_with fail
        go_ret2
        exact HE.out
  · have Hne := Lib.hid h0
    have hq : ((bmay b : Int) == 0) = false := by rw [beq_eq_false_iff_ne]; exact h0
    have hq2 : ((bmay b : Int) != 0) = true := by rw [bne_iff_ne]; exact h0
    clear h0
    generalize hm : bmay b = m at *
    have HE : Hid (WordsP w b k n (.returned (.tuple #[.slice none 0 0, .int .i64 m])) w2) := Lib.hid ⟨.inl ⟨by rw [hm]; exact Hne.out, by rw [hm]⟩, HB2.out⟩
    go_wp2_with fail
    go_ret2
    exact HE.out
end Go.Proofs.Ytimgnbacgdmiiaa
namespace Go.Proofs.Ytimgnbacgdmiiaa
open Go.RowKit PK
set_option linter.unusedVariables false
set_option linter.unusedSimpArgs false
attribute [local go_sem ↓] append_appM

theorem WordsP.form {w w' : World} {b : Bn} {k n : Int} {e : Ending} (h : WordsP w b k n e w') : ∃ a N c x, e = .returned (.tuple #[.slice a N c, .int .i64 x]) := by
  rcases h.1 with ⟨_, h1⟩ | ⟨_, _, h1⟩ | ⟨_, _, ⟨v, S, h1, _, _, _, hr⟩ | ⟨h1, _⟩⟩
  · exact ⟨_, _, _, _, h1⟩
  · exact ⟨_, _, _, _, h1⟩
  · obtain ⟨a, c, rfl, _⟩ := hr.val; exact ⟨_, _, _, _, h1⟩
  · exact ⟨_, _, _, _, h1⟩
theorem RWordsP.form {w w' : World} {b : Bn} {k n : Int} {e : Ending} (h : RWordsP w b k n e w') : ∃ a N c x, e = .returned (.tuple #[.slice a N c, .bool x]) := by
  rcases h.1 with ⟨v, S, h1, _, _, _, hr⟩ | ⟨h1, _⟩
  · obtain ⟨a, c, rfl, _⟩ := hr.val; exact ⟨_, _, _, _, h1⟩
  · exact ⟨_, _, _, _, h1⟩
/-- What first.Words alone tells. -/
theorem words_case {w w' : World} {b : Bn} {k n x : Int} {a : Option Addr} {N c : Nat} (h : WordsP w b k n (.returned (.tuple #[.slice a N c, .int .i64 x])) w') :
    (bmay b ≠ 0 ∧ x = bmay b ∧ Value.slice a N c = .slice none 0 0) ∨ (bmay b = 0 ∧ ¬ (0 ≤ n ∧ n < b.of.length) ∧ x = 3 ∧ Value.slice a N c = .slice none 0 0) ∨ (bmay b = 0 ∧ 0 ≤ n ∧ n < b.of.length ∧ ((x = 0 ∧ ∃ S, InvSW b k 10000 S ∧ ClosedW b k S ∧ (∀ p ∈ b.l, ¬ OverRW k 10000 S p.right) ∧ N = (stAt S n).length ∧ Row w' w'.heap.size 1 (.slice a N c) N (svt (stAt S n))) ∨ (x = 15 ∧ Value.slice a N c = .slice none 0 0 ∧ ∃ S, SoundW b k S ∧ OverW b k 10000 S))) := by
  rcases h.1 with ⟨h0, h1⟩ | ⟨h0, hn, h1⟩ | ⟨h0, hn, ⟨v, S, h1, hI, hc, hno, hr⟩ | ⟨h1, hS⟩⟩
  · simp only [Ending.returned.injEq, Value.tuple.injEq, Array.mk.injEq, List.cons.injEq, Value.int.injEq, and_true, true_and] at h1
    exact .inl ⟨h0, h1.2, h1.1⟩
  · simp only [Ending.returned.injEq, Value.tuple.injEq, Array.mk.injEq, List.cons.injEq, Value.int.injEq, and_true, true_and] at h1
    exact .inr (.inl ⟨h0, hn, h1.2, h1.1⟩)
  · obtain ⟨va, vc, rfl, _⟩ := hr.val
    simp only [Ending.returned.injEq, Value.tuple.injEq, Array.mk.injEq, List.cons.injEq, Value.int.injEq, Value.slice.injEq, and_true, true_and] at h1
    obtain ⟨⟨rfl, rfl, rfl⟩, rfl⟩ := h1
    exact .inr (.inr ⟨h0, hn.1, hn.2, .inl ⟨rfl, S, hI, hc, hno, rfl, hr⟩⟩)
  · simp only [Ending.returned.injEq, Value.tuple.injEq, Array.mk.injEq, List.cons.injEq, Value.int.injEq, and_true, true_and] at h1
    exact .inr (.inr ⟨h0, hn.1, hn.2, .inr ⟨h1.2, h1.1, hS⟩⟩)
theorem rwords_case {w w' : World} {b : Bn} {k n : Int} {x : Bool} {a : Option Addr} {N c : Nat} (h : RWordsP w b k n (.returned (.tuple #[.slice a N c, .bool x])) w') :
    (x = true ∧ ∃ S, InvSW b k 10000 S ∧ ClosedW b k S ∧ (∀ p ∈ b.l, ¬ OverRW k 10000 S p.right) ∧ N = (stAt S n).length ∧ Row w' w'.heap.size 1 (.slice a N c) N (svt (stAt S n))) ∨ (x = false ∧ ∃ S, SoundW b k S ∧ OverW b k 10000 S) := by
  rcases h.1 with ⟨v, S, h1, hI, hc, hno, hr⟩ | ⟨h1, hS⟩
  · obtain ⟨va, vc, rfl, _⟩ := hr.val
    simp only [Ending.returned.injEq, Value.tuple.injEq, Array.mk.injEq, List.cons.injEq, Value.bool.injEq, Value.slice.injEq, and_true, true_and] at h1
    obtain ⟨⟨rfl, rfl, rfl⟩, rfl⟩ := h1
    exact .inl ⟨rfl, S, hI, hc, hno, rfl, hr⟩
  · simp only [Ending.returned.injEq, Value.tuple.injEq, Array.mk.injEq, List.cons.injEq, Value.bool.injEq, and_true, true_and] at h1
    exact .inr ⟨h1.2, hS⟩
/-- Where rules may be, and there is such a nonterminal, both tell the same. -/
theorem words_same {b : Bn} {k : Int} (h0 : bmay b = 0) {S : Sts} (hI : InvSW b k 10000 S) (hc : ClosedW b k S) (hno : ∀ p ∈ b.l, ¬ OverRW k 10000 S p.right) {T : Sts} (hT : SoundW b k T) :
    ¬ OverW b k 10000 T ∧ (InvSW b k 10000 T → ClosedW b k T → T = S) := by
  obtain ⟨_, hN, _, _, _, hok, _⟩ := bmay_zero h0
  refine ⟨fun ho => ?_, fun hIT hcT => SoundW.uniq hok hT hI.sound hcT hc⟩
  exact ho.not (SoundW.sub hok hT hc) hI.sound.set hc hno fun n => stAt_few n hI.few
set_option maxHeartbeats 4000000 in
set_option maxRecDepth 100000 in
theorem firstWords_walk (b : Bn) (ov lv : Value) (n mo : Int) (w : World) (r : BR w w.heap.size ov lv b) (hmo : -9223372036854775808 ≤ mo ∧ mo ≤ 9223372036854775807) :
    Calls Try.prog 5 #[.agg #[.int .i64 b.toks, .int .i64 b.look, ov, lv], .int .i64 n, .int .i64 mo] w (BoolB w true) := by
  have hb1 := agg_box14 w b.toks b.look ov lv
  have hbx := BoxB.new b.toks b.look 25 (Nat.le_refl w.heap.size) r
  have hp1 : (w.alloc (.cells #[.int .i64 b.toks, .int .i64 b.look, ov, lv] 25)).heap[w.heap.size]? = some (.cells #[.int .i64 b.toks, .int .i64 b.look, ov, lv] 25 (0, 0)) := Array.getElem?_push_size
  have hfw := few14_any b b.toks b.look ov lv _ _ rfl rfl hbx.le hbx.r
  have h2 := few14_twice b
  obtain ⟨htk, hlk⟩ := few14_toks b
  generalize few14B b = B at *
  generalize b.toks = tk at *
  generalize b.look = lk at *
  have hfew2 : ∀ o l W BW, BW ≤ W.heap.size → BR W BW o l B → Calls Try.prog 10 #[.agg #[.int .i64 tk, .int .i64 lk, o, l]] W (Few14P W tk lk B) := fun o l W BW hBW hr => by
    have := few14_any B tk lk o l BW W htk hlk hBW hr
    rw [h2] at this; exact this
  have hof : ∀ o l W BW mo k, BW ≤ W.heap.size → BR W BW o l B → (-9223372036854775808 ≤ mo ∧ mo ≤ 9223372036854775807) → min (max mo 0) 4 = k → Calls Try.prog 17 #[.agg #[.int .i64 tk, .int .i64 lk, o, l], .int .i64 n, .int .i64 mo] W (WordsP W B k n) := fun o l W BW mo k hBW hr h1 h2 => firstWords_any B tk lk mo n k o l BW W htk hlk hBW hr h1 h2
  have hmy : ∀ o l W BW, BW ≤ W.heap.size → BR W BW o l B → Calls Try.prog 18 #[.agg #[.int .i64 tk, .int .i64 lk, o, l]] W fun e w' => e = .returned (.int .i64 (bmay B)) ∧ Below W.heap.size W w' := fun o l W BW hBW hr => by
    have := refMay_any B o l BW W hBW hr
    rw [htk, hlk] at this; exact this
  have hrf : bmay B = 0 → ∀ o l W BW mo k, BW ≤ W.heap.size → BR W BW o l B → (-9223372036854775808 ≤ mo ∧ mo ≤ 9223372036854775807) → min (max mo 0) 4 = k → (0 ≤ n ∧ n < B.of.length) → Calls Try.prog 19 #[.agg #[.int .i64 tk, .int .i64 lk, o, l], .int .i64 n, .int .i64 mo] W (RWordsP W B k n) := fun h0 o l W BW mo k hBW hr h1 h2 hn => by
    have := refWords_any B k mo n o l BW W hBW hr h0 (by omega) h1 h2 hn
    rw [htk, hlk] at this; exact this
  have Hfw := Lib.hid hfw; have Hp1 := Lib.hid hp1; have Hb1 := Lib.hid hb1; have Hbx := Lib.hid hbx
  have Hfew2 := Lib.hid hfew2; have Hof := Lib.hid hof; have Hrf := Lib.hid hrf; have Hmy := Lib.hid hmy
  have Hwk := Lib.hid works14_any
  clear hfw hp1 hb1 htk hlk r hbx hfew2 hof hrf h2 hmy
  go_enter Try.func5, Try.ntmps5
  go_upto_region 1 with fail
  generalize w.alloc (.cells #[.int .i64 tk, .int .i64 lk, ov, lv] 25) = w1 at *
  obtain ⟨y0, y1, y2, y3, _, _, _, _, hlt0⟩ := four_cells Hp1.out
  go_wp2_with fail
  refine (Hfw.out).mono ?_
  rintro e w3 ⟨o, l, rfl, hbr, hb3⟩
  obtain ⟨oa, oc, rfl, _, _⟩ := (hbr w3 (fun _ _ => rfl) rfl).of.val
  obtain ⟨la, lc, rfl, _, _⟩ := (hbr w3 (fun _ _ => rfl) rfl).l.val
  have hp3 : w3.heap[w.heap.size]? = some (.cells #[.int .i64 tk, .int .i64 lk, ov, lv] 25 (0, 0)) := by rw [hb3.block _ hlt0]; exact Hp1.out
  have hbox := BoxB.put tk lk hp3 (show w.heap.size < w1.heap.size + 2 by omega) hbr
  have HB4 := Lib.hid (below_four (Hb1.out.trans (hb3.mono Hb1.out.size)) (Nat.le_refl w.heap.size) (.int .i64 tk) (.int .i64 lk) (.slice oa B.of.length oc) (.slice la B.l.length lc))
  obtain ⟨x0, x1, x2, x3, f0, f1, f2, f3, hlt2⟩ := four_cells hp3
  have Hbox := Lib.hid hbox
  clear y0 y1 y2 y3 hlt0 hp3 hbr hb3 hbox Hfw Hbx Hp1
  go_upto_region 2 with fail
  generalize hw4 : (((w3.setCell ⟨w.heap.size, 0, none⟩ (.int .i64 tk)).setCell ⟨w.heap.size, 1, none⟩ (.int .i64 lk)).setCell ⟨w.heap.size, 2, none⟩ (.slice oa B.of.length oc)).setCell ⟨w.heap.size, 3, none⟩ (.slice la B.l.length lc) = w4 at *
  clear x0 x1 x2 x3 f0 f1 f2 f3 hlt2 hw4
  have Hq := Lib.hid (Hfew2.out _ _ w4 _ Hbox.out.le Hbox.out.r)
  go_upto_if 15 with fail
  go_cut [2] from 12 to 15 (fun mv wx => wx = w4 ∧ ∃ m2, mv = .int .i64 m2 ∧ Hid (-9223372036854775808 ≤ m2 ∧ m2 ≤ 3))
  case first =>
    have HM0 := Lib.hid hmo
    go_wp2_with fail
    · go_meet
      case rel => exact ⟨rfl, 3, rfl, Lib.hid (by omega)⟩
    · rename_i z
      have HM : Hid (-9223372036854775808 ≤ mo ∧ mo ≤ 3) := Lib.hid (by have := HM0.out; omega)
      clear z
      go_meet
      case rel => exact ⟨rfl, mo, rfl, HM⟩
  case rest =>
    obtain ⟨rfl, m2, rfl, HM⟩ := hcut
    obtain ⟨k, hk⟩ : ∃ k, min (max m2 0) 4 = k := ⟨_, rfl⟩
    have HK := Lib.hid hk
    clear hk hmo
    obtain ⟨c0, c1, c2, c3⟩ := Hbox.out.four
    go_wp2_with fail
    refine (Hq.out).mono ?_
    rintro e w5 ⟨o5, l5, rfl, hbr5, hb5⟩
    have Hof5 := Lib.hid (Hof.out o5 l5 w5 _ m2 k (Nat.le_refl _) (hbr5 w5 (fun _ _ => rfl) rfl) (by have := HM.out; omega) HK.out)
    have HB5 := Lib.hid (HB4.out.trans (hb5.mono HB4.out.size))
    have Hbox5 := Lib.hid (Hbox.out.keep hb5)
    clear Hq Hbox hbr5 hb5 Hof Hfew2 c0 c1 c2 c3
    go_wp2_with fail
    refine (Hof5.out).mono ?_
    intro e w6 hp6
    obtain ⟨a1, N1, d1, er1, rfl⟩ := hp6.form
    have HP6 := Lib.hid (words_case hp6)
    have HB6 := Lib.hid (HB5.out.trans (hp6.2.mono HB5.out.size))
    have Hbox6 := Lib.hid (Hbox5.out.keep hp6.2)
    have Hq := Lib.hid (Hmy.out _ _ w6 _ Hbox6.out.le Hbox6.out.r)
    obtain ⟨c0, c1, c2, c3⟩ := Hbox6.out.four
    clear Hof5 Hbox5 hp6 Hmy
    go_wp2_with fail
    refine (Hq.out).mono ?_
    rintro e w7 ⟨rfl, hb7⟩
    have HB7 := Lib.hid (HB6.out.trans (hb7.mono HB6.out.size))
    have Hbox7 := Lib.hid (Hbox6.out.keep hb7)
    have Hb7 := Lib.hid hb7
    clear hb7 Hq c0 c1 c2 c3
    rcases HP6.out with ⟨h0, rfl, hv⟩ | ⟨h0, hn, rfl, hv⟩ | ⟨h0, hn1, hn2, hx⟩
    · simp only [Value.slice.injEq] at hv
      obtain ⟨rfl, rfl, rfl⟩ := hv
      have hq : ((bmay B : Int) == 0) = false := by rw [beq_eq_false_iff_ne]; exact h0
      have hq2 : ((bmay B : Int) != 0) = true := by rw [bne_iff_ne]; exact h0
      clear h0 HP6 Hrf
      generalize bmay B = m at *
      have Hw := Lib.hid (Hwk.out w7)
      go_wp2_with fail
      refine (Hw.out).mono ?_
      rintro e w8 ⟨rfl, hb8⟩
      have HB8 := Lib.hid (HB7.out.trans (hb8.mono HB7.out.size))
      clear hb8 Hw
      go_wp2_with fail
      go_ret
      exact ⟨rfl, HB8.out⟩
    · simp only [Value.slice.injEq] at hv
      obtain ⟨rfl, rfl, rfl⟩ := hv
      rw [h0]
      obtain ⟨c0, c1, c2, c3⟩ := Hbox7.out.four
      have Hw := Lib.hid (Hwk.out w7)
      clear h0 HP6 Hrf
      by_cases hn0 : n < 0
      · have q1 : decide (n < 0) = true := decide_eq_true hn0
        clear hn hn0
        go_wp2_with fail
        refine (Hw.out).mono ?_
        rintro e w8 ⟨rfl, hb8⟩
        have HB8 := Lib.hid (HB7.out.trans (hb8.mono HB7.out.size))
        clear hb8 Hw
        go_wp2_with fail
        go_ret
        exact ⟨rfl, HB8.out⟩
      · have q1 : decide (n < 0) = false := decide_eq_false hn0
        have q2 : decide ((B.of.length : Int) ≤ n) = true := decide_eq_true (by omega)
        clear hn hn0
        generalize B.of.length = ol at *
        go_wp2_with fail
        refine (Hw.out).mono ?_
        rintro e w8 ⟨rfl, hb8⟩
        have HB8 := Lib.hid (HB7.out.trans (hb8.mono HB7.out.size))
        clear hb8 Hw
        go_wp2_with fail
        go_ret
        exact ⟨rfl, HB8.out⟩
    · rw [h0]
      obtain ⟨c0, c1, c2, c3⟩ := Hbox7.out.four
      have q1 : decide (n < 0) = false := decide_eq_false (by omega)
      have q2 : decide ((B.of.length : Int) ≤ n) = false := decide_eq_false (by omega)
      have Hq := Lib.hid (Hrf.out h0 _ _ w7 _ m2 k Hbox7.out.le Hbox7.out.r (by have := HM.out; omega) HK.out ⟨hn1, hn2⟩)
      have Hx := Lib.hid hx
      have H0 := Lib.hid h0
      clear h0 HP6 Hrf hx hn1 hn2
      go_wp2_with fail
      refine (Hq.out).mono ?_
      intro e w8 hp8
      obtain ⟨a2, N2, d2, er2, rfl⟩ := hp8.form
      have hcase := rwords_case hp8
      have HB8 := Lib.hid (HB7.out.trans (hp8.2.mono HB7.out.size))
      have Hb8 := Lib.hid (Hb7.out.trans (hp8.2.mono Hb7.out.size))
      clear Hq hp8 c0 c1 c2 c3
      rcases Hx.out with ⟨rfl, S, hI, hc, hno, hN, hr⟩ | ⟨rfl, hv, S, hS, hO⟩
      · rcases hcase with ⟨rfl, T, hI2, hc2, hno2, hN2, hr2⟩ | ⟨rfl, T, hT, hOT⟩
        · have e := (words_same H0.out hI hc hno hI2.sound).2 hI2 hc2
          subst e
          subst hN hN2
          have hs := Lib.hid (sameTexts_any (.slice a1 (stAt T n).length d1) (.slice a2 (stAt T n).length d2) _ _ _ _ w8 (Nat.le_refl _) (Nat.le_refl _) ((hr.below Hb8.out).mono Hb8.out.size) hr2)
          simp only [decide_true] at hs
          generalize (stAt T n).length = N at *
          clear hI hc hno hr hI2 hc2 hno2 hr2 Hx
          go_wp2_with fail
          refine (hs.out).mono ?_
          rintro e w9 ⟨rfl, hb9⟩
          have HB9 := Lib.hid (HB8.out.trans (hb9.mono HB8.out.size))
          have Hw := Lib.hid (Hwk.out w9)
          clear hb9 hs
          go_wp2_with fail
          refine (Hw.out).mono ?_
          rintro e w10 ⟨rfl, hb10⟩
          have HB10 := Lib.hid (HB9.out.trans (hb10.mono HB9.out.size))
          clear hb10 Hw
          go_wp2_with fail
          go_ret
          exact ⟨rfl, HB10.out⟩
        · exact absurd hOT (words_same H0.out hI hc hno hT).1
      · rcases hcase with ⟨rfl, T, hI2, hc2, hno2, hN2, hr2⟩ | ⟨rfl, T, hT, hOT⟩
        · exact absurd hO (words_same H0.out hI2 hc2 hno2 hS).1
        · simp only [Value.slice.injEq] at hv
          obtain ⟨rfl, rfl, rfl⟩ := hv
          have Hw := Lib.hid (Hwk.out w8)
          clear hS hO hT hOT Hx
          go_wp2_with fail
          refine (Hw.out).mono ?_
          rintro e w10 ⟨rfl, hb10⟩
          have HB10 := Lib.hid (HB8.out.trans (hb10.mono HB8.out.size))
          clear hb10 Hw
          go_wp2_with fail
          go_ret
          exact ⟨rfl, HB10.out⟩
set_option maxRecDepth 100000 in
theorem firstWords_law {H : Type} {base : Nat} (enc : TypeId × Value → H) (W : World)
    (v0 : Value) (d0 : DataW H) (p0 : List MemPlace) (k0 : Value.okWide Try.prog W .any base 25 v0) (h0 : DataW.Trod enc Try.prog W 0 (fun _ => true) true 25 v0 d0 p0) (n : Int) (_ : (Lit.int .i64 n).wf = true) (mo : Int) (hmo : (Lit.int .i64 mo).wf = true) :
    Calls Try.prog 5 #[v0, .int .i64 n, .int .i64 mo] W fun e w' => e = .returned (.bool true) ∧ Below W.heap.size W w' := by
  obtain ⟨b, o, l, rfl, r, _⟩ := bnfOf k0 h0
  exact firstWords_walk b o l n mo W r (by
    have h := hmo
    simp only [Lit.wf, Bool.and_eq_true, decide_eq_true_eq] at h
    exact ⟨h.1, h.2⟩)
end Go.Proofs.Ytimgnbacgdmiiaa
