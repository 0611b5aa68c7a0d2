/-
  row.Of.
-/
import Derived.Test.YtimgnbacgdmiiaaFirC
namespace Go.Proofs.Ytimgnbacgdmiiaa
open Go.RowKit PK
set_option linter.unusedVariables false
set_option linter.unusedSimpArgs false
attribute [local go_sem ↓] append_appM

/-- What row.Of answers. -/
def RowOfP (w : World) (k : Int) (most : Nat) (S : Sts) (l : List Sy) (e : Ending) (w' : World) : Prop :=
  ((¬ OverR k most S l ∧ ∃ v, e = .returned (.tuple #[v, .bool true]) ∧ Row w' w'.heap.size 1 v (rowS k S l).length (svt (rowS k S l))) ∨ (OverR k most S l ∧ e = .returned (.tuple #[.slice none 0 0, .bool false]))) ∧ Below w.heap.size w w'
/-- Sets as they are kept: each a set, of texts of at most k bytes, not too great. -/
def SOk (k : Int) (S : Sts) : Prop := ∀ a ∈ S, IsSet a ∧ Le k a ∧ a.length ≤ 600
theorem symS_ok {k : Int} (hk : 1 ≤ k) {S : Sts} (h : SOk k S) (s : Sy) : IsSet (symS S s) ∧ Le k (symS S s) ∧ (symS S s).length ≤ 650 := by
  unfold symS
  cases s.tok with
  | true => exact ⟨List.pairwise_singleton _ _, (fun x hx => by
      have e : x = [UInt8.ofNat s.n.toNat] := by simpa using hx
      rw [e]; simp; omega), by simp⟩
  | false =>
    simp only [Bool.false_eq_true, if_false]
    unfold stAt
    cases e : S[s.n.toNat]? with
    | none => exact ⟨List.Pairwise.nil, (fun x hx => by cases hx), by simp⟩
    | some a => obtain ⟨h1, h2, h3⟩ := h a (List.mem_of_getElem? e); exact ⟨h1, h2, Nat.le_trans h3 (by omega)⟩
theorem rowS_le {k : Int} (hk : 0 ≤ k) (S : Sts) (l : List Sy) : Le k (rowS k S l) := by
  rcases List.eq_nil_or_concat l with rfl | ⟨r, s, rfl⟩
  · intro x hx
    have e : x = [] := by simpa [rowS] using hx
    rw [e]; simpa using hk
  · rw [List.concat_eq_append, rowS_snoc]; exact catL_le _ _ _ hk
set_option maxHeartbeats 2000000 in
set_option maxRecDepth 100000 in
theorem rowOf_any (l : List Sy) (lv : Value) (k : Int) (kb g N c most : Nat) (S : Sts) (BL : Nat) (w : World) (rl : SR w BL lv l) (hBL : BL ≤ w.heap.size) (h : SetsR w g N c S) (hc : w.cell? ⟨kb, 0, none⟩ = some (.int .i64 k)) (hkb : kb < w.heap.size) (hk : 1 ≤ k ∧ k ≤ 4) (hm : most ≤ 600) (hS : SOk k S) (hs : ∀ s ∈ l, (s.tok = true → 0 ≤ s.n ∧ s.n ≤ 255) ∧ (s.tok = false → 0 ≤ s.n ∧ s.n < N)) (hN : N ≤ 1000) :
    Calls Try.prog 38 #[lv, .slice (some ⟨g, 0, none⟩) N c, .int .i64 (most : Nat), .func (.func 60) #[] #[.pointer (some ⟨kb, 0, none⟩)]] w (RowOfP w k most S l) := by
  obtain ⟨la, lc, rfl, hl1, hl2⟩ := Row.val rl
  unfold maxLen at hl2
  have hr0 : Row (w.alloc (.cells #[.string ⟨#[]⟩] 9)) (w.alloc (.cells #[.string ⟨#[]⟩] 9)).heap.size 1 (.slice (some ⟨w.heap.size, 0, none⟩) 1 1) 1 (svt [[]]) := (row_cellsB w (svt [[]]) 1 1 1 9 rfl (Nat.le_refl _) (by unfold maxLen; omega)).mono (by simp)
  have hb0 := (Below.refl w.heap.size w).alloc (Nat.le_refl _) (.cells #[.string ⟨#[]⟩] 9)
  obtain ⟨ln, hln⟩ : ∃ ln, ln = l.length := ⟨_, rfl⟩
  have Rl := Lib.hid (fun W (hW : Below w.heap.size w W) => (show SR W BL (.slice la l.length lc) l from Row.below rl (hW.mono hBL)))
  rw [← hln] at Rl hl1 ⊢
  have HS := Lib.hid h; have Hc := Lib.hid hc; have Hkb := Lib.hid hkb; have Hk := Lib.hid hk; have HSo := Lib.hid hS; have Hs := Lib.hid hs; have Hr0 := Lib.hid hr0; have Hb0 := Lib.hid hb0; have Hln := Lib.hid hln; have Hm := Lib.hid hm; have HN := Lib.hid hN
  have hl63 : (ln : Int) ≤ 9223372036854775807 := by omega
  have hm63 : (most : Int) ≤ 1000 := by omega
  clear rl hBL h hc hkb hk hS hs hr0 hb0 hln hl1 hl2 hm hN
  go_enter Try.func38, Try.ntmps38
  go_wp2_with fail
  go_loopw [10, 16] (fun rv iv wr => ∃ i : Nat, i ≤ ln ∧ iv = .int .i64 (i : Nat) ∧ Hid (Row wr wr.heap.size 1 rv (rowS k S (l.take i)).length (svt (rowS k S (l.take i)))) ∧ Hid (∀ j, j < i → (rowS k S (l.take (j + 1))).length ≤ most) ∧ Hid (Below w.heap.size w wr)) (fun _ iv _ => ln - (intOf iv).toNat)
  case atStart => exact ⟨0, Nat.zero_le _, rfl, Hr0, Lib.hid (fun j hj => by omega), Hb0⟩
  case round =>
    clear Hr0 Hb0
    obtain ⟨i, hi, rfl, HR, HO, HB⟩ := hrel
    obtain ⟨ra, rc, rfl, _, _⟩ := HR.out.val
    by_cases hlt : i < ln
    · have hil : i < l.length := by have := Hln.out; omega
      obtain ⟨b6, o6, hao, hb6, f0, f1⟩ := SR.get (show SR wr BL (.slice la l.length lc) l by have := Rl.out wr HB.out; rw [Hln.out] at this; exact this) i hil
      subst hao
      have hsn := Hs.out l[i] (List.getElem_mem hil)
      have Hsu := Lib.hid (rowS_succ k S l i hil)
      generalize l[i] = s at *
      have hok := symS_ok Hk.out.1 HSo.out s
      obtain ⟨t, n⟩ := s
      simp only at f0 f1 hsn
      have hbs := (Below.refl wr.heap.size wr).alloc (Nat.le_refl _) (.cells #[.bool t, .int .i64 n] 39)
      have hx0 : (wr.alloc (.cells #[.bool t, .int .i64 n] 39)).cell? ⟨wr.heap.size, 0, none⟩ = some (.bool t) := cell_new wr _ _ 0 _ rfl
      have hx1 : (wr.alloc (.cells #[.bool t, .int .i64 n] 39)).cell? ⟨wr.heap.size, 1, none⟩ = some (.int .i64 n) := cell_new wr _ _ 1 _ rfl
      have HBs := Lib.hid (HB.out.trans (hbs.mono HB.out.size))
      have HRs := Lib.hid ((HR.out.below hbs).mono hbs.size)
      have Hset := Lib.hid (rowSet_any ⟨t, n⟩ g N c S _ (HS.out.below HBs.out) HN.out hsn.1 hsn.2)
      have hrl : Le k (rowS k S (l.take i)) := rowS_le (by have := Hk.out; omega) S _
      have hrn : (rowS k S (l.take i)).length ≤ 650 := by
        rcases Nat.eq_zero_or_pos i with rfl | hp
        · show (rowS k S []).length ≤ 650
          show ([[]] : List Tx).length ≤ 650
          simp
        · have := HO.out (i - 1) (by omega)
          rw [show i - 1 + 1 = i by omega] at this
          have := Hm.out; omega
      have Hcat := Lib.hid (fun W vb (hW : Below w.heap.size w W) (hr : Row W W.heap.size 1 (.slice ra (rowS k S (l.take i)).length rc) (rowS k S (l.take i)).length (svt (rowS k S (l.take i)))) (hr2 : Row W W.heap.size 1 vb (symS S ⟨t, n⟩).length (svt (symS S ⟨t, n⟩))) => ahead_any k kb _ vb _ _ W ((hW.cell (p := ⟨kb, 0, none⟩) Hkb.out).trans Hc.out) (Nat.lt_of_lt_of_le Hkb.out hW.size) Hk.out hr hr2 (rowS_set _ _ _) hok.1 hrl hok.2.1 hrn hok.2.2)
      rw [← Hsu.out] at Hcat
      have Hlt := Lib.hid hlt
      have hi1 : (i : Int) < (ln : Int) := by omega
      have hi2 : (0 : Int) ≤ (i : Int) := by omega
      have Hov : Hid (most < (rowS k S (l.take (i + 1))).length → OverR k most S l) := Lib.hid fun h => ⟨i, hil, h⟩
      obtain ⟨rn, hrn2⟩ : ∃ rn, rn = (rowS k S (l.take i)).length := ⟨_, rfl⟩
      rw [← hrn2] at HRs Hcat HR ⊢
      clear hil hb6 hbs hsn hok hlt hi hrl hrn hrn2 HR
      obtain ⟨r2, hr2⟩ : ∃ r2, r2 = rowS k S (l.take (i + 1)) := ⟨_, rfl⟩
      rw [← hr2] at Hcat Hov
      have Hr2 := Lib.hid hr2
      clear hr2 Hsu
      generalize symS S ⟨t, n⟩ = y at *
      go_upto_region 5 with fail
      generalize wr.alloc (.cells #[.bool t, .int .i64 n] 39) = ws at *
      clear f0 f1
      go_wp2_with fail
      refine (Hset.out).mono ?_
      intro e w3 hp3
      obtain ⟨a3, c3, rfl, hr3, hb3⟩ := hp3.at
      have HB3 := Lib.hid (HBs.out.trans (hb3.mono HBs.out.size))
      have Hcall := Lib.hid (Hcat.out w3 _ HB3.out ((HRs.out.below hb3).mono hb3.size) hr3)
      generalize y.length = yn at *
      clear hp3 hr3 hb3 Hset Hcat hx0 hx1
      go_wp2_with fail
      refine (Hcall.out).mono ?_
      intro e w4 hp4
      obtain ⟨a4, c4, rfl, hr4, hb4⟩ := hp4.at
      have HB4 := Lib.hid (HB3.out.trans (hb4.mono HB3.out.size))
      have Hr4 := Lib.hid hr4
      obtain ⟨r2n, hr2n⟩ : ∃ r2n, r2n = r2.length := ⟨_, rfl⟩
      rw [← hr2n] at Hr4 Hov ⊢
      have Hr2n := Lib.hid hr2n
      clear hp4 hr4 hb4 Hcall hr2n
      by_cases hov : most < r2n
      · have q1 : decide (most < r2n) = true := decide_eq_true hov
        have q2 : decide ((most : Int) < (r2n : Int)) = true := decide_eq_true (by omega)
        have HE : Hid (RowOfP w k most S l (.returned (.tuple #[.slice none 0 0, .bool false])) w4) := Lib.hid ⟨.inr ⟨Hov.out hov, rfl⟩, HB4.out⟩
        clear hov
        go_wp2_with fail
        go_ret2
        exact HE.out
      · have q1 : decide (most < r2n) = false := decide_eq_false hov
        have q2 : decide ((most : Int) < (r2n : Int)) = false := decide_eq_false (by omega)
        have Hle := Lib.hid (Nat.not_lt.1 hov)
        clear hov
        go_wp2_with fail
        go_roundw
        case rel => exact ⟨i + 1, Hlt.out, by go_num, Lib.hid (by rw [← Hr2.out, ← Hr2n.out]; exact Hr4.out), Lib.hid (fun j hj => by
          rcases Nat.lt_or_ge j i with h1 | h1
          · exact HO.out j h1
          · obtain rfl : j = i := by omega
            rw [← Hr2.out, ← Hr2n.out]; exact Hle.out), HB4⟩
        case measure => have := Hlt.out; simp [intOf]; omega
    · obtain rfl : i = ln := by omega
      have Hno : Hid (¬ OverR k most S l) := Lib.hid fun ⟨j, hj, h1⟩ => by
        have := HO.out j (by have := Hln.out; omega); omega
      have hR := HR.out
      rw [Hln.out, List.take_length] at hR
      have hi0 : decide (i < i) = false := by simp
      obtain ⟨rn, hrn2⟩ : ∃ rn, rn = (rowS k S (l.take i)).length := ⟨_, rfl⟩
      have hrn3 : rn = (rowS k S l).length := by rw [hrn2, Hln.out, List.take_length]
      rw [← hrn2]
      have HE : Hid (RowOfP w k most S l (.returned (.tuple #[.slice ra rn rc, .bool true])) wr) := Lib.hid ⟨.inl ⟨Hno.out, _, rfl, by rw [hrn3]; exact hR⟩, HB.out⟩
      clear hR hrn2 hrn3 hlt hi
      go_wp2_with fail
      go_ret2
      exact HE.out
end Go.Proofs.Ytimgnbacgdmiiaa
