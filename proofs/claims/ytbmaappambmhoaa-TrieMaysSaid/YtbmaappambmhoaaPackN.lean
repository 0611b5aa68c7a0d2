/-
  PackLaws.
-/
import Derived.Test.YtbmaappambmhoaaPackL
namespace Go.Proofs.Ytbmaappambmhoaa
open Go.RowKit PK
set_option linter.unusedVariables false

theorem joinL_comm (a b : List Tx) : joinL a b = joinL b a := set_ext (toSet_set _) (toSet_set _) fun z => by
  unfold joinL; simp only [toSet_mem, List.mem_append]; exact Or.comm
theorem meetL_comm (a b : List Tx) : meetL a b = meetL b a := set_ext (toSet_set _) (toSet_set _) fun z => by
  unfold meetL; simp only [toSet_mem, List.mem_filter, decide_eq_true_eq]; exact And.comm
theorem cat_over (a b c : List Tx) (k : Int) : catL (joinL a b) c k = joinL (catL a c k) (catL b c k) := set_ext (toSet_set _) (toSet_set _) fun z => by
  unfold catL joinL catsF
  simp only [toSet_mem, List.mem_append, List.mem_flatMap, List.mem_map]
  constructor
  · rintro ⟨x, hx | hx, h⟩
    · exact .inl ⟨x, hx, h⟩
    · exact .inr ⟨x, hx, h⟩
  · rintro (⟨x, hx, h⟩ | ⟨x, hx, h⟩)
    · exact ⟨x, .inl hx, h⟩
    · exact ⟨x, .inr hx, h⟩
theorem joinL_len (a b : List Tx) : (joinL a b).length ≤ a.length + b.length := by have := toSet_len (a ++ b); rw [List.length_append] at this; exact this
theorem meetL_len (a b : List Tx) : (meetL a b).length ≤ a.length := by
  have := toSet_len (a.filter fun x => decide (x ∈ b))
  have h2 := List.length_filter_le (fun x => decide (x ∈ b)) a
  unfold meetL; omega
theorem joinL_each (a b : List Tx) (n : Nat) (ha : ∀ x ∈ a, x.length ≤ n) (hb : ∀ x ∈ b, x.length ≤ n) : ∀ x ∈ joinL a b, x.length ≤ n := fun x hx => by
  unfold joinL at hx; rw [toSet_mem, List.mem_append] at hx; exact hx.elim (ha x) (hb x)
theorem catL_len (a b : List Tx) (k : Int) : (catL a b k).length ≤ a.length * b.length := by have := toSet_len (catsF a b k); rw [catsF_len] at this; exact this
theorem join_set (a b : List Tx) : decide (IsSet (joinL a b)) = true := decide_eq_true (toSet_set _)
theorem meet_set (a b : List Tx) : decide (IsSet (meetL a b)) = true := decide_eq_true (toSet_set _)
theorem join_has (a b : List Tx) (x : Tx) (h : x ∈ a) : decide (x ∈ joinL a b) = true := decide_eq_true (by unfold joinL; rw [toSet_mem]; exact List.mem_append.2 (.inl h))
theorem meet_has1 (a b : List Tx) (x : Tx) (h : x ∈ meetL a b) : decide (x ∈ a) = true := decide_eq_true (by unfold meetL at h; rw [toSet_mem, List.mem_filter] at h; exact h.1)
theorem meet_has2 (a b : List Tx) (x : Tx) (h : x ∈ meetL a b) : decide (x ∈ b) = true := decide_eq_true (by unfold meetL at h; rw [toSet_mem, List.mem_filter] at h; exact of_decide_eq_true h.2)

set_option maxHeartbeats 4000000 in
set_option maxRecDepth 100000 in
theorem packLaws_walk (v0 v1 v2 : Value) (la lb lc : List Tx) (k : Int) (hk : 0 ≤ k ∧ k ≤ 255) (w : World) (r0 : Row w w.heap.size 1 v0 la.length (svt la)) (r1 : Row w w.heap.size 1 v1 lb.length (svt lb)) (r2 : Row w w.heap.size 1 v2 lc.length (svt lc)) (ha : ∀ x ∈ la, x.length ≤ maxLen) (hb : ∀ x ∈ lb, x.length ≤ maxLen) (hc : ∀ x ∈ lc, x.length ≤ maxLen) :
    Calls Try.prog 5 #[v0, v1, v2, .int .u8 k] w (BoolB w true) := by
  have R0 := Lib.hid r0; have R1 := Lib.hid r1; have R2 := Lib.hid r2; have Ha := Lib.hid ha; have Hb := Lib.hid hb; have Hc := Lib.hid hc
  have LA := Lib.hid (fewT_len la); have LB := Lib.hid (fewT_len lb); have LC := Lib.hid (fewT_len lc)
  have EA := Lib.hid (fewT_each la); have EB := Lib.hid (fewT_each lb); have EC := Lib.hid (fewT_each lc)
  obtain ⟨kn, rfl⟩ := Int.eq_ofNat_of_zero_le hk.1
  clear r0 r1 r2 ha hb hc
  go_enter Try.func5, Try.ntmps5
  go_wp2_with fail
  refine (works13_any w).mono ?_
  rintro e w0 ⟨rfl, b0⟩
  have C0 := Lib.hid b0
  clear b0
  go_wp2_with fail
  refine (few_any v0 la w0 (rowUp R0.out C0.out) Ha.out).mono ?_
  rintro e w1 ⟨x0, rfl, o1, b1⟩
  have C1 := Lib.hid (stepB C0.out b1)
  have O1 := Lib.hid (Row.of_owns o1)
  clear o1 b1
  go_wp2_with fail
  refine (few_any v1 lb w1 (rowUp R1.out C1.out) Hb.out).mono ?_
  rintro e w2 ⟨x1, rfl, o2, b2⟩
  have C2 := Lib.hid (stepB C1.out b2)
  have O12 := Lib.hid (rowUp O1.out b2)
  have O2 := Lib.hid (Row.of_owns o2)
  clear o2 b2 O1
  go_wp2_with fail
  refine (few_any v2 lc w2 (rowUp R2.out C2.out) Hc.out).mono ?_
  rintro e w3 ⟨x2, rfl, o3, b3⟩
  have C3 := Lib.hid (stepB C2.out b3)
  have RA := Lib.hid (rowUp O12.out b3)
  have RB := Lib.hid (rowUp O2.out b3)
  have RC := Lib.hid (Row.of_owns o3)
  clear o3 b3 O12 O2
  go_upto_region 5 with fail
  have hkn : ((kn : Int) % 6) = ((kn % 6 : Nat) : Int) := by omega
  rw [hkn]
  obtain ⟨n, hn⟩ : ∃ n, n = kn % 6 := ⟨_, rfl⟩
  rw [← hn]
  have hn6 : n ≤ 5 := by omega
  clear hkn hn
  have D3 := Lib.hid (Below.refl w3.heap.size w3)
  obtain ⟨a0, c0, rfl, hc0, hc0'⟩ := RA.out.val
  have hla := LA.out
  have hl63 : (fewT la).length ≤ 9223372036854775807 := by omega
  generalize fewT la = A at *
  generalize fewT lb = B at *
  generalize fewT lc = C at *
  clear hla
  go_wp2_with fail
  refine (packJoin_any _ _ A B w3.heap.size w3.heap.size w3 (Nat.le_refl _) (Nat.le_refl _) RA.out RB.out (by have := LA.out; omega) (by have := LB.out; omega)).mono ?_
  rintro e w4 ⟨y0, rfl, o4, b4⟩
  have D4 := Lib.hid (stepB D3.out b4)
  have J4 := Lib.hid (Row.of_owns o4)
  clear o4 b4
  go_wp2_with fail
  refine (packMeet_any _ _ A B w4.heap.size w4.heap.size w4 (Nat.le_refl _) (Nat.le_refl _) (rowUp RA.out D4.out) (rowUp RB.out D4.out) (by have := LA.out; omega) (by have := LB.out; omega)).mono ?_
  rintro e w5 ⟨y1, rfl, o5, b5⟩
  have D5 := Lib.hid (stepB D4.out b5)
  have RJ := Lib.hid (rowUp J4.out b5)
  have RM := Lib.hid (Row.of_owns o5)
  have E5 := Lib.hid (Below.refl w5.heap.size w5)
  clear o5 b5 J4
  have LJ := Lib.hid (joinL_len A B); have LM := Lib.hid (meetL_len A B)
  obtain ⟨a1, c1, rfl, hc1, hc1'⟩ := RM.out.val
  have hm63 : (meetL A B).length ≤ 9223372036854775807 := by have := LM.out; have := LA.out; omega
  have RA5 := Lib.hid (rowUp RA.out D5.out); have RB5 := Lib.hid (rowUp RB.out D5.out); have RC5 := Lib.hid (rowUp RC.out D5.out)
  have CC := Lib.hid (C3.out.trans (D5.out.mono C3.out.size))
  clear RA RB RC D3 D4 D5
  go_wp2_with fail
  refine (packJoin_any _ _ B A w5.heap.size w5.heap.size w5 (Nat.le_refl _) (Nat.le_refl _) RB5.out RA5.out (by have := LB.out; omega) (by have := LA.out; omega)).mono ?_
  rintro e w6 ⟨y2, rfl, o6, b6⟩
  rw [joinL_comm B A] at o6
  have E6 := Lib.hid (stepB E5.out b6)
  have O6 := Lib.hid (Row.of_owns o6)
  clear o6 b6
  go_wp2_with fail
  refine (packSame_any _ _ (joinL A B) (joinL A B) w6.heap.size w6.heap.size w6 (Nat.le_refl _) (Nat.le_refl _) (rowUp RJ.out E6.out) O6.out (by have := LJ.out; have := LA.out; have := LB.out; omega) (by have := LJ.out; have := LA.out; have := LB.out; omega)).mono ?_
  rintro e w7 ⟨rfl, b7⟩
  rw [decide_eq_true rfl]
  have E7 := Lib.hid (stepB E6.out b7)
  clear b7 O6
  go_wp2_with fail
  refine (packMeet_any _ _ B A w7.heap.size w7.heap.size w7 (Nat.le_refl _) (Nat.le_refl _) (rowUp RB5.out E7.out) (rowUp RA5.out E7.out) (by have := LB.out; omega) (by have := LA.out; omega)).mono ?_
  rintro e w8 ⟨y3, rfl, o8, b8⟩
  rw [meetL_comm B A] at o8
  have E8 := Lib.hid (stepB E7.out b8)
  have O8 := Lib.hid (Row.of_owns o8)
  clear o8 b8
  go_wp2_with fail
  refine (packSame_any _ _ (meetL A B) (meetL A B) w8.heap.size w8.heap.size w8 (Nat.le_refl _) (Nat.le_refl _) (rowUp RM.out E8.out) O8.out (by have := LM.out; have := LA.out; omega) (by have := LM.out; have := LA.out; omega)).mono ?_
  rintro e w9 ⟨rfl, b9⟩
  rw [decide_eq_true rfl]
  have E9 := Lib.hid (stepB E8.out b9)
  clear b9 O8
  go_wp2_with fail
  refine (packIs_any _ (joinL A B) w9.heap.size w9 (Nat.le_refl _) (rowUp RJ.out E9.out)).mono ?_
  rintro e w10 ⟨rfl, b10⟩
  rw [join_set]
  have E10 := Lib.hid (stepB E9.out b10)
  clear b10
  go_wp2_with fail
  refine (packIs_any _ (meetL A B) w10.heap.size w10 (Nat.le_refl _) (rowUp RM.out E10.out)).mono ?_
  rintro e w11 ⟨rfl, b11⟩
  rw [meet_set]
  have E11 := Lib.hid (stepB E10.out b11)
  clear b11
  go_wp2_with fail
  go_loopw [12] (fun i wr => ∃ m : Nat, m ≤ A.length ∧ i = .int .i64 m ∧ Hid (Below w5.heap.size w5 wr)) (fun i _ => A.length - (intOf i).toNat)
  case atStart => exact ⟨0, Nat.zero_le _, rfl, E11⟩
  case round =>
    obtain ⟨m, hm, rfl, Hb⟩ := hrel
    by_cases hlt : m < A.length
    · have r1 := rowUp RA5.out Hb.out
      obtain ⟨g1, f1, rfl, _, _⟩ := r1.at (by rw [svt_length]; omega)
      have cc := r1.cell m _ (svt_at A m hlt)
      have hm0 : (m : Int) < (A.length : Int) := by omega
      have hm1 : (0 : Int) ≤ (m : Int) := by omega
      have Hh := Lib.hid (packHas_any y0 (joinL A B) A[m] wr.heap.size wr (Nat.le_refl _) (rowUp RJ.out Hb.out) _ rfl)
      have Hj := Lib.hid (join_has A B A[m] (List.getElem_mem hlt))
      clear r1
      generalize A[m] = x at *
      go_wp2_with fail
      refine (Hh.out).mono ?_
      rintro e w' ⟨rfl, b'⟩
      rw [Hj.out]
      have Hb2 := Lib.hid (stepB Hb.out b')
      clear b'
      go_wp2_with fail
      go_roundw
      case rel => exact ⟨m + 1, hlt, by go_num, Hb2⟩
      case measure => simp [intOf]; omega
    · obtain rfl : m = A.length := by omega
      obtain ⟨wo, rfl⟩ : ∃ wo : World, wo = wr := ⟨_, rfl⟩
      go_wp2_with fail
      go_loopw [13] (fun i wr => ∃ m : Nat, m ≤ (meetL A B).length ∧ i = .int .i64 m ∧ Hid (Below w5.heap.size w5 wr)) (fun i _ => (meetL A B).length - (intOf i).toNat)
      case atStart => exact ⟨0, Nat.zero_le _, rfl, Hb⟩
      case round =>
        obtain ⟨m, hm, rfl, Hb⟩ := hrel
        by_cases hlt : m < (meetL A B).length
        · have r1 := rowUp RM.out Hb.out
          obtain ⟨g1, f1, rfl, hg1, _⟩ := r1.at (by rw [svt_length]; omega)
          have cc := r1.cell m _ (svt_at (meetL A B) m hlt)
          have hm0 : (m : Int) < ((meetL A B).length : Int) := by omega
          have hm1 : (0 : Int) ≤ (m : Int) := by omega
          have Hh := Lib.hid (packHas_any _ A (meetL A B)[m] wr.heap.size wr (Nat.le_refl _) (rowUp RA5.out Hb.out) _ rfl)
          have Hk := Lib.hid (fun (W : World) (h : Below w5.heap.size w5 W) => packHas_any _ B (meetL A B)[m] W.heap.size W (Nat.le_refl _) (rowUp RB5.out h) _ rfl)
          have H1 := Lib.hid (meet_has1 A B _ (List.getElem_mem hlt)); have H2 := Lib.hid (meet_has2 A B _ (List.getElem_mem hlt))
          clear r1
          generalize (meetL A B)[m] = x at *
          go_wp2_with fail
          refine (Hh.out).mono ?_
          rintro e w' ⟨rfl, b'⟩
          rw [H1.out]
          have cc' := (b'.cell (p := ⟨g1, f1 + m, none⟩) hg1).trans cc
          have Hb2 := Lib.hid (stepB Hb.out b')
          clear b'
          go_wp2_with fail
          refine (Hk.out _ Hb2.out).mono ?_
          rintro e w'' ⟨rfl, b''⟩
          rw [H2.out]
          have Hb3 := Lib.hid (stepB Hb2.out b'')
          clear b''
          go_wp2_with fail
          go_roundw
          case rel => exact ⟨m + 1, hlt, by go_num, Hb3⟩
          case measure => simp [intOf]; omega
        · obtain rfl : m = (meetL A B).length := by omega
          have h10 : ∀ l : List Tx, (∀ x ∈ l, x.length ≤ 10) → ∀ x ∈ l, x.length ≤ 1000 := fun l h x hx => Nat.le_trans (h x hx) (by omega)
          have EJ := Lib.hid (joinL_each A B 10 EA.out EB.out)
          have H10 := Lib.hid h10
          have LAC := Lib.hid (catL_len A C n); have LBC := Lib.hid (catL_len B C n)
          have hm1 : A.length * C.length ≤ 900 := Nat.mul_le_mul LA.out LC.out
          have hm2 : B.length * C.length ≤ 900 := Nat.mul_le_mul LB.out LC.out
          have M1 := Lib.hid hm1; have M2 := Lib.hid hm2
          have F0 := Lib.hid (Below.refl wr.heap.size wr)
          have CO := Lib.hid (cat_over A B C (n : Int))
          have LJC := Lib.hid (joinL_len (catL A C n) (catL B C n))
          clear h10 hm1 hm2
          go_wp2_with fail
          refine (packCat_any _ _ (joinL A B) C (n : Int) wr.heap.size wr.heap.size wr (Nat.le_refl _) (Nat.le_refl _) (rowUp RJ.out Hb.out) (rowUp RC5.out Hb.out) (by have := LJ.out; have := LA.out; have := LB.out; omega) (by have := LC.out; omega) (H10.out _ EJ.out) (H10.out _ EC.out) (by omega)).mono ?_
          rintro e u1 ⟨z1, rfl, p1, d1⟩
          rw [CO.out] at p1
          have F1 := Lib.hid (stepB F0.out d1)
          have Z1 := Lib.hid (Row.of_owns p1)
          clear p1 d1
          go_wp2_with fail
          refine (packCat_any _ _ A C (n : Int) u1.heap.size u1.heap.size u1 (Nat.le_refl _) (Nat.le_refl _) (rowUp (rowUp RA5.out Hb.out) F1.out) (rowUp (rowUp RC5.out Hb.out) F1.out) (by have := LA.out; omega) (by have := LC.out; omega) (H10.out _ EA.out) (H10.out _ EC.out) (by omega)).mono ?_
          rintro e u2 ⟨z2, rfl, p2, d2⟩
          have F2 := Lib.hid (stepB F1.out d2)
          have Z12 := Lib.hid (rowUp Z1.out d2)
          have Z2 := Lib.hid (Row.of_owns p2)
          clear p2 d2 Z1
          go_wp2_with fail
          refine (packCat_any _ _ B C (n : Int) u2.heap.size u2.heap.size u2 (Nat.le_refl _) (Nat.le_refl _) (rowUp (rowUp RB5.out Hb.out) F2.out) (rowUp (rowUp RC5.out Hb.out) F2.out) (by have := LB.out; omega) (by have := LC.out; omega) (H10.out _ EB.out) (H10.out _ EC.out) (by omega)).mono ?_
          rintro e u3 ⟨z3, rfl, p3, d3⟩
          have F3 := Lib.hid (stepB F2.out d3)
          have Z13 := Lib.hid (rowUp Z12.out d3)
          have Z23 := Lib.hid (rowUp Z2.out d3)
          have Z3 := Lib.hid (Row.of_owns p3)
          clear p3 d3 Z12 Z2
          go_wp2_with fail
          refine (packJoin_any _ _ (catL A C n) (catL B C n) u3.heap.size u3.heap.size u3 (Nat.le_refl _) (Nat.le_refl _) Z23.out Z3.out (by have := LAC.out; have := M1.out; omega) (by have := LBC.out; have := M2.out; omega)).mono ?_
          rintro e u4 ⟨z4, rfl, p4, d4⟩
          have F4 := Lib.hid (stepB F3.out d4)
          have Z14 := Lib.hid (rowUp Z13.out d4)
          have Z4 := Lib.hid (Row.of_owns p4)
          clear p4 d4 Z13 Z23 Z3
          have hbig : (joinL (catL A C n) (catL B C n)).length ≤ 100000 := by have := LJC.out; have := LAC.out; have := LBC.out; have := M1.out; have := M2.out; omega
          have Hbig := Lib.hid hbig
          clear hbig
          go_wp2_with fail
          refine (packSame_any _ _ (joinL (catL A C n) (catL B C n)) (joinL (catL A C n) (catL B C n)) u4.heap.size u4.heap.size u4 (Nat.le_refl _) (Nat.le_refl _) Z14.out Z4.out Hbig.out Hbig.out).mono ?_
          rintro e u5 ⟨rfl, d5⟩
          rw [decide_eq_true rfl]
          have FF := Lib.hid (CC.out.trans ((Hb.out.trans ((stepB F4.out d5).mono Hb.out.size)).mono CC.out.size))
          clear d5
          go_wp2_with fail
          go_ret
          exact ⟨rfl, FF.out⟩
theorem u8_of_wfP {a : Int} (h : (Lit.int .u8 a).wf = true) : 0 ≤ a ∧ a ≤ 255 := by
  simpa [Lit.wf, IntKind.min, IntKind.max, IntKind.signed, IntKind.bits] using h
set_option maxRecDepth 100000 in
theorem packLaws_law {H : Type} {base : Nat} (enc : TypeId × Value → H) (W : World)
    (v0 : Value) (d0 : DataW H) (p0 : List MemPlace) (k0 : Value.okWide Try.prog W .any base 22 v0) (h0 : DataW.Trod enc Try.prog W 0 (fun _ => true) true 22 v0 d0 p0)
    (v1 : Value) (d1 : DataW H) (p1 : List MemPlace) (k1 : Value.okWide Try.prog W .any base 22 v1) (h1 : DataW.Trod enc Try.prog W 0 (fun _ => true) true 22 v1 d1 p1)
    (v2 : Value) (d2 : DataW H) (p2 : List MemPlace) (k2 : Value.okWide Try.prog W .any base 22 v2) (h2 : DataW.Trod enc Try.prog W 0 (fun _ => true) true 22 v2 d2 p2)
    (a3 : Int) (w3 : (Lit.int .u8 a3).wf = true) :
    Calls Try.prog 5 #[v0, v1, v2, .int .u8 a3] W fun e w' => e = .returned (.bool true) ∧ Below W.heap.size W w' := by
  obtain ⟨la, r0, ha⟩ := rowOfTx Try.underlying22 Try.underlying9 (by kernel_rfl) (Go.WideShapes.okWide_slice Try.underlying22 k0) h0
  obtain ⟨lb, r1, hb⟩ := rowOfTx Try.underlying22 Try.underlying9 (by kernel_rfl) (Go.WideShapes.okWide_slice Try.underlying22 k1) h1
  obtain ⟨lc, r2, hc⟩ := rowOfTx Try.underlying22 Try.underlying9 (by kernel_rfl) (Go.WideShapes.okWide_slice Try.underlying22 k2) h2
  exact packLaws_walk v0 v1 v2 la lb lc a3 (u8_of_wfP w3) W r0 r1 r2 ha hb hc
end Go.Proofs.Ytbmaappambmhoaa
