/-
  The look of first.grower.grow: its walk.
-/
import Derived.Test.YtimgnbacgdmiiaaFirF
import Derived.Test.YtimgnbacgdmiiaaKPackH
namespace Go.Proofs.Ytimgnbacgdmiiaa
open Go.RowKit PK
set_option linter.unusedVariables false
set_option linter.unusedSimpArgs false
attribute [local go_sem ↓] append_appM

/-- What is known of rules that may be, for a look. -/
structure LookOk (b : Bn) (k : Int) (most N : Nat) : Prop where
  ok : ∀ p ∈ b.l, prOk b p = true
  tk : b.toks ≤ 60
  k1 : 1 ≤ k ∧ k ≤ 4
  m1 : most ≤ 600
  n1 : b.of.length = N ∧ 1 ≤ N ∧ N ≤ 500
  l1 : b.l.length ≤ 2000
theorem prOk_tok {b : Bn} {p : Pr} (h : prOk b p = true) {s : Sy} (hs : s ∈ p.right) (ht : s.tok = true) : 1 ≤ s.n ∧ s.n ≤ b.toks := by
  unfold prOk at h; simp only [Bool.and_eq_true, List.all_eq_true] at h
  have := h.2 s hs
  unfold symOk at this
  rw [ht] at this
  simpa using this
def LookP (b : Bn) (k : Int) (most N s0 gb gs gr ge kb g B : Nat) (tk lk : Int) (ov lv : Value) (W : World) (S : Sts) (P : Nat → Prop) (i : Nat) (e : Ending) (W' : World) : Prop :=
  (e = .returned (.tuple #[.int .i64 (lookG b k most (some S) i).2, .bool true]) ∧ (∃ P', JG b k most N s0 gb gs gr ge kb g B tk lk ov lv W' (lookG b k most (some S) i).1 P' ∧ ∀ q, P' q → (P q ∨ W.heap.size ≤ q) ∧ q < W'.heap.size) ∧ KB W.heap.size g W W') ∨ (∃ x, e = .returned (.tuple #[.int .i64 x, .bool false]) ∧ QG b k most g ge W W')
theorem QG.made {b : Bn} {k : Int} {most g ge : Nat} {W W3 : World} (h : W3.heap[ge]? = some (.cells #[.int .i64 0] 28 (0, 0))) (hb : Below W.heap.size W W3) (hS : ∃ S, Sound b k S ∧ Over b k most S) : QG b k most g ge W (W3.setCell ⟨ge, 0, none⟩ (.int .i64 15)) := by
  refine ⟨?_, hS, hb.os, hb.tape, hb.output, by simpa [World.setCell] using hb.size, fun q hq _ hne => ?_⟩
  · rw [cell_of_row _ ge _ _ _ (0, 0) (ptr_set h 0 _)]; rfl
  · rw [Below.heap_setCell _ _ _ _ hne]; exact hb.block q hq
set_option maxHeartbeats 4000000 in
set_option maxRecDepth 100000 in
theorem look_any (b : Bn) (k : Int) (most N s0 gb gs gr ge kb g B : Nat) (tk lk : Int) (ov lv : Value) (W : World) (X : List (Value × List Tx)) (P : Nat → Prop) (i : Nat) (hi : i < b.l.length) (hL : LookOk b k most N) (hI : InvS b k most (X.map (·.2))) (hG : GSt W b k most N s0 gb gs gr ge kb g B tk lk ov lv X P) (hP : ∀ q, P q → q < W.heap.size) :
    Calls Try.prog 65 #[.int .i64 (i : Nat), .pointer (some ⟨gb, 0, none⟩), .pointer (some ⟨gs, 0, none⟩), .pointer (some ⟨gr, 0, none⟩), .pointer (some ⟨ge, 0, none⟩)] W (LookP b k most N s0 gb gs gr ge kb g B tk lk ov lv W (X.map (·.2)) P i) := by
  obtain ⟨la, lc, rfl, hl1, hl2⟩ := hG.bx.r.l.val
  obtain ⟨l1, l2, l3, l4, l5, l6, l7, l8⟩ := hG.lt
  obtain ⟨n1, n2, n3, n4, n5, n6⟩ := hG.ne
  obtain ⟨hN0, hN1, hN2⟩ := hL.n1
  have c3 := hG.bx.c3
  obtain ⟨b1, o1, a1, d1, hao, hbb, e0, e1, rk, m1, m2⟩ := hG.bx.r.l.get i hi
  subst hao
  have hat : b.l[i]? = some b.l[i] := List.getElem?_eq_getElem hi
  have hpm : b.l[i] ∈ b.l := List.getElem_mem hi
  have hlk := lookG_at (b := b) (k := k) (most := most) (S := X.map (·.2)) hat
  generalize b.l[i] = p at *
  obtain ⟨x, rt⟩ := p
  simp only at e0 e1 rk m1 hlk
  have hpo := hL.ok _ hpm
  obtain ⟨hp1, hp2⟩ := prOk_left hpo
  simp only at hp1 hp2
  have hps : ∀ s ∈ rt, (s.tok = true → 0 ≤ s.n ∧ s.n ≤ 255) ∧ (s.tok = false → 0 ≤ s.n ∧ s.n < N) := fun s hs => ⟨fun ht => by have := prOk_tok hpo hs ht; have := hL.tk; omega, fun ht => by have := prOk_sym hpo hs ht; omega⟩
  obtain ⟨q, rfl⟩ : ∃ q : Nat, x = (q : Int) := ⟨x.toNat, by omega⟩
  have hq : q < N := by omega
  have hqX : q < X.length := by rw [hG.len]; exact hq
  have hstq : stAt (X.map (·.2)) (q : Int) = X[q].2 := by
    rw [stAt_nat _ q (by rw [List.length_map]; exact hqX), List.getElem_map]
  have hbs := (Below.refl W.heap.size W).alloc (Nat.le_refl _) (.cells #[.int .i64 (q : Int), .slice a1 rt.length d1] 57)
  have hx0 : (W.alloc (.cells #[.int .i64 (q : Int), .slice a1 rt.length d1] 57)).cell? ⟨W.heap.size, 0, none⟩ = some (.int .i64 (q : Int)) := cell_new W _ _ 0 _ rfl
  have hx1 : (W.alloc (.cells #[.int .i64 (q : Int), .slice a1 rt.length d1] 57)).cell? ⟨W.heap.size, 1, none⟩ = some (.slice a1 rt.length d1) := cell_new W _ _ 1 _ rfl
  have hs1 : (W.alloc (.cells #[.int .i64 (q : Int), .slice a1 rt.length d1] 57)).heap.size = W.heap.size + 1 := by simp
  have hG1 := hG.below hbs
  have hSO : SOk k (X.map (·.2)) := fun a ha => ⟨hI.sound.set a ha, hI.le a ha, Nat.le_trans (hI.few a ha) hL.m1⟩
  have hrow := rowOf_any rt (.slice a1 rt.length d1) k kb g N N most (X.map (·.2)) B _ (Row.below rk (hbs.mono hG.bx.le)) hG1.bx.le (hG1.sets hN1) hG1.kx (by have := hG1.lt; omega) hL.k1 hL.m1 hSO hps (by omega)
  have hfew : (stAt (X.map (·.2)) (q : Int)).length ≤ 600 := Nat.le_trans (stAt_few _ hI.few) hL.m1
  have HG1 := Lib.hid hG1; have Hrow := Lib.hid hrow; have Hlk := Lib.hid hlk; have HI := Lib.hid hI; have HL := Lib.hid hL; have HP := Lib.hid hP; have Hpm := Lib.hid hpm; have Hst := Lib.hid hstq; have Hbs := Lib.hid hbs; have Hs1 := Lib.hid hs1; have Hq := Lib.hid hq; have Hgw := Lib.hid (show g < W.heap.size by omega)
  have hi1 : (i : Int) < (b.l.length : Int) := by omega
  have hi2 : (0 : Int) ≤ (i : Int) := by omega
  obtain ⟨ll, hll⟩ : ∃ ll, ll = b.l.length := ⟨_, rfl⟩
  rw [← hll] at hi1 c3
  obtain ⟨rn, hrn⟩ : ∃ rn, rn = rt.length := ⟨_, rfl⟩
  rw [← hrn] at e1 hx0 hx1 HG1 Hrow Hbs Hs1
  clear hG hL hI hP hpm hlk hpo hps hat rk m1 m2 hG1 hrow hSO hbs hs1 hl1 hl2 hN0 hll hrn hi
  go_enter Try.func65, Try.ntmps65
  go_upto_region 2 with fail
  generalize W.alloc (.cells #[.int .i64 (q : Int), .slice a1 rn d1] 57) = W1 at *
  clear c3 e0 e1
  have hsx := HG1.out.sx; have hr0 := HG1.out.r0; have hr1 := HG1.out.r1
  go_wp2_with fail
  refine (Hrow.out).mono ?_
  rintro e W2 ⟨hor, hb2⟩
  have hG2 := HG1.out.below hb2
  have hx02 := (hb2.cell (p := ⟨W.heap.size, 0, none⟩) (by rw [Hs1.out]; exact Nat.lt_succ_self _)).trans hx0
  have hx12 := hx1
  have HG2 := Lib.hid hG2
  have HB2 := Lib.hid (Hbs.out.trans (hb2.mono Hbs.out.size))
  have Hlt2 : Hid (W.heap.size < W2.heap.size) := Lib.hid (by have := hb2.size; have := Hs1.out; omega)
  have hqX : q < X.length := by rw [hG2.len]; exact Hq.out
  obtain ⟨g', hv, _, _, hcl, _⟩ := owns_cellN hG2.out (Nat.lt_of_le_of_lt (Nat.zero_le _) Hq.out)
  simp only [Option.some.injEq, Addr.mk.injEq, and_true] at hv
  subst hv
  have hcq : W2.cell? ⟨g, q, none⟩ = some X[q].1 := hcl q _ (by rw [List.getElem?_map, List.getElem?_eq_getElem hqX]; rfl)
  have hrq := Row.of_owns (hG2.each _ (List.getElem_mem hqX))
  rw [← hstq] at hrq
  obtain ⟨xa, xc, hxv, _, _⟩ := hrq.val
  rw [hxv] at hcq hrq
  have Hrq := Lib.hid hrq
  obtain ⟨S, hS⟩ : ∃ S, S = X.map (·.2) := ⟨_, rfl⟩
  rw [← hS] at hor Hlk HI Hst Hrq hfew hcq
  have HS := Lib.hid hS
  have hq1 : (q : Int) < (N : Int) := by have := Hq.out; omega
  have hq2 : (0 : Int) ≤ (q : Int) := by omega
  have hsx2 := hG2.sx; have hr02 := hG2.r0; have hr12 := hG2.r1
  have hjoin := Lib.hid (fun (lv : Value) (r : List Tx) (hr : Row W2 W2.heap.size 1 lv r.length (svt r)) (hn : r.length ≤ 100000) => packJoin_any (.slice xa (stAt S (q : Int)).length xc) lv (stAt S (q : Int)) r W2.heap.size W2.heap.size W2 (Nat.le_refl _) (Nat.le_refl _) Hrq.out hr (by omega) hn)
  obtain ⟨an, han⟩ : ∃ an, an = (stAt S (q : Int)).length := ⟨_, rfl⟩
  rw [← han] at hjoin hcq
  have Han := Lib.hid han
  have hm63 : (most : Int) ≤ 1000 := by have := HL.out.m1; omega
  clear hG2 hb2 hcl hrq hxv hqX hS Hrq han hfew hx0 hsx hr0 hr1 Hrow HG1 hstq Hst l8
  rcases hor with ⟨hno, v2, rfl, hr2⟩ | ⟨hov, rfl⟩
  · obtain ⟨a2, c2, rfl, _, _⟩ := hr2.val
    have hrn : (rowS k S rt).length ≤ 100000 := by
      rcases List.eq_nil_or_concat rt with rfl | ⟨r', s', rfl⟩
      · show ([[]] : List Tx).length ≤ 100000; simp
      · have h1 : ¬ most < (rowS k S ((r'.concat s').take (r'.length + 1))).length := fun h => hno ⟨r'.length, by simp, h⟩
        rw [List.take_of_length_le (by simp)] at h1
        have := HL.out.m1; omega
    have Hj := Lib.hid (hjoin.out _ _ hr2 hrn)
    have hovB : overB k most S rt = false := (overB_not _ _ _ _).2 hno
    have hlk2 := Hlk.out
    rw [hovB] at hlk2
    simp only [Bool.false_eq_true, false_or, Int.toNat_natCast] at hlk2
    have HPt := Lib.hid (fun h => HI.out.put HL.out.ok (by have := HL.out.k1; omega) ⟨(q : Int), rt⟩ Hpm.out h)
    have HOv : Hid (most < (joinL (stAt S (q : Int)) (rowS k S rt)).length → Over b k most S) := Lib.hid fun h => ⟨_, Hpm.out, .inr h⟩
    obtain ⟨r2, hr2e⟩ : ∃ r2, r2 = rowS k S rt := ⟨_, rfl⟩
    rw [← hr2e] at Hj HOv HPt hlk2
    obtain ⟨A, hA⟩ : ∃ A, A = joinL (stAt S (q : Int)) r2 := ⟨_, rfl⟩
    rw [← hA] at Hj HOv HPt hlk2
    have Hlk2 := Lib.hid hlk2
    rw [show (rowS k S rt).length = r2.length by rw [hr2e]]
    generalize r2.length = r2n at *
    clear hr2 hno hovB hrn hlk2 hjoin Hlk hA hr2e
    go_wp2_with fail
    refine (Hj.out).mono ?_
    rintro e W3 ⟨v3, rfl, own3, hb3⟩
    obtain ⟨a3, c3, rfl, _, _⟩ := owns_valPK own3
    have hG3 := HG2.out.below hb3
    have HG3 := Lib.hid hG3
    have Hown3 := Lib.hid own3
    have HB3 := Lib.hid (HB2.out.trans (hb3.mono HB2.out.size))
    have Hsz3 := Lib.hid (Nat.le_trans HB2.out.size hb3.size)
    have Hs2 := Lib.hid (HB2.out.size)
    have hx03 := (hb3.cell (p := ⟨W.heap.size, 0, none⟩) Hlt2.out).trans hx02
    have hcq3 := (hb3.cell (p := ⟨g, q, none⟩) (by have := HG2.out.lt; show g < _; omega)).trans hcq
    have hfq3 : W3.frozen? ⟨g, q, none⟩ = false := by
      obtain ⟨g', hv, _, _, _, hf⟩ := owns_cellN hG3.out (Nat.lt_of_le_of_lt (Nat.zero_le _) Hq.out)
      simp only [Option.some.injEq, Addr.mk.injEq, and_true] at hv
      subst hv; exact hf q
    have hsx3 := hG3.sx; have hr13 := hG3.r1
    have hex : W3.cell? ⟨ge, 0, none⟩ = some (.int .i64 0) := by rw [cell_of_row W3 ge _ _ _ (0, 0) hG3.ex]; rfl
    have hef : W3.frozen? ⟨ge, 0, none⟩ = false := by simp [World.frozen?, hG3.ex]
    obtain ⟨gn, hgn⟩ : ∃ gn, gn = A.length := ⟨_, rfl⟩
    rw [← hgn] at Hown3 HOv HPt Hlk2 ⊢
    have Hgn := Lib.hid hgn
    have hgl : g < W3.heap.size := by have := hG3.lt; omega
    have hgel : ge < W3.heap.size := by have := hG3.lt; omega
    clear hb3 own3 hG3 hcq hsx2 hr02 hr12 hx02 Hj hgn HB2
    by_cases hov : most < gn
    · have q1 : decide (most < gn) = true := decide_eq_true hov
      have q2 : decide ((most : Int) < (gn : Int)) = true := decide_eq_true (by omega)
      have HE : Hid (LookP b k most N s0 gb gs gr ge kb g B tk lk ov (.slice (some ⟨b1, o1, none⟩) b.l.length lc) W (X.map (·.2)) P i (.returned (.tuple #[.int .i64 (-1), .bool false])) (W3.setCell ⟨ge, 0, none⟩ (.int .i64 15))) := Lib.hid (.inr ⟨_, rfl, QG.made HG3.out.ex HB3.out ⟨S, HI.out.sound, HOv.out hov⟩⟩)
      clear hov
      go_wp2_with fail
      go_ret2
      exact HE.out
    · have q1 : decide (most < gn) = false := decide_eq_false hov
      have q2 : decide ((most : Int) < (gn : Int)) = false := decide_eq_false (by omega)
      have hl3 := Hlk2.out
      rw [if_neg hov] at hl3
      by_cases hsm : gn = an
      · have q3 : ((gn : Int) == (an : Int)) = true := by simp [hsm]
        have q4 : (gn == an) = true := by simp [hsm]
        have q5 : decide (gn = an) = true := decide_eq_true hsm
        rw [if_pos (hsm.trans Han.out)] at hl3
        have HE : Hid (LookP b k most N s0 gb gs gr ge kb g B tk lk ov (.slice (some ⟨b1, o1, none⟩) b.l.length lc) W (X.map (·.2)) P i (.returned (.tuple #[.int .i64 (-1), .bool true])) W3) := Lib.hid (by
          have hl4 := hl3
          rw [HS.out] at hl4
          refine .inl ⟨by rw [hl4], ⟨P, ?_, fun z hz => ⟨.inl hz, Nat.lt_of_lt_of_le (HP.out z hz) HB3.out.size⟩⟩, KB.of_below HB3.out⟩
          rw [hl4]; exact ⟨X, rfl, HG3.out⟩)
        clear hov hl3 Hlk2
        subst hsm
        go_wp2_with fail
        go_ret2
        exact HE.out
      · have q3 : ((gn : Int) == (an : Int)) = false := by rw [beq_eq_false_iff_ne]; omega
        have q4 : (gn == an) = false := by rw [beq_eq_false_iff_ne]; exact hsm
        have q5 : decide (gn = an) = false := decide_eq_false hsm
        rw [if_neg (fun h => hsm (h.trans Han.out.symm))] at hl3
        have hgl' := HG3.out.lt
        have hput := HG3.out.put q Hq.out (.slice a3 gn c3) A W2.heap.size (by rw [← Hgn.out]; exact Hown3.out) (by have := HG2.out.lt; omega)
        have HE : Hid (LookP b k most N s0 gb gs gr ge kb g B tk lk ov (.slice (some ⟨b1, o1, none⟩) b.l.length lc) W (X.map (·.2)) P i (.returned (.tuple #[.int .i64 (q : Int), .bool true])) (W3.setCell ⟨g, q, none⟩ (.slice a3 gn c3))) := Lib.hid (by
          have hl4 := hl3
          rw [HS.out] at hl4
          refine .inl ⟨by rw [hl4], ⟨fun z => P z ∨ (Value.slice a3 gn c3).ownBlock = some z, ?_, fun z hz => ?_⟩, KB.setCell (KB.of_below HB3.out) (p := ⟨g, q, none⟩) (.inr rfl) _⟩
          · rw [hl4]; exact ⟨X.set q (.slice a3 gn c3, A), by rw [List.map_set], hput⟩
          · have hs : (W3.setCell ⟨g, q, none⟩ (.slice a3 gn c3)).heap.size = W3.heap.size := by simp [World.setCell]
            rw [hs]
            rcases hz with h1 | h1
            · exact ⟨.inl h1, Nat.lt_of_lt_of_le (HP.out z h1) HB3.out.size⟩
            · have h2 := Hown3.out.lt z h1
              exact ⟨.inr (Nat.le_trans Hs2.out h2.1), h2.2⟩)
        have hx04 : (W3.setCell ⟨g, q, none⟩ (.slice a3 gn c3)).cell? ⟨W.heap.size, 0, none⟩ = some (.int .i64 (q : Int)) := (cell_eq (p := ⟨W.heap.size, 0, none⟩) (Below.heap_setCell _ _ _ _ (by have := Hgw.out; show W.heap.size ≠ g; omega))).trans hx03
        clear hov hl3 Hlk2 hput hgl' hsm
        go_wp2_with fail
        go_ret2
        exact HE.out
  · have Hj := Lib.hid (hjoin.out (.slice none 0 0) [] (Row.of_owns (World.ownsRow_nil W2 0 9 1)) (by simp))
    have HOv : Hid (Over b k most S) := Lib.hid ⟨_, Hpm.out, .inl hov⟩
    obtain ⟨A, hA⟩ : ∃ A, A = joinL (stAt S (q : Int)) [] := ⟨_, rfl⟩
    rw [← hA] at Hj
    clear hov hjoin Hlk hA
    go_wp2_with fail
    refine (Hj.out).mono ?_
    rintro e W3 ⟨v3, rfl, own3, hb3⟩
    obtain ⟨a3, c3, rfl, _, _⟩ := owns_valPK own3
    have hG3 := HG2.out.below hb3
    have HG3 := Lib.hid hG3
    have HB3 := Lib.hid (HB2.out.trans (hb3.mono HB2.out.size))
    have hex : W3.cell? ⟨ge, 0, none⟩ = some (.int .i64 0) := by rw [cell_of_row W3 ge _ _ _ (0, 0) hG3.ex]; rfl
    have hef : W3.frozen? ⟨ge, 0, none⟩ = false := by simp [World.frozen?, hG3.ex]
    have hgel : ge < W3.heap.size := by have := hG3.lt; omega
    have HE : Hid (LookP b k most N s0 gb gs gr ge kb g B tk lk ov (.slice (some ⟨b1, o1, none⟩) b.l.length lc) W (X.map (·.2)) P i (.returned (.tuple #[.int .i64 (-1), .bool false])) (W3.setCell ⟨ge, 0, none⟩ (.int .i64 15))) := Lib.hid (.inr ⟨_, rfl, QG.made HG3.out.ex HB3.out ⟨S, HI.out.sound, HOv.out⟩⟩)
    clear hb3 own3 hG3 hcq hsx2 hr02 hr12 hx02 Hj HB2
    generalize A.length = gn at *
    go_wp2_with fail
    go_ret2
    exact HE.out
end Go.Proofs.Ytimgnbacgdmiiaa
