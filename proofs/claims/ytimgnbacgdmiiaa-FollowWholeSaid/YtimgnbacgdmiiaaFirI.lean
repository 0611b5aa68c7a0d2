/-
  The look of first.grower.grow, in memory.
  The look of first.grower.grow: its walk.
  first.grower.grow.
  row.Ahead, first.Of.
-/
import Derived.Test.YtimgnbacgdmiiaaFirE
import Derived.Test.YtimgnbacgdmiiaaKPackH
import Derived.Test.YtimgnbacgdmiiaaAskB
import Derived.Test.YtimgnbacgdmiiaaRegT
namespace Go.Proofs.Ytimgnbacgdmiiaa
open Go.RowKit PK
set_option linter.unusedVariables false
set_option linter.unusedSimpArgs false
attribute [local go_sem ↓] append_appM

/-- What the look holds on to: boxes, the row of sets, each set's row. -/
structure GSt (W : World) (b : Bn) (k : Int) (most N s0 gb gs gr ge kb g B : Nat) (tk lk : Int) (ov lv : Value) (X : List (Value × List Tx)) (P : Nat → Prop) : Prop where
  bx : BoxB W gb B tk lk ov lv b
  sx : W.cell? ⟨gs, 0, none⟩ = some (.slice (some ⟨g, 0, none⟩) N N)
  r0 : W.cell? ⟨gr, 0, none⟩ = some (.func (.func 60) #[] #[.pointer (some ⟨kb, 0, none⟩)])
  r1 : W.cell? ⟨gr, 1, none⟩ = some (.int .i64 (most : Nat))
  ex : W.heap[ge]? = some (.cells #[.int .i64 0] 28 (0, 0))
  kx : W.cell? ⟨kb, 0, none⟩ = some (.int .i64 k)
  lt : gs < s0 ∧ gr < s0 ∧ ge < s0 ∧ kb < s0 ∧ gb < s0 ∧ g < s0 ∧ B ≤ s0 ∧ s0 ≤ W.heap.size
  ne : g ≠ gs ∧ g ≠ gr ∧ g ≠ ge ∧ g ≠ kb ∧ g ≠ gb ∧ B ≤ g
  out : W.ownsRow 0 32 1 (.slice (some ⟨g, 0, none⟩) N N) N (X.map (·.1))
  len : X.length = N
  each : ∀ x ∈ X, W.ownsRow 0 9 1 x.1 x.2.length (svt x.2)
  ap : ∀ x ∈ X, ∀ q, x.1.ownBlock = some q → q ≠ g ∧ (q < s0 ∨ P q)
theorem KP.cell {n : Nat} {P : Nat → Prop} {W W' : World} (h : KP n P W W') {p : Addr} (h1 : p.block < n) (h2 : n ≤ W.heap.size) : W'.cell? p = W.cell? p := cell_eq (h.block _ (by omega) (.inl h1))
theorem KP.frozen {n : Nat} {P : Nat → Prop} {W W' : World} (h : KP n P W W') {p : Addr} (h1 : p.block < n) (h2 : n ≤ W.heap.size) : W'.frozen? p = W.frozen? p := frozen_eq (h.block _ (by omega) (.inl h1))
theorem KP.low {n m : Nat} {P : Nat → Prop} {W W' : World} (h : KP n P W W') (h1 : m ≤ n) (h2 : n ≤ W.heap.size) : Below m W W' := ⟨h.os, h.tape, h.output, h.size, fun k hk => h.block k (by omega) (.inl (by omega))⟩
theorem KP.of_below {n : Nat} {P : Nat → Prop} {W W' : World} (h : Below W.heap.size W W') : KP n P W W' := ⟨h.os, h.tape, h.output, h.size, fun k hk _ => h.block k hk⟩
theorem GSt.keep {W W' : World} {b : Bn} {k : Int} {most N s0 gb gs gr ge kb g B : Nat} {tk lk : Int} {ov lv : Value} {X : List (Value × List Tx)} {P : Nat → Prop} (h : GSt W b k most N s0 gb gs gr ge kb g B tk lk ov lv X P) (hk : KP s0 P W W') : GSt W' b k most N s0 gb gs gr ge kb g B tk lk ov lv X P := by
  obtain ⟨l1, l2, l3, l4, l5, l6, l7, l8⟩ := h.lt
  have hgb : gb < W.heap.size := by omega
  refine ⟨⟨(hk.cell (p := ⟨gb, 0, none⟩) l5 l8).trans h.bx.c0, (hk.cell (p := ⟨gb, 1, none⟩) l5 l8).trans h.bx.c1, (hk.cell (p := ⟨gb, 2, none⟩) l5 l8).trans h.bx.c2, (hk.cell (p := ⟨gb, 3, none⟩) l5 l8).trans h.bx.c3, Nat.lt_of_lt_of_le hgb hk.size, by have := hk.size; omega, h.bx.r.below (hk.low l7 l8)⟩, (hk.cell (p := ⟨gs, 0, none⟩) l1 l8).trans h.sx, (hk.cell (p := ⟨gr, 0, none⟩) l2 l8).trans h.r0, (hk.cell (p := ⟨gr, 1, none⟩) l2 l8).trans h.r1, (hk.block ge (by omega) (.inl l3)).trans h.ex, (hk.cell (p := ⟨kb, 0, none⟩) l4 l8).trans h.kx, ⟨l1, l2, l3, l4, l5, l6, l7, Nat.le_trans l8 hk.size⟩, h.ne, ?_, h.len, fun x hx => ?_, h.ap⟩
  · refine owns_blockN h.out fun q e => hk.block q ?_ (.inl ?_)
    · have e2 : g = q := by have := Option.some.inj e; exact this
      omega
    · have e2 : g = q := by have := Option.some.inj e; exact this
      omega
  · exact owns_blockN (h.each x hx) fun q e => hk.block q ((h.each x hx).lt q e).2 (h.ap x hx q e).2
theorem GSt.below {W W' : World} {b : Bn} {k : Int} {most N s0 gb gs gr ge kb g B : Nat} {tk lk : Int} {ov lv : Value} {X : List (Value × List Tx)} {P : Nat → Prop} (h : GSt W b k most N s0 gb gs gr ge kb g B tk lk ov lv X P) (hb : Below W.heap.size W W') : GSt W' b k most N s0 gb gs gr ge kb g B tk lk ov lv X P := h.keep (KP.of_below hb)
theorem GSt.sets {W : World} {b : Bn} {k : Int} {most N s0 gb gs gr ge kb g B : Nat} {tk lk : Int} {ov lv : Value} {X : List (Value × List Tx)} {P : Nat → Prop} (h : GSt W b k most N s0 gb gs gr ge kb g B tk lk ov lv X P) (hN : 0 < N) : SetsR W g N N (X.map (·.2)) := by
  obtain ⟨l1, l2, l3, l4, l5, l6, l7, l8⟩ := h.lt
  refine ⟨by rw [List.length_map]; exact h.len, by omega, fun j hj => ?_⟩
  rw [List.length_map] at hj
  obtain ⟨g', hv, _, _, hc, _⟩ := owns_cellN h.out hN
  simp only [Option.some.injEq, Addr.mk.injEq, and_true] at hv
  subst hv
  refine ⟨X[j].1, hc j _ (by rw [List.getElem?_map, List.getElem?_eq_getElem hj]; rfl), ?_⟩
  rw [List.getElem_map]
  exact Row.of_owns (h.each _ (List.getElem_mem hj))
theorem GSt.put {W : World} {b : Bn} {k : Int} {most N s0 gb gs gr ge kb g B : Nat} {tk lk : Int} {ov lv : Value} {X : List (Value × List Tx)} {P : Nat → Prop} (h : GSt W b k most N s0 gb gs gr ge kb g B tk lk ov lv X P) (j : Nat) (hj : j < N) (v : Value) (l : List Tx) (n1 : Nat) (hv : W.ownsRow n1 9 1 v l.length (svt l)) (hn : g < n1) :
    GSt (W.setCell ⟨g, j, none⟩ v) b k most N s0 gb gs gr ge kb g B tk lk ov lv (X.set j (v, l)) (fun q => P q ∨ v.ownBlock = some q) := by
  obtain ⟨l1, l2, l3, l4, l5, l6, l7, l8⟩ := h.lt
  obtain ⟨n1', n2, n3, n4, n5, n6⟩ := h.ne
  have hs : (W.setCell ⟨g, j, none⟩ v).heap.size = W.heap.size := by simp [World.setCell]
  have hb : ∀ q, q ≠ g → (W.setCell ⟨g, j, none⟩ v).heap[q]? = W.heap[q]? := fun q hq => Below.heap_setCell _ _ _ _ hq
  have hB : Below B W (W.setCell ⟨g, j, none⟩ v) := (Below.refl B W).setCell (p := ⟨g, j, none⟩) n6 v
  have hc : ∀ (q i : Nat), q ≠ g → (W.setCell ⟨g, j, none⟩ v).cell? ⟨q, i, none⟩ = W.cell? ⟨q, i, none⟩ := fun q i hq => cell_eq (p := ⟨q, i, none⟩) (hb q hq)
  refine ⟨⟨(hc gb 0 (Ne.symm n5)).trans h.bx.c0, (hc gb 1 (Ne.symm n5)).trans h.bx.c1, (hc gb 2 (Ne.symm n5)).trans h.bx.c2, (hc gb 3 (Ne.symm n5)).trans h.bx.c3, by rw [hs]; omega, by rw [hs]; omega, h.bx.r.below hB⟩, (hc gs 0 (Ne.symm n1')).trans h.sx, (hc gr 0 (Ne.symm n2)).trans h.r0, (hc gr 1 (Ne.symm n2)).trans h.r1, (hb ge (Ne.symm n3)).trans h.ex, (hc kb 0 (Ne.symm n4)).trans h.kx, ⟨l1, l2, l3, l4, l5, l6, l7, by rw [hs]; exact l8⟩, h.ne, ?_, by rw [List.length_set]; exact h.len, fun x hx => ?_, fun x hx q e => ?_⟩
  · have e : (X.set j (v, l)).map (·.1) = (X.map (·.1)).set j v := by rw [List.map_set]
    rw [e]
    exact owns_setN h.out j (by rw [List.length_map, h.len]; exact hj) v
  · rcases List.mem_or_eq_of_mem_set hx with h1 | h1
    · exact owns_blockN (h.each x h1) fun q e => hb q (h.ap x h1 q e).1
    · subst h1
      exact owns_blockN (owns_baseP hv (Nat.zero_le _)) fun q e => hb q (by have := (hv.lt q e).1; omega)
  · rcases List.mem_or_eq_of_mem_set hx with h1 | h1
    · obtain ⟨h2, h3⟩ := h.ap x h1 q e
      exact ⟨h2, h3.elim .inl fun h4 => .inr (.inl h4)⟩
    · subst h1
      exact ⟨by have := (hv.lt q e).1; omega, .inr (.inr e)⟩
/-- The state that Settle keeps. -/
def JG (b : Bn) (k : Int) (most N s0 gb gs gr ge kb g B : Nat) (tk lk : Int) (ov lv : Value) (W : World) (st : Option Sts) (P : Nat → Prop) : Prop := match st with
  | none => False
  | some S => ∃ X, S = X.map (·.2) ∧ GSt W b k most N s0 gb gs gr ge kb g B tk lk ov lv X P
/-- What is so when a look has found too much. -/
def QG (b : Bn) (k : Int) (most g ge : Nat) (W W' : World) : Prop := W'.cell? ⟨ge, 0, none⟩ = some (.int .i64 15) ∧ (∃ S, Sound b k S ∧ Over b k most S) ∧ W'.os = W.os ∧ W'.tape = W.tape ∧ W'.output = W.output ∧ W.heap.size ≤ W'.heap.size ∧ ∀ q, q < W.heap.size → q ≠ g → q ≠ ge → W'.heap[q]? = W.heap[q]?
end Go.Proofs.Ytimgnbacgdmiiaa
namespace Go.Proofs.Ytimgnbacgdmiiaa
open Go.RowKit PK
set_option linter.unusedVariables false
set_option linter.unusedSimpArgs false
attribute [local go_sem ↓] append_appM

/-- What is known of rules that may be, for a look. -/
structure LookOk (b : Bn) (k : Int) (most N : Nat) : Prop where
  ok : ∀ p ∈ b.l, prOk b p = true
  tk : b.toks ≤ 60
  k1 : 1 ≤ k ∧ k ≤ 4
  m1 : most ≤ 600
  n1 : b.of.length = N ∧ 1 ≤ N ∧ N ≤ 500
  l1 : b.l.length ≤ 2000
theorem prOk_tok {b : Bn} {p : Pr} (h : prOk b p = true) {s : Sy} (hs : s ∈ p.right) (ht : s.tok = true) : 1 ≤ s.n ∧ s.n ≤ b.toks := by
  unfold prOk at h; simp only [Bool.and_eq_true, List.all_eq_true] at h
  have := h.2 s hs
  unfold symOk at this
  rw [ht] at this
  simpa using this
def LookP (b : Bn) (k : Int) (most N s0 gb gs gr ge kb g B : Nat) (tk lk : Int) (ov lv : Value) (W : World) (S : Sts) (P : Nat → Prop) (i : Nat) (e : Ending) (W' : World) : Prop :=
  (e = .returned (.tuple #[.int .i64 (lookG b k most (some S) i).2, .bool true]) ∧ (∃ P', JG b k most N s0 gb gs gr ge kb g B tk lk ov lv W' (lookG b k most (some S) i).1 P' ∧ ∀ q, P' q → (P q ∨ W.heap.size ≤ q) ∧ q < W'.heap.size) ∧ KB W.heap.size g W W') ∨ (∃ x, e = .returned (.tuple #[.int .i64 x, .bool false]) ∧ QG b k most g ge W W')
theorem QG.made {b : Bn} {k : Int} {most g ge : Nat} {W W3 : World} (h : W3.heap[ge]? = some (.cells #[.int .i64 0] 28 (0, 0))) (hb : Below W.heap.size W W3) (hS : ∃ S, Sound b k S ∧ Over b k most S) : QG b k most g ge W (W3.setCell ⟨ge, 0, none⟩ (.int .i64 15)) := by
  refine ⟨?_, hS, hb.os, hb.tape, hb.output, by simpa [World.setCell] using hb.size, fun q hq _ hne => ?_⟩
  · rw [cell_of_row _ ge _ _ _ (0, 0) (ptr_set h 0 _)]; rfl
  · rw [Below.heap_setCell _ _ _ _ hne]; exact hb.block q hq
set_option maxHeartbeats 4000000 in
set_option maxRecDepth 100000 in
theorem look_any (b : Bn) (k : Int) (most N s0 gb gs gr ge kb g B : Nat) (tk lk : Int) (ov lv : Value) (W : World) (X : List (Value × List Tx)) (P : Nat → Prop) (i : Nat) (hi : i < b.l.length) (hL : LookOk b k most N) (hI : InvS b k most (X.map (·.2))) (hG : GSt W b k most N s0 gb gs gr ge kb g B tk lk ov lv X P) (hP : ∀ q, P q → q < W.heap.size) :
    Calls Try.prog 65 #[.int .i64 (i : Nat), .pointer (some ⟨gb, 0, none⟩), .pointer (some ⟨gs, 0, none⟩), .pointer (some ⟨gr, 0, none⟩), .pointer (some ⟨ge, 0, none⟩)] W (LookP b k most N s0 gb gs gr ge kb g B tk lk ov lv W (X.map (·.2)) P i) := by
  obtain ⟨la, lc, rfl, hl1, hl2⟩ := hG.bx.r.l.val
  obtain ⟨l1, l2, l3, l4, l5, l6, l7, l8⟩ := hG.lt
  obtain ⟨n1, n2, n3, n4, n5, n6⟩ := hG.ne
  obtain ⟨hN0, hN1, hN2⟩ := hL.n1
  have c3 := hG.bx.c3
  obtain ⟨b1, o1, a1, d1, hao, hbb, e0, e1, rk, m1, m2⟩ := hG.bx.r.l.get i hi
  subst hao
  have hat : b.l[i]? = some b.l[i] := List.getElem?_eq_getElem hi
  have hpm : b.l[i] ∈ b.l := List.getElem_mem hi
  have hlk := lookG_at (b := b) (k := k) (most := most) (S := X.map (·.2)) hat
  generalize b.l[i] = p at *
  obtain ⟨x, rt⟩ := p
  simp only at e0 e1 rk m1 hlk
  have hpo := hL.ok _ hpm
  obtain ⟨hp1, hp2⟩ := prOk_left hpo
  simp only at hp1 hp2
  have hps : ∀ s ∈ rt, (s.tok = true → 0 ≤ s.n ∧ s.n ≤ 255) ∧ (s.tok = false → 0 ≤ s.n ∧ s.n < N) := fun s hs => ⟨fun ht => by have := prOk_tok hpo hs ht; have := hL.tk; omega, fun ht => by have := prOk_sym hpo hs ht; omega⟩
  obtain ⟨q, rfl⟩ : ∃ q : Nat, x = (q : Int) := ⟨x.toNat, by omega⟩
  have hq : q < N := by omega
  have hqX : q < X.length := by rw [hG.len]; exact hq
  have hstq : stAt (X.map (·.2)) (q : Int) = X[q].2 := by
    rw [stAt_nat _ q (by rw [List.length_map]; exact hqX), List.getElem_map]
  have hbs := (Below.refl W.heap.size W).alloc (Nat.le_refl _) (.cells #[.int .i64 (q : Int), .slice a1 rt.length d1] 57)
  have hx0 : (W.alloc (.cells #[.int .i64 (q : Int), .slice a1 rt.length d1] 57)).cell? ⟨W.heap.size, 0, none⟩ = some (.int .i64 (q : Int)) := cell_new W _ _ 0 _ rfl
  have hx1 : (W.alloc (.cells #[.int .i64 (q : Int), .slice a1 rt.length d1] 57)).cell? ⟨W.heap.size, 1, none⟩ = some (.slice a1 rt.length d1) := cell_new W _ _ 1 _ rfl
  have hs1 : (W.alloc (.cells #[.int .i64 (q : Int), .slice a1 rt.length d1] 57)).heap.size = W.heap.size + 1 := by simp
  have hG1 := hG.below hbs
  have hSO : SOk k (X.map (·.2)) := fun a ha => ⟨hI.sound.set a ha, hI.le a ha, Nat.le_trans (hI.few a ha) hL.m1⟩
  have hrow := rowOf_any rt (.slice a1 rt.length d1) k kb g N N most (X.map (·.2)) B _ (Row.below rk (hbs.mono hG.bx.le)) hG1.bx.le (hG1.sets hN1) hG1.kx (by have := hG1.lt; omega) hL.k1 hL.m1 hSO hps (by omega)
  have hfew : (stAt (X.map (·.2)) (q : Int)).length ≤ 600 := Nat.le_trans (stAt_few _ hI.few) hL.m1
  have HG1 := Lib.hid hG1; have Hrow := Lib.hid hrow; have Hlk := Lib.hid hlk; have HI := Lib.hid hI; have HL := Lib.hid hL; have HP := Lib.hid hP; have Hpm := Lib.hid hpm; have Hst := Lib.hid hstq; have Hbs := Lib.hid hbs; have Hs1 := Lib.hid hs1; have Hq := Lib.hid hq; have Hgw := Lib.hid (show g < W.heap.size by omega)
  have hi1 : (i : Int) < (b.l.length : Int) := by omega
  have hi2 : (0 : Int) ≤ (i : Int) := by omega
  obtain ⟨ll, hll⟩ : ∃ ll, ll = b.l.length := ⟨_, rfl⟩
  rw [← hll] at hi1 c3
  obtain ⟨rn, hrn⟩ : ∃ rn, rn = rt.length := ⟨_, rfl⟩
  rw [← hrn] at e1 hx0 hx1 HG1 Hrow Hbs Hs1
  clear hG hL hI hP hpm hlk hpo hps hat rk m1 m2 hG1 hrow hSO hbs hs1 hl1 hl2 hN0 hll hrn hi
  go_enter Try.func65, Try.ntmps65
  go_upto_region 2 with fail
  generalize W.alloc (.cells #[.int .i64 (q : Int), .slice a1 rn d1] 57) = W1 at *
  clear c3 e0 e1
  have hsx := HG1.out.sx; have hr0 := HG1.out.r0; have hr1 := HG1.out.r1
  go_wp2_with fail
  refine (Hrow.out).mono ?_
  rintro e W2 ⟨hor, hb2⟩
  have hG2 := HG1.out.below hb2
  have hx02 := (hb2.cell (p := ⟨W.heap.size, 0, none⟩) (by rw [Hs1.out]; exact Nat.lt_succ_self _)).trans hx0
  have hx12 := hx1
  have HG2 := Lib.hid hG2
  have HB2 := Lib.hid (Hbs.out.trans (hb2.mono Hbs.out.size))
  have Hlt2 : Hid (W.heap.size < W2.heap.size) := Lib.hid (by have := hb2.size; have := Hs1.out; omega)
  have hqX : q < X.length := by rw [hG2.len]; exact Hq.out
  obtain ⟨g', hv, _, _, hcl, _⟩ := owns_cellN hG2.out (Nat.lt_of_le_of_lt (Nat.zero_le _) Hq.out)
  simp only [Option.some.injEq, Addr.mk.injEq, and_true] at hv
  subst hv
  have hcq : W2.cell? ⟨g, q, none⟩ = some X[q].1 := hcl q _ (by rw [List.getElem?_map, List.getElem?_eq_getElem hqX]; rfl)
  have hrq := Row.of_owns (hG2.each _ (List.getElem_mem hqX))
  rw [← hstq] at hrq
  obtain ⟨xa, xc, hxv, _, _⟩ := hrq.val
  rw [hxv] at hcq hrq
  have Hrq := Lib.hid hrq
  obtain ⟨S, hS⟩ : ∃ S, S = X.map (·.2) := ⟨_, rfl⟩
  rw [← hS] at hor Hlk HI Hst Hrq hfew hcq
  have HS := Lib.hid hS
  have hq1 : (q : Int) < (N : Int) := by have := Hq.out; omega
  have hq2 : (0 : Int) ≤ (q : Int) := by omega
  have hsx2 := hG2.sx; have hr02 := hG2.r0; have hr12 := hG2.r1
  have hjoin := Lib.hid (fun (lv : Value) (r : List Tx) (hr : Row W2 W2.heap.size 1 lv r.length (svt r)) (hn : r.length ≤ 100000) => packJoin_any (.slice xa (stAt S (q : Int)).length xc) lv (stAt S (q : Int)) r W2.heap.size W2.heap.size W2 (Nat.le_refl _) (Nat.le_refl _) Hrq.out hr (by omega) (by omega))
  obtain ⟨an, han⟩ : ∃ an, an = (stAt S (q : Int)).length := ⟨_, rfl⟩
  rw [← han] at hjoin hcq
  have Han := Lib.hid han
  have hm63 : (most : Int) ≤ 1000 := by have := HL.out.m1; omega
  clear hG2 hb2 hcl hrq hxv hqX hS Hrq han hfew hx0 hsx hr0 hr1 Hrow HG1 hstq Hst l8
  rcases hor with ⟨hno, v2, rfl, hr2⟩ | ⟨hov, rfl⟩
  · obtain ⟨a2, c2, rfl, _, _⟩ := hr2.val
    have hrn : (rowS k S rt).length ≤ 100000 := by
      rcases List.eq_nil_or_concat rt with rfl | ⟨r', s', rfl⟩
      · show ([[]] : List Tx).length ≤ 100000; simp
      · have h1 : ¬ most < (rowS k S ((r'.concat s').take (r'.length + 1))).length := fun h => hno ⟨r'.length, by simp, h⟩
        rw [List.take_of_length_le (by simp)] at h1
        have := HL.out.m1; omega
    have Hj := Lib.hid (hjoin.out _ _ hr2 hrn)
    have hovB : overB k most S rt = false := (overB_not _ _ _ _).2 hno
    have hlk2 := Hlk.out
    rw [hovB] at hlk2
    simp only [Bool.false_eq_true, false_or, Int.toNat_natCast] at hlk2
    have HPt := Lib.hid (fun h => HI.out.put HL.out.ok (by have := HL.out.k1; omega) ⟨(q : Int), rt⟩ Hpm.out h)
    have HOv : Hid (most < (joinL (stAt S (q : Int)) (rowS k S rt)).length → Over b k most S) := Lib.hid fun h => ⟨_, Hpm.out, .inr h⟩
    obtain ⟨r2, hr2e⟩ : ∃ r2, r2 = rowS k S rt := ⟨_, rfl⟩
    rw [← hr2e] at Hj HOv HPt hlk2
    obtain ⟨A, hA⟩ : ∃ A, A = joinL (stAt S (q : Int)) r2 := ⟨_, rfl⟩
    rw [← hA] at Hj HOv HPt hlk2
    have Hlk2 := Lib.hid hlk2
    rw [show (rowS k S rt).length = r2.length by rw [hr2e]]
    generalize r2.length = r2n at *
    clear hr2 hno hovB hrn hlk2 hjoin Hlk hA hr2e
    go_wp2_with fail
    refine (Hj.out).mono ?_
    rintro e W3 ⟨v3, rfl, own3, hb3⟩
    obtain ⟨a3, c3, rfl, _, _⟩ := owns_valPK own3
    have hG3 := HG2.out.below hb3
    have HG3 := Lib.hid hG3
    have Hown3 := Lib.hid own3
    have HB3 := Lib.hid (HB2.out.trans (hb3.mono HB2.out.size))
    have Hsz3 := Lib.hid (Nat.le_trans HB2.out.size hb3.size)
    have Hs2 := Lib.hid (HB2.out.size)
    have hx03 := (hb3.cell (p := ⟨W.heap.size, 0, none⟩) Hlt2.out).trans hx02
    have hcq3 := (hb3.cell (p := ⟨g, q, none⟩) (by have := HG2.out.lt; show g < _; omega)).trans hcq
    have hfq3 : W3.frozen? ⟨g, q, none⟩ = false := by
      obtain ⟨g', hv, _, _, _, hf⟩ := owns_cellN hG3.out (Nat.lt_of_le_of_lt (Nat.zero_le _) Hq.out)
      simp only [Option.some.injEq, Addr.mk.injEq, and_true] at hv
      subst hv; exact hf q
    have hsx3 := hG3.sx; have hr13 := hG3.r1
    have hex : W3.cell? ⟨ge, 0, none⟩ = some (.int .i64 0) := by rw [cell_of_row W3 ge _ _ _ (0, 0) hG3.ex]; rfl
    have hef : W3.frozen? ⟨ge, 0, none⟩ = false := by simp [World.frozen?, hG3.ex]
    obtain ⟨gn, hgn⟩ : ∃ gn, gn = A.length := ⟨_, rfl⟩
    rw [← hgn] at Hown3 HOv HPt Hlk2 ⊢
    have Hgn := Lib.hid hgn
    have hgl : g < W3.heap.size := by have := hG3.lt; omega
    have hgel : ge < W3.heap.size := by have := hG3.lt; omega
    clear hb3 own3 hG3 hcq hsx2 hr02 hr12 hx02 Hj hgn HB2
    by_cases hov : most < gn
    · have q1 : decide (most < gn) = true := decide_eq_true hov
      have q2 : decide ((most : Int) < (gn : Int)) = true := decide_eq_true (by omega)
      have HE : Hid (LookP b k most N s0 gb gs gr ge kb g B tk lk ov (.slice (some ⟨b1, o1, none⟩) b.l.length lc) W (X.map (·.2)) P i (.returned (.tuple #[.int .i64 (-1), .bool false])) (W3.setCell ⟨ge, 0, none⟩ (.int .i64 15))) := Lib.hid (.inr ⟨_, rfl, QG.made HG3.out.ex HB3.out ⟨S, HI.out.sound, HOv.out hov⟩⟩)
      clear hov
      go_wp2_with fail
      go_ret2
      exact HE.out
    · have q1 : decide (most < gn) = false := decide_eq_false hov
      have q2 : decide ((most : Int) < (gn : Int)) = false := decide_eq_false (by omega)
      have hl3 := Hlk2.out
      rw [if_neg hov] at hl3
      by_cases hsm : gn = an
      · have q3 : ((gn : Int) == (an : Int)) = true := by simp [hsm]
        have q4 : (gn == an) = true := by simp [hsm]
        have q5 : decide (gn = an) = true := decide_eq_true hsm
        rw [if_pos (hsm.trans Han.out)] at hl3
        have HE : Hid (LookP b k most N s0 gb gs gr ge kb g B tk lk ov (.slice (some ⟨b1, o1, none⟩) b.l.length lc) W (X.map (·.2)) P i (.returned (.tuple #[.int .i64 (-1), .bool true])) W3) := Lib.hid (by
          have hl4 := hl3
          rw [HS.out] at hl4
          refine .inl ⟨by rw [hl4], ⟨P, ?_, fun z hz => ⟨.inl hz, Nat.lt_of_lt_of_le (HP.out z hz) HB3.out.size⟩⟩, KB.of_below HB3.out⟩
          rw [hl4]; exact ⟨X, rfl, HG3.out⟩)
        clear hov hl3 Hlk2
        subst hsm
        go_wp2_with fail
        go_ret2
        exact HE.out
      · have q3 : ((gn : Int) == (an : Int)) = false := by rw [beq_eq_false_iff_ne]; omega
        have q4 : (gn == an) = false := by rw [beq_eq_false_iff_ne]; exact hsm
        have q5 : decide (gn = an) = false := decide_eq_false hsm
        rw [if_neg (fun h => hsm (h.trans Han.out.symm))] at hl3
        have hgl' := HG3.out.lt
        have hput := HG3.out.put q Hq.out (.slice a3 gn c3) A W2.heap.size (by rw [← Hgn.out]; exact Hown3.out) (by have := HG2.out.lt; omega)
        have HE : Hid (LookP b k most N s0 gb gs gr ge kb g B tk lk ov (.slice (some ⟨b1, o1, none⟩) b.l.length lc) W (X.map (·.2)) P i (.returned (.tuple #[.int .i64 (q : Int), .bool true])) (W3.setCell ⟨g, q, none⟩ (.slice a3 gn c3))) := Lib.hid (by
          have hl4 := hl3
          rw [HS.out] at hl4
          refine .inl ⟨by rw [hl4], ⟨fun z => P z ∨ (Value.slice a3 gn c3).ownBlock = some z, ?_, fun z hz => ?_⟩, KB.setCell (KB.of_below HB3.out) (p := ⟨g, q, none⟩) (.inr rfl) _⟩
          · rw [hl4]; exact ⟨X.set q (.slice a3 gn c3, A), by rw [List.map_set], hput⟩
          · have hs : (W3.setCell ⟨g, q, none⟩ (.slice a3 gn c3)).heap.size = W3.heap.size := by simp [World.setCell]
            rw [hs]
            rcases hz with h1 | h1
            · exact ⟨.inl h1, Nat.lt_of_lt_of_le (HP.out z h1) HB3.out.size⟩
            · have h2 := Hown3.out.lt z h1
              exact ⟨.inr (Nat.le_trans Hs2.out h2.1), h2.2⟩)
        have hx04 : (W3.setCell ⟨g, q, none⟩ (.slice a3 gn c3)).cell? ⟨W.heap.size, 0, none⟩ = some (.int .i64 (q : Int)) := (cell_eq (p := ⟨W.heap.size, 0, none⟩) (Below.heap_setCell _ _ _ _ (by have := Hgw.out; show W.heap.size ≠ g; omega))).trans hx03
        clear hov hl3 Hlk2 hput hgl' hsm
        go_wp2_with fail
        go_ret2
        exact HE.out
  · have Hj := Lib.hid (hjoin.out (.slice none 0 0) [] (Row.of_owns (World.ownsRow_nil W2 0 9 1)) (by simp))
    have HOv : Hid (Over b k most S) := Lib.hid ⟨_, Hpm.out, .inl hov⟩
    obtain ⟨A, hA⟩ : ∃ A, A = joinL (stAt S (q : Int)) [] := ⟨_, rfl⟩
    rw [← hA] at Hj
    clear hov hjoin Hlk hA
    go_wp2_with fail
    refine (Hj.out).mono ?_
    rintro e W3 ⟨v3, rfl, own3, hb3⟩
    obtain ⟨a3, c3, rfl, _, _⟩ := owns_valPK own3
    have hG3 := HG2.out.below hb3
    have HG3 := Lib.hid hG3
    have HB3 := Lib.hid (HB2.out.trans (hb3.mono HB2.out.size))
    have hex : W3.cell? ⟨ge, 0, none⟩ = some (.int .i64 0) := by rw [cell_of_row W3 ge _ _ _ (0, 0) hG3.ex]; rfl
    have hef : W3.frozen? ⟨ge, 0, none⟩ = false := by simp [World.frozen?, hG3.ex]
    have hgel : ge < W3.heap.size := by have := hG3.lt; omega
    have HE : Hid (LookP b k most N s0 gb gs gr ge kb g B tk lk ov (.slice (some ⟨b1, o1, none⟩) b.l.length lc) W (X.map (·.2)) P i (.returned (.tuple #[.int .i64 (-1), .bool false])) (W3.setCell ⟨ge, 0, none⟩ (.int .i64 15))) := Lib.hid (.inr ⟨_, rfl, QG.made HG3.out.ex HB3.out ⟨S, HI.out.sound, HOv.out⟩⟩)
    clear hb3 own3 hG3 hcq hsx2 hr02 hr12 hx02 Hj HB2
    generalize A.length = gn at *
    go_wp2_with fail
    go_ret2
    exact HE.out
end Go.Proofs.Ytimgnbacgdmiiaa
namespace Go.Proofs.Ytimgnbacgdmiiaa
open Go.RowKit PK Go.Maps Go.WideMaps
set_option linter.unusedVariables false
set_option linter.unusedSimpArgs false
attribute [local go_sem ↓] append_appM

theorem bmay_zero {b : Bn} (h : bmay b = 0) : 1 ≤ b.of.length ∧ b.of.length ≤ 500 ∧ 1 ≤ b.l.length ∧ b.l.length ≤ 2000 ∧ (∀ p ∈ b.l, p.right.length ≤ 500) ∧ (∀ p ∈ b.l, prOk b p = true) ∧ b.toks ≤ 60 ∧ 1 ≤ b.toks ∧ 1 ≤ b.look ∧ b.look ≤ 4 := by
  unfold bmay at h
  by_cases h1 : b.toks < 1 ∨ 60 < b.toks ∨ b.of.length < 1 ∨ 500 < b.of.length ∨ b.l.length < 1 ∨ 2000 < b.l.length
  · rw [if_pos h1] at h; cases h
  · rw [if_neg h1] at h
    by_cases h2 : (b.l.any fun p => decide (500 < p.right.length)) = true
    · rw [if_pos h2] at h; cases h
    · rw [if_neg h2] at h
      by_cases h3 : b.look < 1 ∨ 4 < b.look
      · rw [if_pos h3] at h; cases h
      · rw [if_neg h3] at h
        by_cases h4 : b.l.all (prOk b) = true
        · rw [List.all_eq_true] at h4
          refine ⟨by omega, by omega, by omega, by omega, fun p hp => ?_, h4, by omega, by omega, by omega, by omega⟩
          rcases Nat.lt_or_ge 500 p.right.length with h5 | h5
          · exact absurd (List.any_eq_true.2 ⟨p, hp, decide_eq_true h5⟩) h2
          · exact h5
        · rw [if_neg h4] at h; cases h
theorem BoxB.four {w : World} {g B : Nat} {tk lk : Int} {ov lv : Value} {b : Bn} (h : BoxB w g B tk lk ov lv b) : w.cell? ⟨g, 0, none⟩ = some (.int .i64 tk) ∧ w.cell? ⟨g, 1, none⟩ = some (.int .i64 lk) ∧ w.cell? ⟨g, 2, none⟩ = some ov ∧ w.cell? ⟨g, 3, none⟩ = some lv := ⟨h.c0, h.c1, h.c2, h.c3⟩
theorem sym_wide {b : Bn} (h : bmay b = 0) : ∀ p ∈ b.l, ∀ s ∈ p.right, In64 s.n := fun p hp s hs => by
  obtain ⟨_, h2, _, _, _, h6, h7, _, _, _⟩ := bmay_zero h
  have h8 := h6 p hp
  unfold prOk at h8
  simp only [Bool.and_eq_true, List.all_eq_true] at h8
  have h9 := h8.2 s hs
  unfold symOk at h9
  unfold In64
  split at h9
  · simp only [Bool.and_eq_true, decide_eq_true_eq] at h9; omega
  · simp only [Bool.and_eq_true, decide_eq_true_eq] at h9; omega
theorem askl_mem {F : Int → Option (Value × List Int)} {x k : Int} (h : AskG F x k) : x ∈ askl F k := by
  obtain ⟨v, l, h1, h2⟩ := h
  unfold askl; rw [h1]; exact h2
theorem info_strs : (Try.prog.info? 32).map (fun i => (i.zero, i.size, i.bytes)) = some (some (.slice none 0 0), 1, 24) := by kernel_rfl
theorem GSt.lift {W : World} {b : Bn} {k : Int} {most N s0 s1 gb gs gr ge kb g B : Nat} {tk lk : Int} {ov lv : Value} {X : List (Value × List Tx)} {P : Nat → Prop} (h : GSt W b k most N s0 gb gs gr ge kb g B tk lk ov lv X P) (h1 : s0 ≤ s1) (h2 : s1 ≤ W.heap.size) : GSt W b k most N s1 gb gs gr ge kb g B tk lk ov lv X P := by
  obtain ⟨l1, l2, l3, l4, l5, l6, l7, l8⟩ := h.lt
  exact ⟨h.bx, h.sx, h.r0, h.r1, h.ex, h.kx, ⟨by omega, by omega, by omega, by omega, by omega, by omega, by omega, h2⟩, h.ne, h.out, h.len, h.each, fun x hx q e => ⟨(h.ap x hx q e).1, (h.ap x hx q e).2.elim (fun h3 => .inl (by omega)) .inr⟩⟩
theorem mu_le (most : Nat) (S : Sts) : muG most (some S) ≤ 1 + S.length * most := by
  show 1 + _ ≤ _
  have : (S.map fun a => most - a.length).sum ≤ S.length * most := by
    induction S with
    | nil => simp
    | cons a S ih => rw [List.map_cons, List.sum_cons, List.length_cons, Nat.succ_mul]; omega
  omega
theorem inv_start (b : Bn) (k : Int) (most : Nat) : InvS b k most (List.replicate b.of.length []) := by
  have hnil : ∀ a ∈ List.replicate b.of.length ([] : List Tx), a = [] := fun a ha => List.eq_of_mem_replicate ha
  refine ⟨⟨by simp, (fun l hl => by rw [hnil l hl]; exact List.Pairwise.nil), fun n x hx => ?_⟩, (fun a ha x hx => by rw [hnil a ha] at hx; cases hx), (fun a ha => by rw [hnil a ha]; exact Nat.zero_le _)⟩
  unfold stAt at hx
  rw [List.getElem?_replicate] at hx
  split at hx <;> cases hx
/-- What grow answers. -/
def GrowP (w : World) (b : Bn) (k : Int) (most : Nat) (e : Ending) (w' : World) : Prop :=
  ((∃ g S, e = .returned (.tuple #[.slice (some ⟨g, 0, none⟩) b.of.length b.of.length, .int .i64 0]) ∧ InvS b k most S ∧ Closed b k S ∧ (∀ p ∈ b.l, ¬ OverR k most S p.right) ∧ SetsR w' g b.of.length b.of.length S) ∨ (e = .returned (.tuple #[.slice none 0 0, .int .i64 15]) ∧ ∃ S, Sound b k S ∧ Over b k most S)) ∧ Below w.heap.size w w'
set_option maxHeartbeats 4000000 in
set_option maxRecDepth 100000 in
theorem grow_any (b : Bn) (k : Int) (most kb : Nat) (ov lv : Value) (B : Nat) (w : World) (hB : B ≤ w.heap.size) (r : BR w B ov lv b) (h0 : bmay b = 0) (hk : 1 ≤ k ∧ k ≤ 4) (hm : most ≤ 600) (hc : w.cell? ⟨kb, 0, none⟩ = some (.int .i64 k)) (hkb : kb < w.heap.size) :
    Calls Try.prog 35 #[.agg #[.func (.func 60) #[] #[.pointer (some ⟨kb, 0, none⟩)], .int .i64 (most : Nat)], .agg #[.int .i64 b.toks, .int .i64 b.look, ov, lv]] w (GrowP w b k most) := by
  obtain ⟨oa, oc, rfl, ho1, ho2⟩ := r.of.val
  obtain ⟨la, lc, rfl, hl1, hl2⟩ := r.l.val
  obtain ⟨z1, z2, z3, z4, z5, z6, z7, z8, z9, z10⟩ := bmay_zero h0
  have hw64 := sym_wide h0
  have hbr := (Below.refl w.heap.size w).alloc (Nat.le_refl _) (.cells #[.func (.func 60) #[] #[.pointer (some ⟨kb, 0, none⟩)], .int .i64 (most : Nat)] 61)
  have hsr : (w.alloc (.cells #[.func (.func 60) #[] #[.pointer (some ⟨kb, 0, none⟩)], .int .i64 (most : Nat)] 61)).heap.size = w.heap.size + 1 := by simp
  have hr0 : (w.alloc (.cells #[.func (.func 60) #[] #[.pointer (some ⟨kb, 0, none⟩)], .int .i64 (most : Nat)] 61)).cell? ⟨w.heap.size, 0, none⟩ = some (.func (.func 60) #[] #[.pointer (some ⟨kb, 0, none⟩)]) := cell_new w _ _ 0 _ rfl
  have hr1 : (w.alloc (.cells #[.func (.func 60) #[] #[.pointer (some ⟨kb, 0, none⟩)], .int .i64 (most : Nat)] 61)).cell? ⟨w.heap.size, 1, none⟩ = some (.int .i64 (most : Nat)) := cell_new w _ _ 1 _ rfl
  have hbox := BoxB.new b.toks b.look 25 (Nat.le_trans hB hbr.size) (r.below (hbr.mono hB))
  have hb2 := (Below.refl _ (w.alloc (.cells #[.func (.func 60) #[] #[.pointer (some ⟨kb, 0, none⟩)], .int .i64 (most : Nat)] 61))).alloc (Nat.le_refl _) (.cells #[.int .i64 b.toks, .int .i64 b.look, .slice oa b.of.length oc, .slice la b.l.length lc] 25)
  have hs2 : ((w.alloc (.cells #[.func (.func 60) #[] #[.pointer (some ⟨kb, 0, none⟩)], .int .i64 (most : Nat)] 61)).alloc (.cells #[.int .i64 b.toks, .int .i64 b.look, .slice oa b.of.length oc, .slice la b.l.length lc] 25)).heap.size = w.heap.size + 2 := by simp
  have hr02 := (hb2.cell (p := ⟨w.heap.size, 0, none⟩) (by rw [hsr]; exact Nat.lt_succ_self _)).trans hr0
  have hr12 := (hb2.cell (p := ⟨w.heap.size, 1, none⟩) (by rw [hsr]; exact Nat.lt_succ_self _)).trans hr1
  have hB2 := hbr.trans (hb2.mono hbr.size)
  have hk2 := (hB2.cell (p := ⟨kb, 0, none⟩) hkb).trans hc
  rw [hsr] at hbox
  have hL : LookOk b k most b.of.length := ⟨z6, z7, hk, hm, ⟨rfl, z1, z2⟩, z4⟩
  obtain ⟨ol, hol⟩ : ∃ ol, ol = b.of.length := ⟨_, rfl⟩
  obtain ⟨ll, hll⟩ : ∃ ll, ll = b.l.length := ⟨_, rfl⟩
  obtain ⟨tk, htk⟩ : ∃ tk, tk = b.toks := ⟨_, rfl⟩
  obtain ⟨lk, hlk⟩ : ∃ lk, lk = b.look := ⟨_, rfl⟩
  rw [← hol, ← hll, ← htk, ← hlk] at hbox hb2 hs2 hr02 hr12 hB2 hk2
  rw [← hol] at hL
  rw [← hol, ← hll, ← htk, ← hlk]
  obtain ⟨i0, hi, hz0, hz1, hz2⟩ := info_parts info_strs
  have ho500 : ol ≤ 500 := by omega
  have ho1' : 1 ≤ ol := by omega
  have hl2000 : ll ≤ 2000 := by omega
  have Hbox := Lib.hid hbox; have HB2 := Lib.hid hB2; have Hs2 := Lib.hid hs2; have Hr0 := Lib.hid hr02; have Hr1 := Lib.hid hr12; have Hk2 := Lib.hid hk2; have HL := Lib.hid hL; have Hol := Lib.hid hol; have Hll := Lib.hid hll; have Hw := Lib.hid hw64; have HBw := Lib.hid hB; have Hkb := Lib.hid hkb; have Hm := Lib.hid hm
  have Hz := Lib.hid (And.intro z3 (And.intro z4 (And.intro z5 (And.intro z6 (And.intro z1 z2)))))
  clear r hbr hsr hr0 hr1 hbox hb2 hs2 hr02 hr12 hB2 hk2 hL hol hll htk hlk hw64 hB hkb hm hc ho1 ho2 hl1 hl2 z1 z2 z3 z4 z5 z6 z7 z8 z9 z10 h0 hk
  go_enter Try.func35, Try.ntmps35
  go_upto_region 1 with fail
  generalize (w.alloc (.cells #[.func (.func 60) #[] #[.pointer (some ⟨kb, 0, none⟩)], .int .i64 (most : Nat)] 61)).alloc (.cells #[.int .i64 tk, .int .i64 lk, .slice oa ol oc, .slice la ll lc] 25) = w2 at *
  obtain ⟨c0, c1, c2, c3⟩ := Hbox.out.four
  go_upto_region 3 with (at_make; refine wpList_make_full _ rfl _ _ 27 rfl w2.heap.size 32 i0 (.slice none 0 0) 1 Try.underlying27 hi hz0 hz1 .i64 .i64 _ _ ol rfl rfl rfl rfl (by rw [hz2]; omega) (by unfold maxLen; omega) (Nat.le_refl _) ?_; intro wm hown hgrow; have Hown := Lib.hid hown; have Hgrow := Lib.hid hgrow; clear hown hgrow)
  have hbm : Below w2.heap.size w2 wm := (Below.refl w2.heap.size w2).grown Hgrow.out (Nat.le_refl _) (fun k e => by cases e)
  have hrowm : wm.ownsRow w2.heap.size 32 1 (.slice (some ⟨w2.heap.size, 0, none⟩) ol ol) ol (List.replicate ol (.slice none 0 0)) := by
    have e : (madeCells (Value.slice none 0 0).cells (ol * 1)).toList = List.replicate ol (.slice none 0 0) := by
      rw [Nat.mul_one]; show (madeCells #[Value.slice none 0 0] ol).toList = _
      rw [toList_madeCells_one]
    have := Hown.out; rw [e] at this; exact this
  have hgm : w2.heap.size < wm.heap.size := (hrowm.lt _ rfl).2
  have hb4 := (Below.refl wm.heap.size wm).alloc (Nat.le_refl _) (.cells #[.slice (some ⟨w2.heap.size, 0, none⟩) ol ol] 27)
  have hs4 : (wm.alloc (.cells #[.slice (some ⟨w2.heap.size, 0, none⟩) ol ol] 27)).heap.size = wm.heap.size + 1 := by simp
  have hb5 := (Below.refl _ (wm.alloc (.cells #[.slice (some ⟨w2.heap.size, 0, none⟩) ol ol] 27))).alloc (Nat.le_refl _) (.cells #[.int .i64 0] 28)
  have hs5 : ((wm.alloc (.cells #[.slice (some ⟨w2.heap.size, 0, none⟩) ol ol] 27)).alloc (.cells #[.int .i64 0] 28)).heap.size = wm.heap.size + 2 := by simp
  have hbm5 : Below wm.heap.size wm ((wm.alloc (.cells #[.slice (some ⟨w2.heap.size, 0, none⟩) ol ol] 27)).alloc (.cells #[.int .i64 0] 28)) := hb4.trans (hb5.mono hb4.size)
  have hb25 := hbm.trans (hbm5.mono hbm.size)
  have hG5 : GSt ((wm.alloc (.cells #[.slice (some ⟨w2.heap.size, 0, none⟩) ol ol] 27)).alloc (.cells #[.int .i64 0] 28)) b k most ol (wm.heap.size + 2) (w.heap.size + 1) wm.heap.size w.heap.size (wm.heap.size + 1) kb w2.heap.size B tk lk (.slice oa ol oc) (.slice la ll lc) (List.replicate ol (.slice none 0 0, [])) (fun _ => False) := by
    have e2 := Hs2.out
    have e3 := Hkb.out
    have e4 := HBw.out
    refine ⟨Hbox.out.keep hb25, (hb5.cell (p := ⟨wm.heap.size, 0, none⟩) (by rw [hs4]; exact Nat.lt_succ_self _)).trans (cell_new wm _ _ 0 _ rfl), (hb25.cell (p := ⟨w.heap.size, 0, none⟩) (by show w.heap.size < _; omega)).trans Hr0.out, (hb25.cell (p := ⟨w.heap.size, 1, none⟩) (by show w.heap.size < _; omega)).trans Hr1.out, ?_, (hb25.cell (p := ⟨kb, 0, none⟩) (by show kb < _; omega)).trans Hk2.out, ⟨by omega, by omega, by omega, by omega, by omega, by omega, by omega, by rw [hs5]; exact Nat.le_refl _⟩, ⟨by omega, by omega, by omega, by omega, by omega, by omega⟩, ?_, by simp, fun x hx => ?_, fun x hx q e => ?_⟩
    · have h1 : ((wm.alloc (.cells #[.slice (some ⟨w2.heap.size, 0, none⟩) ol ol] 27)).alloc (.cells #[.int .i64 0] 28)).heap[(wm.alloc (.cells #[.slice (some ⟨w2.heap.size, 0, none⟩) ol ol] 27)).heap.size]? = some (.cells #[.int .i64 0] 28 (0, 0)) := Array.getElem?_push_size
      rw [hs4] at h1; exact h1
    · have e : (List.replicate ol ((.slice none 0 0, []) : Value × List Tx)).map (·.1) = List.replicate ol (.slice none 0 0) := by simp
      rw [e]; exact owns_baseP (owns_belowP hrowm hbm5) (Nat.zero_le _)
    · rw [List.eq_of_mem_replicate hx]; exact World.ownsRow_nil _ _ _ _
    · rw [List.eq_of_mem_replicate hx] at e; cases e
  have HG5 := Lib.hid hG5
  have HB5 := Lib.hid (HB2.out.trans (hb25.mono HB2.out.size))
  obtain ⟨gm, hgm2⟩ : ∃ gm, gm = wm.heap.size := ⟨_, rfl⟩
  have Hgm := Lib.hid (show w2.heap.size < gm by omega)
  have Hs5 : Hid (((wm.alloc (.cells #[.slice (some ⟨w2.heap.size, 0, none⟩) ol ol] 27)).alloc (.cells #[.int .i64 0] 28)).heap.size = gm + 2) := Lib.hid (by rw [hs5, hgm2])
  rw [← hgm2] at HG5 ⊢
  clear hbm hrowm hgm hb4 hs4 hb5 hs5 hbm5 hb25 hG5 hgm2 hi hz0 hz1 hz2 Hown Hgrow c0 c1 c2 c3 Hbox Hr0 Hr1 Hk2
  generalize (wm.alloc (.cells #[.slice (some ⟨w2.heap.size, 0, none⟩) ol ol] 27)).alloc (.cells #[.int .i64 0] 28) = w5 at *
  have Hbx : Hid (∀ W, Below w5.heap.size w5 W → W.cell? ⟨w.heap.size + 1, 0, none⟩ = some (.int .i64 tk) ∧ W.cell? ⟨w.heap.size + 1, 1, none⟩ = some (.int .i64 lk) ∧ W.cell? ⟨w.heap.size + 1, 2, none⟩ = some (.slice oa ol oc) ∧ W.cell? ⟨w.heap.size + 1, 3, none⟩ = some (.slice la ll lc)) := Lib.hid fun W hW => (HG5.out.bx.keep hW).four
  refine wp_region_ord 6 [(0, true), (1, true), (2, true), (3, true), (5, true), (4, false), (6, false)] (fun w' => w'.cell? ⟨w.heap.size + 1, 0, none⟩ = some (.int .i64 tk) ∧ w'.cell? ⟨w.heap.size + 1, 1, none⟩ = some (.int .i64 lk) ∧ w'.cell? ⟨w.heap.size + 1, 2, none⟩ = some (.slice oa ol oc) ∧ w'.cell? ⟨w.heap.size + 1, 3, none⟩ = some (.slice la ll lc)) (by kernel_rfl) (by kernel_rfl) (Hbx.out _ (Below.refl _ w5).drew) ?_
  simp only [ordL, List.getElem?_toArray, List.getElem?_cons_succ, List.getElem?_cons_zero]
  iterate 5 (
    refine ordW_read (v := ?_) (by rfl) ?_ (fun _ _ _ h => h) ?_
    rotate_left
    focus (intro w' hS; obtain ⟨s0, s1, s2, s3⟩ := hS; go_simp; (try with_reducible rfl); done)
    try simp only [Act.put, List.setIfInBounds_toArray, List.set_cons_zero, List.set_cons_succ])
  refine ordW_do (by rfl) (fun K' HK => ?_)
  go_simp
  have hd := (Below.refl w5.heap.size w5).drew
  refine (asks_any b tk lk (.slice oa ol oc) (.slice la ll lc) B w5.drew HG5.out.bx.le (HG5.out.bx.r.below (hd.mono HG5.out.bx.le)) Hz.out.2.1 Hz.out.2.2.1 Hw.out).mono ?_
  rintro e w6 ⟨w1, cc, F, rfl, hbw1, hA, hSS, hCC⟩
  have hb56 : Below w5.heap.size w5 w6 := hd.trans ((hbw1.trans (hA.bel.mono hbw1.size)) : Below w5.heap.size w5.drew w6)
  have Hb56 := Lib.hid hb56
  have hg1 : w2.heap.size < w1.heap.size := by have h1 : w5.heap.size ≤ w1.heap.size := hbw1.size; have := Hs5.out; have := Hgm.out; omega
  have hG6 := (HG5.out.below hb56).lift (s1 := w6.heap.size) (by have := hb56.size; have := Hs5.out; omega) (Nat.le_refl _)
  have hL := look_grow b k most (askl F) Hz.out.2.2.2.1 (by have := HL.out.k1; omega) (by have := HL.out.n1; omega) (fun j x hx s hs ht => askl_mem (hCC j (List.getElem?_eq_some_iff.1 hx).1 x hx s hs ht))
  have e0 : (List.replicate ol ((.slice none 0 0, []) : Value × List Tx)).map (·.2) = List.replicate b.of.length [] := by rw [← Hol.out]; simp
  have hset := settle_grow b.l.length (lookG b k most) (muG most) (InvG b k most) (JG b k most ol w6.heap.size (w.heap.size + 1) gm w.heap.size (gm + 1) kb w2.heap.size B tk lk (.slice oa ol oc) (.slice la ll lc))
    (b.l.length + muG most (some (List.replicate b.of.length [])) * b.l.length) (some ⟨w.heap.size + 1, 0, none⟩) (some ⟨gm, 0, none⟩) (some ⟨w.heap.size, 0, none⟩) (some ⟨gm + 1, 0, none⟩) w1 w6 cc w2.heap.size F (some (List.replicate b.of.length [])) (fun _ => False)
    (fun W' => W'.cell? ⟨gm + 1, 0, none⟩ = some (.int .i64 15) ∧ (∃ S, Sound b k S ∧ Over b k most S) ∧ Below w.heap.size w W')
    ⟨Hz.out.1, by have := Hz.out.2.1; omega⟩ (Nat.le_refl _) (by
      have h1 := Hz.out.2.1
      have h2 := mu_le most (List.replicate b.of.length [])
      rw [List.length_replicate] at h2
      have h3 : b.of.length * most ≤ 500 * 600 := Nat.mul_le_mul (by have := HL.out.n1; omega) Hm.out
      have h4 : muG most (some (List.replicate b.of.length [])) * b.l.length ≤ 300001 * 2000 := Nat.mul_le_mul (by omega) h1
      omega) hA hg1 (fun k v l hF x hx => hSS k v l hF x hx) hL (inv_start b k most) ⟨_, e0.symm, hG6⟩ (fun _ h => h.elim)
    (fun W W' st P hJ hkp => by
      cases st with
      | none => exact hJ.elim
      | some S => obtain ⟨X, h1, h2⟩ := hJ; exact ⟨X, h1, h2.keep hkp⟩)
    (fun W st i P hi hI hJ hP hkb => by
      cases st with
      | none => exact hJ.elim
      | some S =>
        obtain ⟨X, rfl, hG⟩ := hJ
        refine (look_any b k most ol w6.heap.size (w.heap.size + 1) gm w.heap.size (gm + 1) kb w2.heap.size B tk lk (.slice oa ol oc) (.slice la ll lc) W X P i hi HL.out hI hG hP).mono ?_
        rintro e W' (h | ⟨x, he, hq1, hq2, hq3, hq4, hq5, hq6, hq7⟩)
        · exact .inl h
        · refine .inr ⟨x, he, hq1, hq2, ?_⟩
          have hb06 : Below w.heap.size w w6 := HB5.out.trans (hb56.mono HB5.out.size)
          have e2 := Hs2.out
          have e3 := Hgm.out
          have hs6 := hb06.size
          exact ⟨hq3.trans (hkb.os.trans hb06.os), hq4.trans (hkb.tape.trans hb06.tape), hq5.trans (hkb.output.trans hb06.output), Nat.le_trans (Nat.le_trans hs6 hkb.size) hq6, fun q hq => (hq7 q (by have := hkb.size; omega) (by omega) (by omega)).trans ((hkb.block q (by omega) (by omega)).trans (hb06.block q hq))⟩)
  rw [← Hll.out] at hset
  have Hset := Lib.hid hset
  refine HK.out _ _ (fun _ => Hbx.out w6 hb56) ?_
  clear HK K' hA hSS hCC hL hG6 hset hb56 hbw1 hd hg1 e0
  try simp only [Act.put, List.setIfInBounds_toArray, List.set_cons_zero, List.set_cons_succ]
  refine ordW_do (by rfl) (fun K' HK => ?_)
  go_simp
  refine (Hset.out).mono ?_
  rintro e w7 ⟨rfl, h7⟩
  refine HK.out _ _ (fun h => absurd rfl h) (ordW_nil ?_)
  clear HK K'
  rcases h7 with ⟨st, P, hI7, hJ7, hk7, hq7⟩ | ⟨hc7, hS7, hb7⟩
  · cases st with
    | none => exact hJ7.elim
    | some S =>
      obtain ⟨X, rfl, hG7⟩ := hJ7
      rw [Hll.out] at hq7
      obtain ⟨hcl, hno⟩ := quiet_grow hI7 Hz.out.2.2.2.1 hq7
      have hsx := hG7.sx
      have hex : w7.cell? ⟨gm + 1, 0, none⟩ = some (.int .i64 0) := by rw [cell_of_row w7 (gm + 1) _ _ _ (0, 0) hG7.ex]; rfl
      have hb07 : Below w.heap.size w w7 := HB5.out.trans ((Hb56.out.mono HB5.out.size).trans (hk7.below (by have := Hs2.out; omega) (by have := (HB5.out.trans (Hb56.out.mono HB5.out.size)).size; omega)))
      have HE : Hid (GrowP w b k most (.returned (.tuple #[.slice (some ⟨w2.heap.size, 0, none⟩) ol ol, .int .i64 0])) w7) := Lib.hid ⟨.inl ⟨w2.heap.size, _, by rw [Hol.out], hI7, hcl, hno, by rw [← Hol.out]; exact hG7.sets ho1'⟩, hb07⟩
      clear hI7 hG7 hk7 hq7 hcl hno hb07 Hset
      go_wp2_with fail
      go_ret2
      exact HE.out
  · have HE : Hid (GrowP w b k most (.returned (.tuple #[.slice none 0 0, .int .i64 15])) w7) := Lib.hid ⟨.inr ⟨rfl, hS7⟩, hb7⟩
    have Hd : Hid (∀ W', Below w7.heap.size w7 W' → GrowP w b k most (.returned (.tuple #[.slice none 0 0, .int .i64 15])) W') := Lib.hid fun W' hW' => ⟨.inr ⟨rfl, hS7⟩, hb7.trans (hW'.mono hb7.size)⟩
    clear hS7 hb7 Hset
    go_wp2_with fail
    go_region
    all_goals
      go_wp2_with fail
      go_ret2
      first | exact HE.out | exact Hd.out _ (Below.refl _ w7).drew
end Go.Proofs.Ytimgnbacgdmiiaa
namespace Go.Proofs.Ytimgnbacgdmiiaa
open Go.RowKit PK
set_option linter.unusedVariables false
set_option linter.unusedSimpArgs false
attribute [local go_sem ↓] append_appM

theorem mkAhead_any (k : Int) (w : World) : Calls Try.prog 34 #[.int .i64 k] w fun e w' => e = .returned (.func (.func 60) #[] #[.pointer (some ⟨w.heap.size, 0, none⟩)]) ∧ w' = w.alloc (.cells #[.int .i64 k] 3) := by
  go_enter Try.func34, Try.ntmps34
  go_wp2_with fail
  go_ret
  exact ⟨rfl, rfl⟩
/-- What first.Of answers. -/
def OfP (w : World) (b : Bn) (e : Ending) (w' : World) : Prop :=
  ((bmay b ≠ 0 ∧ e = .returned (.tuple #[.slice none 0 0, .int .i64 (bmay b)])) ∨ (bmay b = 0 ∧ ((∃ g S, e = .returned (.tuple #[.slice (some ⟨g, 0, none⟩) b.of.length b.of.length, .int .i64 0]) ∧ InvS b b.look 600 S ∧ Closed b b.look S ∧ (∀ p ∈ b.l, ¬ OverR b.look 600 S p.right) ∧ SetsR w' g b.of.length b.of.length S) ∨ (e = .returned (.tuple #[.slice none 0 0, .int .i64 15]) ∧ ∃ S, Sound b b.look S ∧ Over b b.look 600 S)))) ∧ Below w.heap.size w w'
set_option maxHeartbeats 2000000 in
set_option maxRecDepth 100000 in
theorem firstOf_any (b : Bn) (tk lk : Int) (ov lv : Value) (B : Nat) (w : World) (etk : b.toks = tk) (elk : b.look = lk) (hB : B ≤ w.heap.size) (r : BR w B ov lv b) :
    Calls Try.prog 11 #[.agg #[.int .i64 tk, .int .i64 lk, ov, lv]] w (OfP w b) := by
  obtain ⟨oa, oc, rfl, ho1, ho2⟩ := r.of.val
  obtain ⟨la, lc, rfl, hl1, hl2⟩ := r.l.val
  subst etk elk
  have hbox := BoxB.new b.toks b.look 25 hB r
  have hb1 := (Below.refl w.heap.size w).alloc (Nat.le_refl _) (.cells #[.int .i64 b.toks, .int .i64 b.look, .slice oa b.of.length oc, .slice la b.l.length lc] 25)
  have hmy := bnfMay_any b (.slice oa b.of.length oc) (.slice la b.l.length lc) B _ hbox.le hbox.r
  have hgr : bmay b = 0 → ∀ W BW kb, BW ≤ W.heap.size → BR W BW (.slice oa b.of.length oc) (.slice la b.l.length lc) b → W.cell? ⟨kb, 0, none⟩ = some (.int .i64 b.look) → kb < W.heap.size → Calls Try.prog 35 #[.agg #[.func (.func 60) #[] #[.pointer (some ⟨kb, 0, none⟩)], .int .i64 600], .agg #[.int .i64 b.toks, .int .i64 b.look, .slice oa b.of.length oc, .slice la b.l.length lc]] W (GrowP W b b.look 600) := fun h0 W BW kb hBW hr hc hkb => grow_any b b.look 600 kb _ _ BW W hBW hr h0 (by have := (bmay_zero h0).2.2.2.2.2.2.2.2; omega) (Nat.le_refl _) hc hkb
  obtain ⟨ol, hol⟩ : ∃ ol, ol = b.of.length := ⟨_, rfl⟩
  obtain ⟨ll, hll⟩ : ∃ ll, ll = b.l.length := ⟨_, rfl⟩
  obtain ⟨tk, htk⟩ : ∃ tk, tk = b.toks := ⟨_, rfl⟩
  obtain ⟨lk, hlk⟩ : ∃ lk, lk = b.look := ⟨_, rfl⟩
  rw [← hol, ← hll, ← htk, ← hlk] at hbox hb1 hmy hgr
  rw [← hol, ← hll, ← htk, ← hlk]
  have Hbox := Lib.hid hbox; have Hb1 := Lib.hid hb1; have Hmy := Lib.hid hmy; have Hgr := Lib.hid hgr; have Hol := Lib.hid hol; have Hlk := Lib.hid hlk
  have Hmk := Lib.hid mkAhead_any
  clear r hbox hb1 hmy hgr hol hll htk hlk ho1 ho2 hl1 hl2 hB
  go_enter Try.func11, Try.ntmps11
  go_upto_region 1 with fail
  generalize w.alloc (.cells #[.int .i64 tk, .int .i64 lk, .slice oa ol oc, .slice la ll lc] 25) = w1 at *
  obtain ⟨c0, c1, c2, c3⟩ := Hbox.out.four
  go_wp2_with fail
  refine (Hmy.out).mono ?_
  rintro e w2 ⟨rfl, hb2⟩
  have Hbx2 := Lib.hid (Hbox.out.keep hb2)
  have HB2 := Lib.hid (Hb1.out.trans (hb2.mono Hb1.out.size))
  clear hb2 c0 c1 c2 c3 Hmy
  by_cases h0 : bmay b = 0
  · have H0 := Lib.hid h0
    have Hgr0 := Lib.hid (Hgr.out h0)
    rw [h0]
    clear h0 Hgr
    have Hd0 : Hid (Below w2.heap.size w2 w2.drew) := Lib.hid (Below.refl w2.heap.size w2).drew
    have HS : Hid (∀ W, Below w2.heap.size w2 W → W.cell? ⟨w.heap.size, 0, none⟩ = some (.int .i64 tk) ∧ W.cell? ⟨w.heap.size, 1, none⟩ = some (.int .i64 lk) ∧ W.cell? ⟨w.heap.size, 2, none⟩ = some (.slice oa ol oc) ∧ W.cell? ⟨w.heap.size, 3, none⟩ = some (.slice la ll lc)) := Lib.hid fun W hW => (Hbx2.out.keep hW).four
    obtain ⟨c0, c1, c2, c3⟩ := HS.out _ (Below.refl _ _)
    go_upto_region 4 with fail
    clear c0 c1 c2 c3
    refine wp_region_ord 9 [(0, true), (1, true), (4, true), (2, false), (3, true), (5, false), (6, true), (7, true), (8, true), (9, false)] (fun w' => w'.cell? ⟨w.heap.size, 0, none⟩ = some (.int .i64 tk) ∧ w'.cell? ⟨w.heap.size, 1, none⟩ = some (.int .i64 lk) ∧ w'.cell? ⟨w.heap.size, 2, none⟩ = some (.slice oa ol oc) ∧ w'.cell? ⟨w.heap.size, 3, none⟩ = some (.slice la ll lc)) (by kernel_rfl) (by kernel_rfl) (HS.out _ Hd0.out) ?_
    simp only [ordL, List.getElem?_toArray, List.getElem?_cons_succ, List.getElem?_cons_zero]
    iterate 3 (
      refine ordW_read (v := ?_) (by rfl) ?_ (fun _ _ _ h => h) ?_
      rotate_left
      focus (intro w' hS; obtain ⟨s0, s1, s2, s3⟩ := hS; go_simp; (try with_reducible rfl); done)
      try simp only [Act.put, List.setIfInBounds_toArray, List.set_cons_zero, List.set_cons_succ])
    refine ordW_do (by rfl) (fun K' HK => ?_)
    go_simp
    refine (Hmk.out lk w2.drew).mono ?_
    rintro e w3 ⟨rfl, rfl⟩
    have hb3 : Below w2.heap.size w2 (w2.drew.alloc (.cells #[.int .i64 lk] 3)) := Hd0.out.alloc Hd0.out.size _
    have hc3 := cell_new w2.drew #[.int .i64 lk] 3 0 _ rfl
    have hlt3 : w2.drew.heap.size < (w2.drew.alloc (.cells #[.int .i64 lk] 3)).heap.size := by simp
    have HG := Lib.hid (Hgr0.out _ _ _ (Hbx2.out.keep hb3).le (Hbx2.out.keep hb3).r hc3 hlt3)
    have HB3 := Lib.hid hb3
    refine HK.out _ _ (fun _ => HS.out _ hb3) ?_
    clear HK K' hb3 hc3 hlt3 Hgr0
    try simp only [Act.put, List.setIfInBounds_toArray, List.set_cons_zero, List.set_cons_succ]
    iterate 1 (
      refine ordW_read (v := ?_) (by rfl) ?_ (fun _ _ _ h => h) ?_
      rotate_left
      focus (intro w' hS; obtain ⟨s0, s1, s2, s3⟩ := hS; go_simp; (try with_reducible rfl); done)
      try simp only [Act.put, List.setIfInBounds_toArray, List.set_cons_zero, List.set_cons_succ])
    refine ordW_do (by rfl) (fun K' HK => ?_)
    go_simp
    refine (HG.out).mono ?_
    rintro e w4 ⟨h4, hb4⟩
    have HB4 := Lib.hid (HB3.out.trans (hb4.mono HB3.out.size))
    have HB := Lib.hid (HB2.out.trans (HB4.out.mono HB2.out.size))
    clear hb4 HG
    rcases h4 with ⟨g, S, rfl, hI, hcl, hno, hst⟩ | ⟨rfl, hS4⟩
    · rw [← Hol.out]
      have HE : Hid (OfP w b (.returned (.tuple #[.slice (some ⟨g, 0, none⟩) ol ol, .int .i64 0])) w4) := Lib.hid ⟨.inr ⟨H0.out, .inl ⟨g, S, by rw [Hol.out], by rw [← Hlk.out]; exact hI, by rw [← Hlk.out]; exact hcl, by rw [← Hlk.out]; exact hno, hst⟩⟩, HB.out⟩
      clear hI hcl hno hst
      refine HK.out _ _ (fun _ => HS.out _ HB4.out) ?_
      clear HK K'
      try simp only [Act.put, List.setIfInBounds_toArray, List.set_cons_zero, List.set_cons_succ]
      iterate 3 (
        refine ordW_read (v := ?_) (by rfl) ?_ (fun _ _ _ h => h) ?_
        rotate_left
        focus (intro w' hS; obtain ⟨s0, s1, s2, s3⟩ := hS; go_simp; (try with_reducible rfl); done)
        try simp only [Act.put, List.setIfInBounds_toArray, List.set_cons_zero, List.set_cons_succ])
      refine ordW_do (by rfl) (fun K' HK => ?_)
      go_simp
      refine HK.out _ _ (fun h => absurd rfl h) (ordW_nil ?_)
      clear HK K'
      go_wp2_with fail
      go_ret2
      exact HE.out
    · have HE : Hid (OfP w b (.returned (.tuple #[.slice none 0 0, .int .i64 15])) w4) := Lib.hid ⟨.inr ⟨H0.out, .inr ⟨rfl, by rw [← Hlk.out]; exact hS4⟩⟩, HB.out⟩
      clear hS4
      refine HK.out _ _ (fun _ => HS.out _ HB4.out) ?_
      clear HK K'
      try simp only [Act.put, List.setIfInBounds_toArray, List.set_cons_zero, List.set_cons_succ]
      iterate 3 (
        refine ordW_read (v := ?_) (by rfl) ?_ (fun _ _ _ h => h) ?_
        rotate_left
        focus (intro w' hS; obtain ⟨s0, s1, s2, s3⟩ := hS; go_simp; (try with_reducible rfl); done)
        try simp only [Act.put, List.setIfInBounds_toArray, List.set_cons_zero, List.set_cons_succ])
      refine ordW_do (by rfl) (fun K' HK => ?_)
      go_simp
      refine HK.out _ _ (fun h => absurd rfl h) (ordW_nil ?_)
      clear HK K'
      go_wp2_with fail
      go_ret2
      exact HE.out
  · have Hne := Lib.hid h0
    have hq : ((bmay b : Int) == 0) = false := by rw [beq_eq_false_iff_ne]; exact h0
    have hq2 : ((bmay b : Int) != 0) = true := by rw [bne_iff_ne]; exact h0
    clear h0
    generalize hm : bmay b = m at *
    have HE : Hid (OfP w b (.returned (.tuple #[.slice none 0 0, .int .i64 m])) w2) := Lib.hid ⟨.inl ⟨by rw [hm]; exact Hne.out, by rw [hm]⟩, HB2.out⟩
    go_wp2_with fail
    go_ret2
    exact HE.out
end Go.Proofs.Ytimgnbacgdmiiaa
