/-
  What plain rules derive, plain: marks.
  again.Settle: its walk, for the looks of this program.
  empty.some's look; what it holds in memory.
  empty.some, Nothing, Ends.
  The document's marks: row, mark, Nothing, Ends.
  empty.Nothing, Ends, Row; the document's.
-/
import Derived.Test.YtimgnbacgdmiiaaFolI
import Derived.Test.YtimgnbacgdmiiaaSetA
import Derived.Deep.DeepCutAuto
import Derived.Test.YtimgnbacgdmiiaaAskB
import Derived.Test.YtimgnbacgdmiiaaBnfE
namespace Go.Proofs.Ytimgnbacgdmiiaa
open Go.RowKit
set_option linter.unusedVariables false
set_option linter.unusedSimpArgs false

/-- Nonterminals that come to an end by productions, tokens being let by or not. -/
inductive Der (L : List Pr) (tk : Bool) : Int → Prop
  | mk (p : Pr) : p ∈ L → (∀ s ∈ p.right, s.tok = true → tk = true) → (∀ s ∈ p.right, s.tok = false → Der L tk s.n) → Der L tk p.left
def goodB (tk : Bool) (st : List Bool) (s : Sy) : Bool := if s.tok then tk else (st[s.n.toNat]?).getD false
def rowB (tk : Bool) (st : List Bool) (r : List Sy) : Bool := r.all (goodB tk st)
/-- Marks: of what is derived, and closed. -/
structure Fix (b : Bn) (tk : Bool) (st : List Bool) : Prop where
  len : st.length = b.of.length
  sound : ∀ x : Nat, st[x]? = some true → Der b.l tk (x : Int)
  closed : ∀ p ∈ b.l, rowB tk st p.right = true → st[p.left.toNat]? = some true
theorem Fix.der {b : Bn} {tk : Bool} {st : List Bool} (h : Fix b tk st) (hok : ∀ p ∈ b.l, prOk b p = true) {x : Int} (hd : Der b.l tk x) : st[x.toNat]? = some true := by
  induction hd with
  | mk p hp h1 h2 ih =>
    refine h.closed p hp ?_
    unfold rowB
    rw [List.all_eq_true]
    intro s hs
    unfold goodB
    cases ht : s.tok with
    | true => simpa using h1 s hs ht
    | false => simp [ih s hs ht]
theorem Fix.uniq {b : Bn} {tk : Bool} {s1 s2 : List Bool} (hok : ∀ p ∈ b.l, prOk b p = true) (h1 : Fix b tk s1) (h2 : Fix b tk s2) : s1 = s2 := by
  have key : ∀ x : Nat, s1[x]? = some true ↔ s2[x]? = some true := fun x =>
    ⟨fun h => by have := h2.der hok (h1.sound x h); simpa using this, fun h => by have := h1.der hok (h2.sound x h); simpa using this⟩
  apply List.ext_getElem?
  intro x
  rcases Nat.lt_or_ge x b.of.length with hx | hx
  · have q1 : x < s1.length := by rw [h1.len]; exact hx
    have q2 : x < s2.length := by rw [h2.len]; exact hx
    have e1 : s1[x]? = some s1[x] := List.getElem?_eq_getElem q1
    have e2 : s2[x]? = some s2[x] := List.getElem?_eq_getElem q2
    have k := key x
    rw [e1, e2] at k ⊢
    cases ha : s1[x] <;> cases hb : s2[x] <;> simp_all
  · rw [List.getElem?_eq_none (by rw [h1.len]; exact hx), List.getElem?_eq_none (by rw [h2.len]; exact hx)]
/-- A look at production i. -/
def lookM (b : Bn) (tk : Bool) (st : List Bool) (i : Nat) : List Bool × Int := match b.l[i]? with
  | none => (st, -1)
  | some p => if (st[p.left.toNat]?).getD false = true then (st, -1) else if rowB tk st p.right = true then (st.set p.left.toNat true, p.left) else (st, -1)
structure MInv (b : Bn) (tk : Bool) (st : List Bool) : Prop where
  len : st.length = b.of.length
  sound : ∀ x : Nat, st[x]? = some true → Der b.l tk (x : Int)
theorem good_set {tk : Bool} {st : List Bool} {s : Sy} {c : Nat} (h : s.tok = false → s.n.toNat ≠ c) : goodB tk (st.set c true) s = goodB tk st s := by
  unfold goodB
  cases ht : s.tok with
  | true => rfl
  | false => simp only [Bool.false_eq_true, if_false]; rw [List.getElem?_set, if_neg (Ne.symm (h ht))]
theorem count_set_lt (st : List Bool) (c : Nat) (hc : st[c]? = some false) : (st.set c true).count false < st.count false := by
  obtain ⟨h, e⟩ := List.getElem?_eq_some_iff.1 hc
  rw [List.count_set h, e]
  have : 0 < st.count false := List.count_pos_iff.2 (by rw [← e]; exact List.getElem_mem h)
  simp; omega
theorem look_marks (b : Bn) (tk : Bool) (ask : Int → List Int) (hok : ∀ p ∈ b.l, prOk b p = true) (hl : b.of.length ≤ 500)
    (hask : ∀ (j : Nat) (x : Pr), b.l[j]? = some x → ∀ s ∈ x.right, s.tok = false → (j : Int) ∈ ask s.n) : Look b.l.length ask (lookM b tk) (fun st => st.count false) (MInv b tk) := by
  have hlk : ∀ (st : List Bool) (i : Nat) (hi : i < b.l.length), lookM b tk st i = if (st[b.l[i].left.toNat]?).getD false = true then (st, -1) else if rowB tk st b.l[i].right = true then (st.set b.l[i].left.toNat true, b.l[i].left) else (st, -1) := fun st i hi => by
    unfold lookM; rw [List.getElem?_eq_getElem hi]
  have hpl : ∀ i (hi : i < b.l.length), 0 ≤ b.l[i].left ∧ b.l[i].left < b.of.length := fun i hi => prOk_left (hok _ (List.getElem_mem hi))
  refine ⟨fun st i hi hI hn => ?_, fun st i hi hI => ?_, fun st i hi hI hn => ?_, fun st i j hi hj hI hn hm hq => ?_, fun st i hi hI => ?_⟩
  · rw [hlk st i hi] at hn ⊢
    have := hpl i hi
    split at hn
    · rename_i h1; rw [if_pos h1]
    · rename_i h1; rw [if_neg h1]
      split at hn
      · exfalso; simp only at hn; omega
      · rename_i h2; rw [if_neg h2]
  · rw [hlk st i hi]
    have hp := hpl i hi
    split
    · exact hI
    · split
      · rename_i h1 h2
        refine ⟨by rw [List.length_set]; exact hI.len, fun x hx => ?_⟩
        rcases set_at st b.l[i].left.toNat x true true hx with ⟨hx, _⟩ | ⟨_, hx⟩
        · have e : (x : Int) = b.l[i].left := by omega
          rw [e]
          have hr := h2
          unfold rowB at hr
          rw [List.all_eq_true] at hr
          refine Der.mk b.l[i] (List.getElem_mem hi) (fun s hs ht => ?_) (fun s hs ht => ?_)
          · have := hr s hs; unfold goodB at this; rw [ht] at this; simpa using this
          · have h3 := hr s hs
            unfold goodB at h3
            rw [ht] at h3
            simp only [Bool.false_eq_true, if_false] at h3
            have h4 := prOk_sym (hok _ (List.getElem_mem hi)) hs ht
            have h5 : st[s.n.toNat]? = some true := by
              cases h6 : st[s.n.toNat]? with
              | none => rw [h6] at h3; cases h3
              | some v => rw [h6] at h3; simp at h3; rw [h3]
            have h7 := hI.sound _ h5
            rwa [Int.toNat_of_nonneg h4.1] at h7
        · exact hI.sound x hx
      · exact hI
  · rw [hlk st i hi] at hn ⊢
    have hp := hpl i hi
    split at hn
    · simp at hn
    · rename_i h1
      rw [if_neg h1]
      split at hn
      · rename_i h2
        rw [if_pos h2]
        refine count_set_lt st _ ?_
        have h3 : b.l[i].left.toNat < st.length := by rw [hI.len]; omega
        rw [List.getElem?_eq_getElem h3] at h1 ⊢
        simp at h1; rw [h1]
      · simp at hn
  · have hpi := hpl i hi
    have hpj := hpl j hj
    rw [hlk st i hi] at hn hm ⊢
    split at hn
    · simp at hn
    · rename_i h1
      rw [if_neg h1] at hm ⊢
      split at hn
      · rename_i h2
        rw [if_pos h2] at hm ⊢
        simp only at hm ⊢
        rw [hlk _ j hj]
        have hnot : ∀ s ∈ b.l[j].right, s.tok = false → s.n.toNat ≠ b.l[i].left.toNat := fun s hs ht e => by
          have h4 := prOk_sym (hok _ (List.getElem_mem hj)) hs ht
          have e2 : s.n = b.l[i].left := by omega
          exact hm (by rw [← e2]; exact hask j _ (List.getElem?_eq_getElem hj) s hs ht)
        have hrow : rowB tk (st.set b.l[i].left.toNat true) b.l[j].right = rowB tk st b.l[j].right := by
          unfold rowB
          refine Bool.eq_iff_iff.2 ?_
          simp only [List.all_eq_true]
          constructor
          · intro h s hs; have := h s hs; rwa [good_set (hnot s hs)] at this
          · intro h s hs; rw [good_set (hnot s hs)]; exact h s hs
        by_cases he : b.l[j].left.toNat = b.l[i].left.toNat
        · rw [if_pos (by rw [he, List.getElem?_set, if_pos rfl, if_pos (by rw [hI.len]; omega)]; rfl)]; simp
        · rcases hq with hq | hq
          · rw [hlk st j hj] at hq
            rw [List.getElem?_set, if_neg (Ne.symm he), hrow]
            split at hq
            · rename_i h5; rw [if_pos h5]; exact hq
            · rename_i h5; rw [if_neg h5]
              by_cases hr : rowB tk st b.l[j].right = true
              · rw [if_pos hr] at hq ⊢; exact hq
              · rw [if_neg hr] at hq ⊢; exact hq
          · subst hq; exact absurd rfl he
      · simp at hn
  · rw [hlk st i hi]
    have hp := hpl i hi
    split
    · exact ⟨by simp, by simp⟩
    · split
      · exact ⟨by simp only; omega, by simp only; omega⟩
      · exact ⟨by simp, by simp⟩
theorem fix_of_quiet {b : Bn} {tk : Bool} {st : List Bool} (hok : ∀ p ∈ b.l, prOk b p = true) (hI : MInv b tk st) (hq : ∀ q, q < b.l.length → (lookM b tk st q).2 < 0) : Fix b tk st :=
  ⟨hI.len, hI.sound, fun p hp hr => by
    obtain ⟨i, hi, rfl⟩ := List.getElem_of_mem hp
    have h := hq i hi
    have hpl := prOk_left (hok _ hp)
    unfold lookM at h
    rw [List.getElem?_eq_getElem hi] at h
    simp only at h
    split at h
    · rename_i h1
      have h3 : b.l[i].left.toNat < st.length := by rw [hI.len]; omega
      rw [List.getElem?_eq_getElem h3] at h1 ⊢
      simp at h1; rw [h1]
    · first
      | (simp only at h; omega)
      | (rw [if_pos hr] at h; simp only at h; omega)⟩
end Go.Proofs.Ytimgnbacgdmiiaa
namespace Go.Proofs.Ytimgnbacgdmiiaa
open Go.RowKit Go.Maps Go.WideMaps
set_option linter.unusedVariables false
set_option linter.unusedSimpArgs false
attribute [local go_sem ↓] append_appM

end Go.Proofs.Ytimgnbacgdmiiaa
namespace Go.Proofs.Ytimgnbacgdmiiaa
open Go.RowKit
set_option linter.unusedVariables false
set_option linter.unusedSimpArgs false

theorem BoxB.keepN {w w' : World} {g B n : Nat} {tk lk : Int} {ov lv : Value} {b : Bn} (h : BoxB w g B tk lk ov lv b) (hb : Below n w w') (h1 : g < n) (h2 : B ≤ n) : BoxB w' g B tk lk ov lv b :=
  ⟨(hb.cell (p := ⟨g, 0, none⟩) h1).trans h.c0, (hb.cell (p := ⟨g, 1, none⟩) h1).trans h.c1, (hb.cell (p := ⟨g, 2, none⟩) h1).trans h.c2, (hb.cell (p := ⟨g, 3, none⟩) h1).trans h.c3, Nat.lt_of_lt_of_le h.lt hb.size, Nat.le_trans h.le hb.size, h.r.below (hb.mono h2)⟩
/-- What empty.some's look finds: its three boxes, and the marks. -/
structure JM (w : World) (gb gi gg g N B n0 : Nat) (tk lk : Int) (ov lv fv : Value) (b : Bn) (st : List Bool) : Prop where
  box : BoxB w gb B tk lk ov lv b
  is : w.cell? ⟨gi, 0, none⟩ = some (.slice (some ⟨g, 0, none⟩) N N)
  good : w.cell? ⟨gg, 0, none⟩ = some fv
  row : w.ownsRow n0 4 1 (.slice (some ⟨g, 0, none⟩) N N) N (bools st)
  ils : gi < w.heap.size ∧ gg < w.heap.size
  ne : gb ≠ g ∧ gi ≠ g ∧ gg ≠ g ∧ B ≤ g
theorem JM.keep {w w' : World} {gb gi gg g N B n0 n : Nat} {tk lk : Int} {ov lv fv : Value} {b : Bn} {st : List Bool} (h : JM w gb gi gg g N B n0 tk lk ov lv fv b st) (hb : Below n w w') (h1 : gb < n) (h2 : gi < n) (h3 : gg < n) (h4 : g < n) (h5 : B ≤ n) : JM w' gb gi gg g N B n0 tk lk ov lv fv b st :=
  ⟨h.box.keepN hb h1 h5, (hb.cell (p := ⟨gi, 0, none⟩) h2).trans h.is, (hb.cell (p := ⟨gg, 0, none⟩) h3).trans h.good, owns_blockN h.row fun k e => by cases e; exact hb.block _ h4, ⟨Nat.lt_of_lt_of_le h.ils.1 hb.size, Nat.lt_of_lt_of_le h.ils.2 hb.size⟩, h.ne⟩
theorem JM.up {w w' : World} {gb gi gg g N B n0 : Nat} {tk lk : Int} {ov lv fv : Value} {b : Bn} {st : List Bool} (h : JM w gb gi gg g N B n0 tk lk ov lv fv b st) (hb : Below w.heap.size w w') : JM w' gb gi gg g N B n0 tk lk ov lv fv b st :=
  h.keep hb h.box.lt h.ils.1 h.ils.2 (h.row.lt _ rfl).2 h.box.le
theorem JM.set {w : World} {gb gi gg g N B n0 : Nat} {tk lk : Int} {ov lv fv : Value} {b : Bn} {st : List Bool} (h : JM w gb gi gg g N B n0 tk lk ov lv fv b st) (j : Nat) (hj : j < N) : JM (w.setCell ⟨g, j, none⟩ (.bool true)) gb gi gg g N B n0 tk lk ov lv fv b (st.set j true) := by
  have hl : st.length = N := by have := h.row.1; rw [bools_length] at this; omega
  have far : ∀ q k, q ≠ g → (w.setCell ⟨g, j, none⟩ (.bool true)).cell? ⟨q, k, none⟩ = w.cell? ⟨q, k, none⟩ := fun q k hq => cell_eq (p := ⟨q, k, none⟩) (Below.heap_setCell _ _ _ _ hq)
  have hs : (w.setCell ⟨g, j, none⟩ (.bool true)).heap.size = w.heap.size := by simp [World.setCell]
  have hB : Below B w (w.setCell ⟨g, j, none⟩ (.bool true)) := (Below.refl B w).setCell (p := ⟨g, j, none⟩) h.ne.2.2.2 _
  exact ⟨⟨(far gb 0 h.ne.1).trans h.box.c0, (far gb 1 h.ne.1).trans h.box.c1, (far gb 2 h.ne.1).trans h.box.c2, (far gb 3 h.ne.1).trans h.box.c3, by rw [hs]; exact h.box.lt, by rw [hs]; exact h.box.le, h.box.r.below hB⟩,
    (far gi 0 h.ne.2.1).trans h.is, (far gg 0 h.ne.2.2.1).trans h.good, by rw [← bools_set]; exact owns_setN h.row j (by rw [bools_length, hl]; exact hj) _, by rw [hs]; exact h.ils, h.ne⟩
theorem JM.cell {w : World} {gb gi gg g N B n0 : Nat} {tk lk : Int} {ov lv fv : Value} {b : Bn} {st : List Bool} (h : JM w gb gi gg g N B n0 tk lk ov lv fv b st) (j : Nat) (hj : j < st.length) : w.cell? ⟨g, j, none⟩ = some (.bool st[j]) ∧ w.frozen? ⟨g, j, none⟩ = false := by
  have hl : st.length = N := by have := h.row.1; rw [bools_length] at this; omega
  obtain ⟨g', hv, _, _, hc, hf⟩ := owns_cellN h.row (by omega)
  simp only [Option.some.injEq, Addr.mk.injEq, and_true] at hv
  subst hv
  exact ⟨hc j _ (bools_at st j hj), hf j⟩

end Go.Proofs.Ytimgnbacgdmiiaa
namespace Go.Proofs.Ytimgnbacgdmiiaa
open Go.RowKit Go.Maps Go.WideMaps
set_option linter.unusedVariables false
set_option linter.unusedSimpArgs false

/-- What empty.Nothing and Ends answer. -/
def SomeP (w : World) (b : Bn) (tk : Bool) (e : Ending) (w' : World) : Prop :=
  ((bmay b ≠ 0 ∧ e = .returned (.tuple #[.slice none 0 0, .int .i64 (bmay b)])) ∨ (bmay b = 0 ∧ ∃ v st, e = .returned (.tuple #[v, .int .i64 0]) ∧ Fix b tk st ∧ w'.ownsRow w.heap.size 4 1 v st.length (bools st))) ∧ Below w.heap.size w w'

end Go.Proofs.Ytimgnbacgdmiiaa
namespace Go.Proofs.Ytimgnbacgdmiiaa
open Go.RowKit
set_option linter.unusedVariables false
set_option linter.unusedSimpArgs false

set_option maxHeartbeats 2000000 in
theorem refRow_any (tk : Bool) (st : List Bool) (l : List Sy) (sv : Value) (g N cp B : Nat) (w : World) (hB : B ≤ w.heap.size) (r : SR w B sv l) (hl : st.length = N) (hN : N ≤ 1000) (hc : ∀ j (hj : j < st.length), w.cell? ⟨g, j, none⟩ = some (.bool st[j])) (hs : ∀ s ∈ l, s.tok = false → 0 ≤ s.n ∧ s.n < N) :
    Calls Try.prog 82 #[sv, .bool tk, .slice (some ⟨g, 0, none⟩) N cp] w fun e w' => e = .returned (.bool (rowB tk st l)) ∧ w' = w := by
  obtain ⟨ao, c, rfl, hc1, hc2⟩ := Row.val r
  unfold maxLen at hc2
  have hl63 : l.length ≤ 9223372036854775807 := by omega
  have R := Lib.hid r; have Hs := Lib.hid hs; have Hc := Lib.hid hc
  have hrow : rowB tk st l = l.all (goodB tk st) := rfl
  have Hrow := Lib.hid hrow
  generalize rowB tk st l = rb at *
  clear r hs hc hrow hc1 hc2
  go_enter Try.func82, Try.ntmps82
  go_wp2_with fail
  go_loopw [7] (fun iv wr => ∃ k : Nat, k ≤ l.length ∧ iv = .int .i64 (k : Nat) ∧ Hid ((l.take k).all (goodB tk st) = true) ∧ wr = w) (fun iv _ => l.length - (intOf iv).toNat)
  case atStart => exact ⟨0, Nat.zero_le _, rfl, Lib.hid rfl, rfl⟩
  case round =>
    obtain ⟨k, hk, rfl, Hal, rfl⟩ := hrel
    by_cases hlt : k < l.length
    · obtain ⟨b6, o6, hao, hb6, f0, f1⟩ := SR.get R.out k hlt
      subst hao
      have Hyes := Lib.hid (all_step l (goodB tk st) k hlt Hal.out)
      have Hno := Lib.hid (all_no l (goodB tk st) k hlt)
      have hsn := Hs.out l[k] (List.getElem_mem hlt)
      have hk1 : (k : Int) < (l.length : Int) := by omega
      have hk2 : (0 : Int) ≤ (k : Int) := by omega
      have Hlt := Lib.hid hlt
      generalize l[k] = s at *
      obtain ⟨t, n⟩ := s
      simp only at f0 f1 hsn
      clear hlt hk hb6
      cases t with
      | true =>
        cases tk with
        | true =>
          have HY := Lib.hid (Hyes.out rfl)
          clear Hyes Hno hsn
          go_wp2_with fail
          go_roundw
          case rel => exact ⟨k + 1, Hlt.out, by go_num, HY, trivial⟩
          case measure => have := Hlt.out; simp [intOf]; omega
        | false =>
          have HY : Hid (rb = false) := Lib.hid (by rw [Hrow.out]; exact Hno.out rfl)
          clear Hyes Hno hsn
          go_wp2_with fail
          go_ret
          exact ⟨ret_boolP HY.out.symm, rfl⟩
      | false =>
        obtain ⟨h0, h1⟩ := hsn rfl
        obtain ⟨q, rfl⟩ : ∃ q : Nat, n = (q : Int) := ⟨n.toNat, by omega⟩
        have hq : q < st.length := by omega
        have c0 := Hc.out q hq
        have hgd : goodB tk st ⟨false, (q : Int)⟩ = st[q] := by unfold goodB; simp [List.getElem?_eq_getElem hq]
        rw [hgd] at Hyes Hno
        generalize st[q] = v at *
        clear hgd hq
        cases v with
        | true =>
          have HY := Lib.hid (Hyes.out rfl)
          clear Hyes Hno
          go_wp2_with fail
          go_roundw
          case rel => exact ⟨k + 1, Hlt.out, by go_num, HY, trivial⟩
          case measure => have := Hlt.out; simp [intOf]; omega
        | false =>
          have HY : Hid (rb = false) := Lib.hid (by rw [Hrow.out]; exact Hno.out rfl)
          clear Hyes Hno
          go_wp2_with fail
          go_ret
          exact ⟨ret_boolP HY.out.symm, rfl⟩
    · obtain rfl : k = l.length := by omega
      have H : Hid (rb = true) := Lib.hid (by have := Hal.out; rw [List.take_length] at this; rw [Hrow.out]; exact this)
      go_wp2_with fail
      go_ret
      exact ⟨ret_boolP H.out.symm, rfl⟩
def isF (o : Option Value) : Bool := match o with | some (.bool false) => true | _ => false
/-- How many of a row's cells are false. -/
def mcount (w : World) (g N : Nat) : Nat := (List.range N).countP fun j => isF (w.cell? ⟨g, j, none⟩)
theorem mcount_own {w : World} {g N n0 : Nat} {st : List Bool} (h : w.ownsRow n0 4 1 (.slice (some ⟨g, 0, none⟩) N N) N (bools st)) : mcount w g N = st.count false := by
  have hl : st.length = N := by have := h.1; rw [bools_length] at this; omega
  have e : (List.range N).map (fun j => (st[j]?).getD true) = st := by
    apply List.ext_getElem?
    intro j
    rw [List.getElem?_map]
    rcases Nat.lt_or_ge j N with hj | hj
    · rw [List.getElem?_range hj, Option.map_some, List.getElem?_eq_getElem (show j < st.length by omega), Option.getD_some]
    · rw [List.getElem?_eq_none (by simp; exact hj), List.getElem?_eq_none (by omega)]; rfl
  have h2 : st.count false = (List.range N).countP (fun j => (st[j]?).getD true == false) := by
    conv => lhs; rw [← e]
    rw [List.count_eq_countP, List.countP_map]; rfl
  rw [h2]
  unfold mcount
  apply List.countP_congr
  intro j hj
  have hj' := List.mem_range.1 hj
  obtain ⟨g', hv, _, _, hcl, _⟩ := owns_cellN h (by omega)
  simp only [Option.some.injEq, Addr.mk.injEq, and_true] at hv
  subst hv
  have hjs : j < st.length := by omega
  rw [hcl j _ (bools_at st j hjs), List.getElem?_eq_getElem hjs, Option.getD_some]
  cases st[j] <;> simp [isF]
theorem lookM_at (b : Bn) (tk : Bool) (st : List Bool) (i : Nat) (hi : i < b.l.length) : lookM b tk st i = if (st[b.l[i].left.toNat]?).getD false = true then (st, -1) else if rowB tk st b.l[i].right = true then (st.set b.l[i].left.toNat true, b.l[i].left) else (st, -1) := by
  unfold lookM; rw [List.getElem?_eq_getElem hi]
theorem minv_set {b : Bn} {tk : Bool} {st : List Bool} (hok : ∀ p ∈ b.l, prOk b p = true) (hl : b.of.length ≤ 500) (hI : MInv b tk st) (i : Nat) (hi : i < b.l.length) (h1 : (st[b.l[i].left.toNat]?).getD false = false) (h2 : rowB tk st b.l[i].right = true) : MInv b tk (st.set b.l[i].left.toNat true) := by
  have hL := look_marks b tk (fun k => (List.range b.l.length).map fun q => ((q : Nat) : Int)) hok hl (fun j x hx s hs ht => List.mem_map.2 ⟨j, List.mem_range.2 (List.getElem?_eq_some_iff.1 hx).1, rfl⟩)
  have := hL.inv st i hi hI
  rw [lookM_at b tk st i hi, h1, if_neg (by simp), if_pos h2] at this
  exact this
/-- What the document's marks are. -/
def MarkP (w : World) (b : Bn) (tk : Bool) (e : Ending) (w' : World) : Prop := ∃ v st, e = .returned v ∧ Fix b tk st ∧ w'.ownsRow w.heap.size 4 1 v st.length (bools st) ∧ Below w.heap.size w w'

set_option maxHeartbeats 4000000 in
set_option maxRecDepth 100000 in
theorem refMark_any (tb : Bool) (b : Bn) (ov lv : Value) (B : Nat) (w : World) (hB : B ≤ w.heap.size) (r : BR w B ov lv b) (h0 : bmay b = 0) :
    Calls Try.prog 52 #[.agg #[.int .i64 b.toks, .int .i64 b.look, ov, lv], .bool tb] w (MarkP w b tb) := by
  obtain ⟨oa, oc, rfl, ho1, ho2⟩ := r.of.val
  obtain ⟨la, lc, rfl, hl1, hl2⟩ := r.l.val
  obtain ⟨z1, z2, z3, z4, z5, z6, _⟩ := bmay_zero h0
  have hbox := BoxB.new b.toks b.look 25 hB r
  have hb1 := (Below.refl w.heap.size w).alloc (Nat.le_refl _) (.cells #[.int .i64 b.toks, .int .i64 b.look, .slice oa b.of.length oc, .slice la b.l.length lc] 25)
  obtain ⟨ol, hol⟩ : ∃ ol, ol = b.of.length := ⟨_, rfl⟩
  obtain ⟨ll, hll⟩ : ∃ ll, ll = b.l.length := ⟨_, rfl⟩
  obtain ⟨tk, htk⟩ : ∃ tk, tk = b.toks := ⟨_, rfl⟩
  obtain ⟨lk, hlk⟩ : ∃ lk, lk = b.look := ⟨_, rfl⟩
  rw [← hol, ← hll, ← htk, ← hlk] at hbox hb1
  rw [← hol, ← hll, ← htk, ← hlk]
  obtain ⟨i0, hi, hz0, hz1, hz2⟩ := info_parts info_boolT
  have Hbox := Lib.hid hbox; have Hb1 := Lib.hid hb1; have Hol := Lib.hid hol; have Hll := Lib.hid hll
  have Hz := Lib.hid (And.intro z1 (And.intro z2 (And.intro z3 (And.intro z4 (And.intro z5 z6)))))
  have ho500 : ol ≤ 500 := by omega
  have hl2000 : ll ≤ 2000 := by omega
  clear r hbox hb1 hol hll htk hlk ho1 ho2 hl1 hl2 hB z1 z2 z3 z4 z5 z6 h0
  go_enter Try.func52, Try.ntmps52
  go_upto_region 1 with fail
  generalize w.alloc (.cells #[.int .i64 tk, .int .i64 lk, .slice oa ol oc, .slice la ll lc] 25) = w1 at *
  obtain ⟨c0, c1, c2, c3, _, _, _⟩ := Hbox.out
  go_wp2_with (at_make; refine wpList_make_full _ rfl _ _ 50 rfl w1.heap.size 4 i0 (.bool false) 1 Try.underlying50 hi hz0 hz1 .i64 .i64 _ _ ol rfl rfl rfl rfl (by rw [hz2]; omega) (by unfold maxLen; omega) (Nat.le_refl _) ?_; intro wm hown hgrow; have Hown := Lib.hid hown; have Hgrow := Lib.hid hgrow; clear hown hgrow)
  have HB0 : Hid (Below w1.heap.size w1 wm) := Lib.hid ((Below.refl w1.heap.size w1).grown Hgrow.out (Nat.le_refl _) (fun k e => by cases e))
  have HR0 : Hid (wm.ownsRow w1.heap.size 4 1 (.slice (some ⟨w1.heap.size, 0, none⟩) ol ol) ol (bools (List.replicate ol false))) := Lib.hid (by
    have e : (madeCells (Value.bool false).cells (ol * 1)).toList = bools (List.replicate ol false) := by
      rw [Nat.mul_one]; show (madeCells #[Value.bool false] ol).toList = _
      rw [toList_madeCells_one]; simp [bools]
    have := Hown.out; rw [e] at this; exact this)
  have HI0 : Hid (MInv b tb (List.replicate ol false)) := Lib.hid ⟨by rw [List.length_replicate]; exact Hol.out, fun x hx => by
    rw [List.getElem?_replicate] at hx
    split at hx <;> cases hx⟩
  clear Hown Hgrow hi hz0 hz1 hz2 c0 c1 c2 c3
  go_loopw [6] (fun mv wr => ∃ (m : Bool) (st : List Bool), mv = .bool m ∧ Hid (MInv b tb st) ∧ Hid (wr.ownsRow w1.heap.size 4 1 (.slice (some ⟨w1.heap.size, 0, none⟩) ol ol) ol (bools st)) ∧ Hid (Below w1.heap.size w1 wr) ∧ Hid (m = false → ∀ j, j < b.l.length → (lookM b tb st j).2 < 0))
    (fun mv wr => match mv with | .bool true => mcount wr w1.heap.size ol + 1 | _ => 0)
  case atStart => exact ⟨true, _, rfl, HI0, HR0, HB0, Lib.hid (fun h => by cases h)⟩
  case round =>
    obtain ⟨m, st0, rfl, HI, HR, HB, HQ⟩ := hrel
    clear HI0 HR0 HB0
    cases m with
    | false =>
      have HF := Lib.hid (fix_of_quiet Hz.out.2.2.2.2.2 HI.out (HQ.out rfl))
      go_wp2_with fail
      go_ret
      refine ⟨_, st0, rfl, HF.out, ?_, Hb1.out.trans (HB.out.mono Hb1.out.size)⟩
      rw [HF.out.len, ← Hol.out]
      exact owns_baseP HR.out Hb1.out.size
    | true =>
      obtain ⟨wo, rfl⟩ : ∃ wo : World, wo = wr := ⟨_, rfl⟩
      go_wp2_with fail
      go_loopw [6, 7] (fun mv iv wx => ∃ (m : Bool) (st : List Bool) (i : Nat), i ≤ ll ∧ mv = .bool m ∧ iv = .int .i64 (i : Nat) ∧ Hid (MInv b tb st) ∧ Hid (wx.ownsRow w1.heap.size 4 1 (.slice (some ⟨w1.heap.size, 0, none⟩) ol ol) ol (bools st)) ∧ Hid (Below w1.heap.size w1 wx) ∧ Hid (m = false → st = st0 ∧ ∀ j, j < i → (lookM b tb st j).2 < 0) ∧ Hid (m = true → st.count false < st0.count false)) (fun _ iv _ => ll - (intOf iv).toNat)
      case atStart => exact ⟨false, st0, 0, Nat.zero_le _, rfl, rfl, HI, HR, HB, Lib.hid (fun _ => ⟨rfl, fun j hj => by omega⟩), Lib.hid (fun h => by cases h)⟩
      case round =>
        obtain ⟨m, st, i, hi, rfl, rfl, HI2, HR2, HB2, HQ2, HC2⟩ := hrel
        have Hbx := Lib.hid (Hbox.out.keep HB2.out)
        have c3 := Hbx.out.c3
        by_cases hlt : i < ll
        · have hlt' : i < b.l.length := by have := Hll.out; omega
          obtain ⟨b1, o1, a1, d1, hao, hbb, e0, e1, rk, m1, m2⟩ := Hbx.out.r.l.get i hlt'
          subst hao
          have hpo := Hz.out.2.2.2.2.2 _ (List.getElem_mem hlt')
          obtain ⟨hp1, hp2⟩ := prOk_left hpo
          have hps := fun s hs ht => prOk_sym (s := s) hpo hs ht
          have hlk := lookM_at b tb st i hlt'
          have hms := minv_set Hz.out.2.2.2.2.2 Hz.out.2.1 HI2.out i hlt'
          generalize b.l[i] = p at *
          obtain ⟨x, rt⟩ := p
          simp only at hp1 hp2 hps hlk hms e0 e1 rk m1
          obtain ⟨q, rfl⟩ : ∃ q : Nat, x = (q : Int) := ⟨x.toNat, by omega⟩
          rw [Int.toNat_natCast] at hlk hms
          have hlen : st.length = ol := by rw [HI2.out.len]; exact Hol.out.symm
          have hql : q < st.length := by rw [HI2.out.len]; omega
          obtain ⟨gw, hv, _, hglt, hcl, hfr⟩ := owns_cellN HR2.out (by omega)
          simp only [Option.some.injEq, Addr.mk.injEq, and_true] at hv
          subst hv
          have c9 := hcl q _ (bools_at st q hql)
          have f9 := hfr q
          rw [List.getElem?_eq_getElem hql, Option.getD_some] at hlk hms
          have Hlk := Lib.hid hlk; have Hms := Lib.hid hms
          have hi1 : (i : Int) < (ll : Int) := by omega
          have hi2 : (0 : Int) ≤ (i : Int) := by omega
          have hq1 : (q : Int) < (ol : Int) := by omega
          have hq2 : (0 : Int) ≤ (q : Int) := by omega
          have Hrow := Lib.hid (refRow_any tb st rt (.slice a1 rt.length d1) w1.heap.size ol ol B wr Hbx.out.le rk hlen (by omega) (fun j hj => hcl j _ (bools_at st j hj)) (fun s hs ht => by have := hps s hs ht; have := Hol.out; omega))
          have Hset : Hid (∀ h : st[q]? = some false, (st.set q true).count false < st.count false) := Lib.hid (fun h => count_set_lt st q h)
          have Hat := Lib.hid (List.getElem?_eq_getElem hql)
          have Hput := Lib.hid (show (wr.setCell ⟨w1.heap.size, q, none⟩ (.bool true)).ownsRow w1.heap.size 4 1 (.slice (some ⟨w1.heap.size, 0, none⟩) ol ol) ol (bools (st.set q true)) by rw [← bools_set]; exact owns_setN HR2.out q (by rw [bools_length]; omega) _)
          have HB3 := Lib.hid (HB2.out.setCell (p := ⟨w1.heap.size, q, none⟩) (Nat.le_refl _) (.bool true))
          have Hlt := Lib.hid hlt
          obtain ⟨rn, hrn⟩ : ∃ rn, rn = rt.length := ⟨_, rfl⟩
          rw [← hrn] at e1 Hrow
          generalize st[q] = v at *
          clear hpo hp1 hp2 hps hlk hms rk m1 m2 hcl hfr hlt hlt' hbb hrn hql hlen hi
          cases v with
          | true =>
            have HQ3 : Hid (m = false → st = st0 ∧ ∀ j, j < i + 1 → (lookM b tb st j).2 < 0) := Lib.hid fun hm => ⟨(HQ2.out hm).1, fun j hj => by
              rcases Nat.lt_or_ge j i with h | h
              · exact (HQ2.out hm).2 j h
              · obtain rfl : j = i := by omega
                rw [Hlk.out]; simp⟩
            clear Hlk Hms Hrow Hset Hat Hput HB3
            go_wp2_with fail
            go_roundw
            case rel => exact ⟨m, st, i + 1, Hlt.out, rfl, by go_num, HI2, HR2, HB2, HQ3, HC2⟩
            case measure => have := Hlt.out; simp [intOf]; omega
          | false =>
            cases hrb : rowB tb st rt with
            | true =>
              rw [hrb] at Hrow
              have HI3 := Lib.hid (Hms.out rfl hrb)
              have HC3 : Hid (true = true → (st.set q true).count false < st0.count false) := Lib.hid fun _ => by
                have h1 := Hset.out Hat.out
                cases m with
                | true => have := HC2.out rfl; omega
                | false => have := (HQ2.out rfl).1; rw [this] at h1 ⊢; exact h1
              clear Hlk Hms Hset Hat
              go_wp2_with fail
              refine (Hrow.out).mono ?_
              rintro e w5 ⟨rfl, rfl⟩
              go_wp2_with fail
              go_roundw
              case rel => exact ⟨true, _, i + 1, Hlt.out, rfl, by go_num, HI3, Hput, HB3, Lib.hid (fun h => by cases h), Lib.hid (fun _ => HC3.out trivial)⟩
              case measure => have := Hlt.out; simp [intOf]; omega
            | false =>
              rw [hrb] at Hrow
              have HQ3 : Hid (m = false → st = st0 ∧ ∀ j, j < i + 1 → (lookM b tb st j).2 < 0) := Lib.hid fun hm => ⟨(HQ2.out hm).1, fun j hj => by
                rcases Nat.lt_or_ge j i with h | h
                · exact (HQ2.out hm).2 j h
                · obtain rfl : j = i := by omega
                  rw [Hlk.out, hrb]; simp⟩
              clear Hlk Hms Hset Hat Hput HB3
              go_wp2_with fail
              refine (Hrow.out).mono ?_
              rintro e w5 ⟨rfl, rfl⟩
              go_wp2_with fail
              go_roundw
              case rel => exact ⟨m, st, i + 1, Hlt.out, rfl, by go_num, HI2, HR2, HB2, HQ3, HC2⟩
              case measure => have := Hlt.out; simp [intOf]; omega
        · obtain rfl : i = ll := by omega
          have HQ3 : Hid (m = false → ∀ j, j < b.l.length → (lookM b tb st j).2 < 0) := Lib.hid fun hm j hj => (HQ2.out hm).2 j (by have := Hll.out; omega)
          have hc1 := Lib.hid (mcount_own HR.out)
          have hc2 := Lib.hid (mcount_own HR2.out)
          go_wp2_with fail
          go_roundw
          case rel => exact ⟨m, st, rfl, HI2, HR2, HB2, HQ3⟩
          case measure =>
            cases m with
            | false => simp
            | true => have := HC2.out rfl; have := hc1.out; have := hc2.out; simp; omega
end Go.Proofs.Ytimgnbacgdmiiaa
namespace Go.Proofs.Ytimgnbacgdmiiaa
open Go.RowKit
set_option linter.unusedVariables false
set_option linter.unusedSimpArgs false

theorem agg_box (w : World) (tk lk : Int) (ov lv : Value) (T : TypeId) : Below w.heap.size w (w.alloc (.cells #[.int .i64 tk, .int .i64 lk, ov, lv] T)) := (Below.refl w.heap.size w).alloc (Nat.le_refl _) _
theorem SomeP.up {w w1 w' : World} {b : Bn} {tk : Bool} {e : Ending} (h : SomeP w1 b tk e w') (hb : Below w.heap.size w w1) : SomeP w b tk e w' := by
  obtain ⟨h1, h2⟩ := h
  refine ⟨?_, hb.trans (h2.mono hb.size)⟩
  rcases h1 with h1 | ⟨h0, v, st, he, hF, ho⟩
  · exact .inl h1
  · exact .inr ⟨h0, v, st, he, hF, owns_baseP ho hb.size⟩

set_option maxHeartbeats 1000000 in
theorem refNothing_any (b : Bn) (ov lv : Value) (B : Nat) (w : World) (hB : B ≤ w.heap.size) (r : BR w B ov lv b) (h0 : bmay b = 0) :
    Calls Try.prog 102 #[.agg #[.int .i64 b.toks, .int .i64 b.look, ov, lv]] w (MarkP w b false) := by
  obtain ⟨oa, oc, rfl, _, _⟩ := r.of.val
  obtain ⟨la, lc, rfl, _, _⟩ := r.l.val
  have hb := agg_box w b.toks b.look (.slice oa b.of.length oc) (.slice la b.l.length lc) 25
  have H := Lib.hid (refMark_any false b (.slice oa b.of.length oc) (.slice la b.l.length lc) B _ (Nat.le_trans hB hb.size) (r.below (hb.mono hB)) h0)
  have Hb := Lib.hid hb
  clear r hB hb h0
  go_enter Try.func102, Try.ntmps102
  go_wp2_with fail
  refine (H.out).mono ?_
  rintro e w1 ⟨v, st, rfl, hF, ho, hbw⟩
  obtain ⟨a, c, rfl, _, _⟩ := owns_valP ho
  have HF := Lib.hid hF; have Ho := Lib.hid ho; have Hbw := Lib.hid hbw
  clear hF ho hbw
  go_wp2_with fail
  go_ret
  exact ⟨_, st, rfl, HF.out, owns_baseP Ho.out Hb.out.size, Hb.out.trans (Hbw.out.mono Hb.out.size)⟩

set_option maxHeartbeats 1000000 in
theorem refEnds_any (b : Bn) (ov lv : Value) (B : Nat) (w : World) (hB : B ≤ w.heap.size) (r : BR w B ov lv b) (h0 : bmay b = 0) :
    Calls Try.prog 27 #[.agg #[.int .i64 b.toks, .int .i64 b.look, ov, lv]] w (MarkP w b true) := by
  obtain ⟨oa, oc, rfl, _, _⟩ := r.of.val
  obtain ⟨la, lc, rfl, _, _⟩ := r.l.val
  have hb := agg_box w b.toks b.look (.slice oa b.of.length oc) (.slice la b.l.length lc) 25
  have H := Lib.hid (refMark_any true b (.slice oa b.of.length oc) (.slice la b.l.length lc) B _ (Nat.le_trans hB hb.size) (r.below (hb.mono hB)) h0)
  have Hb := Lib.hid hb
  clear r hB hb h0
  go_enter Try.func27, Try.ntmps27
  go_wp2_with fail
  refine (H.out).mono ?_
  rintro e w1 ⟨v, st, rfl, hF, ho, hbw⟩
  obtain ⟨a, c, rfl, _, _⟩ := owns_valP ho
  have HF := Lib.hid hF; have Ho := Lib.hid ho; have Hbw := Lib.hid hbw
  clear hF ho hbw
  go_wp2_with fail
  go_ret
  exact ⟨_, st, rfl, HF.out, owns_baseP Ho.out Hb.out.size, Hb.out.trans (Hbw.out.mono Hb.out.size)⟩

/-- What Row asks of a symbol. -/
def rowSE (b : Bn) (st : List Bool) (s : Sy) : Bool := !s.tok && decide (0 ≤ s.n) && decide (s.n < b.of.length) && (st[s.n.toNat]?).getD false
def RowP (w : World) (b : Bn) (l : List Sy) (e : Ending) (w' : World) : Prop :=
  ((bmay b ≠ 0 ∧ e = .returned (.bool false)) ∨ (bmay b = 0 ∧ ∃ x, e = .returned (.bool x) ∧ ∀ st, Fix b false st → x = l.all (rowSE b st))) ∧ Below w.heap.size w w'
theorem RowP.val {w w' w2 w3 : World} {b : Bn} {l : List Sy} {e e2 : Ending} (h1 : RowP w b l e w') (h2 : RowP w2 b l e2 w3) (hex : bmay b = 0 → ∃ st, Fix b false st) : ∃ x, e = .returned (.bool x) ∧ e2 = .returned (.bool x) := by
  rcases h1.1 with ⟨a, rfl⟩ | ⟨a, x, rfl, hx⟩
  · rcases h2.1 with ⟨_, rfl⟩ | ⟨b, _⟩
    · exact ⟨_, rfl, rfl⟩
    · exact absurd b a
  · rcases h2.1 with ⟨b, _⟩ | ⟨_, y, rfl, hy⟩
    · exact absurd a b
    · obtain ⟨st, hF⟩ := hex a
      exact ⟨x, rfl, by rw [hx st hF, hy st hF]⟩

end Go.Proofs.Ytimgnbacgdmiiaa
