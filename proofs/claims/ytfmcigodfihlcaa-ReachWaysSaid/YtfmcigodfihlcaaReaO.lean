/-
  reach.back; a map of numbers to numbers; what the search owns.
-/
import Derived.Test.YtfmcigodfihlcaaReaN
namespace Go.Proofs.Ytfmcigodfihlcaa
open Go.RowKit PK Go.Maps Go.WideMaps Go.Sort
set_option linter.unusedVariables false
set_option linter.unusedSimpArgs false
attribute [local go_sem ↓] append_appM

theorem zeroIntM (w : World) : (zeroValue 3).run Try.prog w = .ok (.int .i64 0) w := by kernel_rfl
theorem MapIs.look_okI {w : World} {b n : Nat} {f : Int → Option Value} (h : MapIs w b n f) (k : Int) (hk : In64 k) :
    ∃ v, (Instr.lookup 73 (.map (some b)) (.int .i64 k) true).run Try.prog w = .ok (.tuple #[v, .bool (f k).isSome]) w := by
  obtain ⟨D, hD, _, hf⟩ := h
  obtain ⟨v, ps, hrun, _⟩ := hD.look_ok keyInt Try.underlying73 (zeroIntM w) (zd := .held (.int .i64 0)) (zp := []) rfl (keyAt hk)
  rw [(hf k).1] at hrun
  exact ⟨v, hrun⟩
theorem MapIs.lookI {w : World} {b n : Nat} {f : Int → Option Value} (h : MapIs w b n f) (k : Int) (hk : In64 k) (v : Value) (hv : f k = some v) :
    (Instr.lookup 73 (.map (some b)) (.int .i64 k) false).run Try.prog w = .ok v w := by
  obtain ⟨D, hD, _, hf⟩ := h
  obtain ⟨u, ps, hrun, hu⟩ := hD.lookup keyInt Try.underlying73 (zeroIntM w) (zd := .held (.int .i64 0)) (zp := []) rfl (keyAt hk)
  rw [(hf k).2 v _ hv] at hu
  simp only [RV, Option.some.injEq, Prod.mk.injEq, DataW.held.injEq] at hu
  rw [← hu.1]; exact hrun
theorem MapIs.updateI {w : World} {b n : Nat} {f : Int → Option Value} (h : MapIs w b n f) (hn : n < maxLen) (k : Int) (hk : In64 k) (v : Value) :
    ∃ w', (Instr.mapUpdate 73 (.map (some b)) (.int .i64 k) v).run Try.prog w = .ok () w' ∧ MapIs w' b (n + 1) (fun j => if j = k then some v else f j) ∧ w.grownBy w' (some b) := by
  obtain ⟨D, hD, hm, hf⟩ := h
  obtain ⟨w', hrun, hD', hg⟩ := hD.update keyInt Try.underlying73 hn (keyAt hk) (val := v) (d := .held v) (ps := []) rfl
  refine ⟨w', hrun, ⟨_, hD', ?_, fun j => ?_⟩, hg⟩
  · obtain ⟨es, rfl⟩ := hm; exact ⟨_, rfl⟩
  · by_cases e : j = k
    · subst e
      rw [has_put_same hm (by trivial)]
      simp only [if_true, Option.isSome_some]
      refine ⟨trivial, fun u zd hu => ?_⟩
      cases hu
      exact atKey_put_same hm (by trivial) ..
    · have hne : (Lit.int .i64 j) ≠ .int .i64 k := fun h => e (by injection h)
      rw [has_put_other hne]
      simp only [if_neg e]
      refine ⟨(hf j).1, fun u zd hu => ?_⟩
      rw [atKey_put_other hne]; exact (hf j).2 u zd hu
theorem own_one (w : World) (n : Int) {base : Nat} (hb : base ≤ w.heap.size) : (w.alloc (.cells #[.int .i64 n] 3)).ownsRow base 3 1 (.slice (some ⟨w.heap.size, 0, none⟩) 1 1) 1 (ints [n]) :=
  ⟨by simp [ints], .inr ⟨w.heap.size, 1, #[.int .i64 n], rfl, hb, heap_alloc_new w _, Nat.le_refl _, by unfold maxLen; omega, rfl, rfl⟩⟩
theorem revI_any (v : Value) (l : List Int) (n : Nat) (w : World) (hn : n ≤ w.heap.size) (hown : w.ownsRow n 3 1 v l.length (ints l)) (h0 : l.length ≠ 0) (hl : l.length ≤ 100000000) :
    Calls Try.prog 60 #[v] w fun e w' => e = .returned (.tuple #[]) ∧ w'.ownsRow n 3 1 v l.length (ints l.reverse) ∧ Below n w w' := by
  obtain ⟨g, cap, rfl, hbg, hg1, hncap, hcm, _, hH1⟩ := Lib.holds_of_ownsRow hown (fun e => by
    obtain ⟨a, c, hv, _⟩ := owns_valP hown
    rw [e] at hv; simp at hv; exact h0 (by omega))
  refine (Try.slices_Reverse_int g 0 cap l w hH1 (by omega)).mono ?_
  rintro e w2 ⟨rfl, q, hw2⟩
  refine ⟨rfl, ?_, ?_⟩
  · rw [hw2]
    have h5 := Lib.ownsRow_putRow (q := q) (k := l.length) (ys := l.reverse) hown (by rw [List.length_reverse]) (Nat.le_refl _)
    rw [List.take_of_length_le (by rw [List.length_reverse]; exact Nat.le_refl _)] at h5
    exact h5
  · rw [hw2]
    exact Lib.below_putRow (Below.refl n w) hbg
def lenV : Value → Nat
  | .slice _ n _ => n
  | _ => 0
def fV (f : Int → Option Int) : Int → Option Value := fun x => (f x).map (Value.int .i64 ·)
set_option maxHeartbeats 4000000 in
set_option maxRecDepth 100000 in
theorem back_any (w : World) (bm cnt : Nat) (f : Int → Option Int) (n last : Int) (P : List Int) (hM : MapIs w bm cnt (fV f)) (hb : Bk f n last P) (hP : P.length ≤ 1000) (hr : ∀ x ∈ P, In64 x) :
    Calls Try.prog 56 #[.map (some bm), .int .i64 last, .int .i64 n] w (OwnI w (n :: P.reverse ++ [n])) := by
  have hown0 := own_one w n (Nat.le_refl w.heap.size)
  have hb0 := (Below.refl w.heap.size w).alloc (Nat.le_refl _) (.cells #[.int .i64 n] 3)
  have HM := Lib.hid hM; have HB0 := Lib.hid hb0; have HK := Lib.hid hb; have HP := Lib.hid hP; have HR := Lib.hid hr; have Hown0 := Lib.hid hown0
  clear hM hb hP hr hown0 hb0
  go_enter Try.func56, Try.ntmps56
  go_wp2_with fail
  go_loopw [7, 8] (fun lv mv wr => ∃ (Q dn : List Int) (x : Int), mv = .int .i64 x ∧ Hid (Bk f n x Q) ∧ Hid (P = dn ++ Q) ∧ Hid (wr.ownsRow w.heap.size 3 1 lv (n :: dn).length (ints (n :: dn))) ∧ Hid (Below w.heap.size w wr)) (fun lv _ _ => P.length + 1 - lenV lv)
  case atStart => exact ⟨P, [], last, rfl, HK, Lib.hid rfl, Hown0, HB0⟩
  case round =>
    clear HK Hown0 HB0
    obtain ⟨Q, dn, x, rfl, HQ, HD, HL, HB⟩ := hrel
    obtain ⟨va, vc, rfl, _, _⟩ := owns_valP HL.out
    have hdl : dn.length + Q.length = P.length := by rw [HD.out, List.length_append]
    have Hlen : Hid ((n :: dn).length ≤ 1001) := Lib.hid (by rw [List.length_cons]; have := HP.out; omega)
    have hq := HQ.out
    cases hq with
    | nil =>
      have hdn : dn = P := by have := HD.out; rw [List.append_nil] at this; exact this.symm
      subst hdn
      have hne : (n != n) = false := by simp
      obtain ⟨a3, d3, w3, happ, hown3, hb3⟩ := own_push HB.out.size HL.out n (by have := Hlen.out; omega)
      have HB3 := Lib.hid (HB.out.trans hb3)
      have hrv := revI_any (.slice a3 ((n :: dn).length + 1) d3) (n :: dn ++ [n]) w.heap.size w3 HB3.out.size hown3 (by simp) (by have := Hlen.out; rw [List.length_append, List.length_singleton]; omega)
      have Hrv := Lib.hid hrv
      have Hl1 : Hid ((n :: dn ++ [n]).length = (n :: dn).length + 1) := Lib.hid (by rw [List.length_append, List.length_singleton])
      have Hrev : Hid ((n :: dn ++ [n]).reverse = n :: dn.reverse ++ [n]) := Lib.hid (by simp)
      obtain ⟨ln, hln⟩ : ∃ ln, ln = (n :: dn).length := ⟨_, rfl⟩
      rw [← hln] at happ Hrv Hl1 ⊢
      clear hown3 hb3 hrv hln hdl
      go_wp2_with fail
      refine (Hrv.out).mono ?_
      rintro e w4 ⟨rfl, hown4, hb4⟩
      have HE : Hid (OwnI w (n :: dn.reverse ++ [n]) (.returned (.slice a3 (ln + 1) d3)) w4) := Lib.hid ⟨_, rfl, by
        rw [Hrev.out] at hown4
        have e : (n :: dn.reverse ++ [n]).length = (n :: dn ++ [n]).length := by simp
        rw [e]; exact hown4, HB3.out.trans hb4⟩
      clear hown4 hb4 Hrv
      go_wp2_with fail
      go_ret
      exact HE.out
    | @cons _ y Q2 hxn hfx hq2 =>
      have hne : (x != n) = true := by simp [hxn]
      have HD2 : Hid (P = (dn ++ [x]) ++ Q2) := Lib.hid (by rw [HD.out]; simp)
      have HQ2 := Lib.hid hq2
      have hxr : In64 x := HR.out x (by rw [HD.out]; simp)
      obtain ⟨a3, d3, w3, happ, hown3, hb3⟩ := own_push HB.out.size HL.out x (by have := Hlen.out; omega)
      have HB3 := Lib.hid (HB.out.trans hb3)
      have hlk := (HM.out.below HB3.out).lookI x hxr (.int .i64 y) (by unfold fV; rw [hfx]; rfl)
      have Hown3 := Lib.hid hown3
      have Hmu : Hid (P.length + 1 - ((n :: dn).length + 1) < P.length + 1 - (n :: dn).length) := Lib.hid (by rw [List.length_cons] at *; omega)
      obtain ⟨ln, hln⟩ : ∃ ln, ln = (n :: dn).length := ⟨_, rfl⟩
      rw [← hln] at happ Hown3 Hmu ⊢
      clear hown3 hb3 hln hdl hq2 hfx hxn hxr
      go_wp2_with fail
      go_roundw
      case rel => exact ⟨Q2, dn ++ [x], y, rfl, HQ2, HD2, Hown3, HB3⟩
      case measure => have := Hmu.out; simpa [lenV] using this
/-- What the search owns: the map and the list. -/
structure WS (w2 wx : World) (f : Int → Option Int) (lv : Value) (L : List Int) : Prop where
  map : ∃ k, k ≤ L.length ∧ MapIs wx w2.heap.size k (fV f)
  bel : Below w2.heap.size w2 wx
  row : wx.ownsRow (w2.heap.size + 1) 3 1 lv L.length (ints L)
theorem WS.made (w2 : World) (n : Int) : WS w2 ((w2.alloc (.map #[] 0)).alloc (.cells #[.int .i64 n] 3)) (fun _ => none) (.slice (some ⟨w2.heap.size + 1, 0, none⟩) 1 1) [n] := by
  have hb1 := (Below.refl w2.heap.size w2).alloc (Nat.le_refl _) (.map #[] 0)
  have hs : (w2.alloc (.map #[] 0)).heap.size = w2.heap.size + 1 := by simp
  have hb2 := (Below.refl _ (w2.alloc (.map #[] 0))).alloc (Nat.le_refl _) (.cells #[.int .i64 n] 3)
  have ho := own_one (w2.alloc (.map #[] 0)) n (Nat.le_refl (w2.alloc (.map #[] 0)).heap.size)
  rw [hs] at ho
  exact ⟨⟨0, Nat.zero_le _, (MapIs.made w2).below hb2⟩, hb1.trans (hb2.mono hb1.size), ho⟩
theorem WS.keep {w2 wx wy : World} {f : Int → Option Int} {lv : Value} {L : List Int} (h : WS w2 wx f lv L) (hb : Below wx.heap.size wx wy) : WS w2 wy f lv L := by
  obtain ⟨k, hk, hm⟩ := h.map
  exact ⟨⟨k, hk, hm.below hb⟩, h.bel.trans (hb.mono h.bel.size), owns_belowP h.row hb⟩
theorem WS.push {w2 wx : World} {f : Int → Option Int} {lv : Value} {L : List Int} (h : WS w2 wx f lv L) (hl : L.length ≤ 1000) (m x : Int) (hm : In64 m) :
    ∃ w3 a c w4, (Instr.mapUpdate 73 (.map (some w2.heap.size)) (.int .i64 m) (.int .i64 x)).run Try.prog wx = .ok () w3 ∧
      Sem.run Try.prog (appM #[22, 22] 22 #[lv, .slice (some ⟨w3.heap.size, 0, none⟩) 1 1]) (w3.alloc (.cells #[.int .i64 m] 3)) = .ok (.slice a (L.length + 1) c) w4 ∧
      WS w2 w4 (fun j => if j = m then some x else f j) (.slice a (L.length + 1) c) (L ++ [m]) := by
  obtain ⟨k, hk, hmp⟩ := h.map
  obtain ⟨w3, hrun, hmp3, hg3⟩ := hmp.updateI (by unfold maxLen; omega) m hm (.int .i64 x)
  have hfe : (fun j => if j = m then some (Value.int .i64 x) else fV f j) = fV (fun j => if j = m then some x else f j) := by
    funext j; unfold fV; by_cases e : j = m <;> simp [e]
  rw [hfe] at hmp3
  have hbm : ∀ g, lv.ownBlock = some g → w2.heap.size + 1 ≤ g ∧ g < wx.heap.size := fun g hg => h.row.lt g hg
  have hrow3 : w3.ownsRow (w2.heap.size + 1) 3 1 lv L.length (ints L) := owns_blockN h.row fun g hg => hg3.block g (hbm g hg).2 (fun e => by have := (hbm g hg).1; cases e; omega)
  have hb3 : Below w2.heap.size w2 w3 := h.bel.grown hg3 h.bel.size (fun b e => by cases e; exact Nat.le_refl _)
  have hlt3 := hmp3.lt
  obtain ⟨a, c, w4, happ, hown4, hb4, hkp, _⟩ := own_push2 (n := w2.heap.size + 1) (by omega) hrow3 m (by omega)
  have hg4 : w3.grownBy w4 lv.ownBlock := ⟨hb4.os, hb4.tape, hb4.output, hb4.size, fun q hq hne => hkp q hq (fun e => hne e.symm)⟩
  refine ⟨w3, a, c, w4, hrun, happ, ⟨k + 1, by rw [List.length_append, List.length_singleton]; omega, hmp3.kept hg4 (fun e => by have := (hbm _ e.symm).1; omega)⟩, hb3.trans (hb4.mono (by omega)), ?_⟩
  rw [List.length_append] at hown4 ⊢; exact hown4
end Go.Proofs.Ytfmcigodfihlcaa
