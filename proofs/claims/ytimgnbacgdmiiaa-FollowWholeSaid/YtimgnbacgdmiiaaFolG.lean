/-
  The document's follow.Of.
-/
import Derived.Test.YtimgnbacgdmiiaaFolE
import Derived.Test.YtimgnbacgdmiiaaKPackK
import Derived.Deep.DeepCutAuto
namespace Go.Proofs.Ytimgnbacgdmiiaa
open Go.RowKit PK Go.Maps Go.WideMaps
set_option linter.unusedVariables false
set_option linter.unusedSimpArgs false
attribute [local go_sem ↓] append_appM

set_option maxHeartbeats 1000000 in
theorem refJoinW_any (v1 v2 : Value) (a l : List Tx) (B1 B2 : Nat) (w : World) (hB1 : B1 ≤ w.heap.size) (hB2 : B2 ≤ w.heap.size) (r1 : Row w B1 1 v1 a.length (svt a)) (r2 : Row w B2 1 v2 l.length (svt l)) (ha : a.length ≤ 100000) (hl : l.length ≤ 1000000) :
    Calls Try.prog 43 #[v1, v2] w (OwnT w (joinL a l)) := by
  obtain ⟨ao, c, rfl, hc1, hc2⟩ := r2.val
  have hl63 : l.length ≤ 9223372036854775807 := by unfold maxLen at hc2; omega
  have R := Lib.hid r2
  have Hmk := Lib.hid (refMake_any v1 a B1 w hB1 r1 ha)
  clear r1 r2
  go_enter Try.func43, Try.ntmps43
  go_wp2_with fail
  refine (Hmk.out).mono ?_
  rintro e w1 ⟨vo, rfl, hown0, hb0⟩
  have Hown0 := Lib.hid hown0
  have Hb0 := Lib.hid hb0
  clear hown0 hb0
  go_wp2_with fail
  go_loopw [5, 6] (fun o i wr => ∃ k : Nat, k ≤ l.length ∧ i = .int .i64 k ∧ wr.ownsRow w.heap.size 9 1 o (joinL a (l.take k)).length (svt (joinL a (l.take k))) ∧ Below w.heap.size w wr) (fun _ i _ => l.length - (intOf i).toNat)
  case atStart => exact ⟨0, Nat.zero_le _, rfl, by rw [List.take_zero]; unfold joinL; rw [List.append_nil]; exact Hown0.out, Hb0.out⟩
  case round =>
    obtain ⟨k, hk, rfl, hown, hbel⟩ := hrel
    have Hown := Lib.hid hown
    by_cases hlt : k < l.length
    · have a1 := R.out.below (hbel.mono hB2)
      obtain ⟨b1, o1, rfl, hb1, _⟩ := a1.at (by rw [svt_length]; omega)
      have c10 := a1.cell k _ (svt_at l k hlt)
      have hk0 : (k : Int) < (l.length : Int) := by omega
      have hk1 : (0 : Int) ≤ (k : Int) := by omega
      have hlen := toSet_len (a ++ l.take k)
      rw [List.length_append, List.length_take] at hlen
      have Hput := Lib.hid (refPut_any _ (joinL a (l.take k)) l[k] w.heap.size wr hbel.size hown (toSet_set _) (by unfold joinL; omega) _ rfl)
      have Hst := Lib.hid (joinL_take a l k hlt)
      have Hbel := Lib.hid hbel
      clear a1 hown
      generalize l[k] = x at *
      go_wp2_with fail
      refine (Hput.out).mono ?_
      rintro e w2 ⟨v2, rfl, hown2, hb2⟩
      go_wp2_with fail
      go_roundw
      case rel => exact ⟨k + 1, hlt, by go_num, by have h := hown2; rw [Hst.out] at h; exact h, Hbel.out.trans hb2⟩
      case measure => simp [intOf]; omega
    · obtain rfl : k = l.length := by omega
      rw [List.take_length] at Hown
      clear hown
      go_wp2_with fail
      go_ret
      exact ⟨_, rfl, Hown.out, hbel⟩
theorem mu_putF {most : Nat} {F : Sts} (j : Nat) (hj : j < F.length) (a : List Tx) (h1 : F[j].length < a.length) (h2 : a.length ≤ most) : muG most (some (F.set j a)) < muG most (some F) := by
  show 1 + _ < 1 + _
  rw [List.map_set]
  have := sum_set_lt (F.map fun a => most - a.length) j (most - a.length) (by simpa using hj) (by rw [List.getElem_map]; omega)
  omega
theorem tri_ok {b : Bn} {k : Int} {S : Sts} (h0 : bmay b = 0) : TriOk (stAll k S b.l) b.of.length := fun t ht => by
  obtain ⟨z1, z2, z3, z4, z5, z6, z7, z8, z9, z10⟩ := bmay_zero h0
  obtain ⟨p, hp, i, s, h1, h2, rfl⟩ := stAll_mem ht
  exact ⟨prOk_left (z6 p hp), prOk_sym (z6 p hp) (List.mem_of_getElem? h1) h2⟩
/-- Nothing is to be done where a symbol stands. -/
def QS (k : Int) (S F : Sts) (p : Pr) (j : Nat) : Prop := ∀ s, p.right[j]? = some s → s.tok = false → ¬ OverR k 600 S (p.right.drop (j + 1)) ∧ ∀ x ∈ catL (rowS k S (p.right.drop (j + 1))) (stAt F p.left) k, x ∈ stAt F s.n
theorem qs_done {b : Bn} {k : Int} {S F : Sts} {z : Tx} (hz : z ∈ stAt F 0) (h : ∀ p ∈ b.l, ∀ j, QS k S F p j) : ¬ OverSt b k S ∧ ClosedF (stAll k S b.l) k z F := by
  refine ⟨fun ⟨p, hp, i, s, h1, h2, h3⟩ => (h p hp i s h1 h2).1 h3, hz, fun t ht x hx => ?_⟩
  obtain ⟨p, hp, i, s, h1, h2, rfl⟩ := stAll_mem ht
  exact (h p hp i s h1 h2).2 x hx
/-- What the document's Of answers. -/
def RFolP (w : World) (b : Bn) (e : Ending) (w' : World) : Prop :=
  ((bmay b ≠ 0 ∧ e = .returned (.tuple #[.slice none 0 0, .int .i64 (bmay b)])) ∨ (bmay b = 0 ∧ ((∃ g c F S, e = .returned (.tuple #[.slice (some ⟨g, 0, none⟩) b.of.length c, .int .i64 0]) ∧ GoodSt b S ∧ ¬ OverSt b b.look S ∧ InvF (stAll b.look S b.l) b.look 600 (endT b.look) b.of.length F ∧ ClosedF (stAll b.look S b.l) b.look (endT b.look) F ∧ SetsR w' g b.of.length c F) ∨ (e = .returned (.tuple #[.slice none 0 0, .int .i64 15]) ∧ ((∃ S, Sound b b.look S ∧ Over b b.look 600 S) ∨ ∃ S, GoodSt b S ∧ (OverSt b b.look S ∨ ∃ F, SoundF (stAll b.look S b.l) b.look (endT b.look) b.of.length F ∧ OverF (stAll b.look S b.l) b.look 600 F)))))) ∧ Below w.heap.size w w'
set_option maxHeartbeats 8000000 in
set_option maxRecDepth 100000 in
theorem refOf15_any (b : Bn) (tk lk : Int) (ov lv : Value) (B : Nat) (w : World) (etk : b.toks = tk) (elk : b.look = lk) (hB : B ≤ w.heap.size) (r : BR w B ov lv b) :
    Calls Try.prog 24 #[.agg #[.int .i64 tk, .int .i64 lk, ov, lv]] w (RFolP w b) := by
  obtain ⟨oa, oc, rfl, ho1, ho2⟩ := r.of.val
  obtain ⟨la, lc, rfl, hl1, hl2⟩ := r.l.val
  subst etk elk
  have hbox := BoxB.new b.toks b.look 25 hB r
  have hb1 := (Below.refl w.heap.size w).alloc (Nat.le_refl _) (.cells #[.int .i64 b.toks, .int .i64 b.look, .slice oa b.of.length oc, .slice la b.l.length lc] 25)
  have hs1 : (w.alloc (.cells #[.int .i64 b.toks, .int .i64 b.look, .slice oa b.of.length oc, .slice la b.l.length lc] 25)).heap.size = w.heap.size + 1 := by simp
  have hfi := refOf14_any b b.toks b.look (.slice oa b.of.length oc) (.slice la b.l.length lc) B _ rfl rfl hbox.le hbox.r
  obtain ⟨ol, hol⟩ : ∃ ol, ol = b.of.length := ⟨_, rfl⟩
  obtain ⟨ll, hll⟩ : ∃ ll, ll = b.l.length := ⟨_, rfl⟩
  obtain ⟨tk, htk⟩ : ∃ tk, tk = b.toks := ⟨_, rfl⟩
  obtain ⟨lk, hlk⟩ : ∃ lk, lk = b.look := ⟨_, rfl⟩
  rw [← hol, ← hll, ← htk, ← hlk] at hbox hb1 hs1 hfi
  rw [← hol, ← hll, ← htk, ← hlk]
  have Hbox := Lib.hid hbox; have Hb1 := Lib.hid hb1; have Hs1 := Lib.hid hs1; have Hfi := Lib.hid hfi; have Hol := Lib.hid hol; have Hll := Lib.hid hll; have Hlk := Lib.hid hlk; have Htk := Lib.hid htk
  clear r hbox hb1 hs1 hfi hol hll htk hlk ho1 ho2 hl1 hl2 hB
  go_enter Try.func24, Try.ntmps24
  go_upto_region 1 with fail
  generalize w.alloc (.cells #[.int .i64 tk, .int .i64 lk, .slice oa ol oc, .slice la ll lc] 25) = w1 at *
  obtain ⟨c0, c1, c2, c3⟩ := Hbox.out.four
  go_wp2_with fail
  refine (Hfi.out).mono ?_
  rintro e w2 ⟨hor, hb2⟩
  have HB2 := Lib.hid (Hb1.out.trans (hb2.mono Hb1.out.size))
  have Hbx2 := Lib.hid (Hbox.out.keep hb2)
  have Hlt2 : Hid (w.heap.size < w2.heap.size) := Lib.hid (by have := Hs1.out; have := hb2.size; omega)
  clear hb2 c0 c1 c2 c3 Hfi
  rcases hor with ⟨h0, rfl⟩ | ⟨h0, ⟨gB, cB, S, rfl, hI, hC, hno, hSR⟩ | ⟨rfl, hov⟩⟩
  · have hx : ∃ x, x = bmay b ∧ (x == 0) = false := ⟨_, rfl, by rw [beq_eq_false_iff_ne]; exact h0⟩
    obtain ⟨x, hxe, hx0⟩ := hx
    have hxf : (x != 0) = true := by simp [bne, hx0]
    rw [← hxe]
    have HE : Hid (RFolP w b (.returned (.tuple #[.slice none 0 0, .int .i64 x])) w2) := Lib.hid ⟨.inl ⟨h0, by rw [hxe]⟩, HB2.out⟩
    clear h0 hxe
    go_wp2_with fail
    go_ret2
    exact HE.out
  · have hz := bmay_zero h0
    have HS0 := Lib.hid (And.intro h0 (And.intro hI (And.intro hC hno)))
    have HSO : Hid (SOk lk S) := Lib.hid (by rw [Hlk.out]; exact fun a ha => ⟨hI.sound.set a ha, hI.le a ha, hI.few a ha⟩)
    have HTok : Hid (TriOk (stAll lk S b.l) ol) := Lib.hid (by rw [Hol.out]; exact tri_ok h0)
    have HSR := Lib.hid hSR
    rw [← Hol.out] at HSR ⊢
    have Hz := Lib.hid hz
    have ho500 : ol ≤ 500 := by have := hz.2.1; have := Hol.out; omega
    have ho1 : 1 ≤ ol := by have := hz.1; have := Hol.out; omega
    have hl2000 : ll ≤ 2000 := by have := hz.2.2.2.1; have := Hll.out; omega
    have hlk0 : 1 ≤ lk ∧ lk ≤ 4 := by have := hz.2.2.2.2.2.2.2.2; have := Hlk.out; omega
    obtain ⟨k0, rfl⟩ : ∃ k0 : Nat, lk = (k0 : Int) := ⟨lk.toNat, by omega⟩
    have HL := Lib.hid hlk0
    have hk4 : k0 ≤ 4 := by omega
    have HC : Hid (∀ W, Below w2.heap.size w2 W → W.cell? ⟨w.heap.size, 0, none⟩ = some (.int .i64 tk) ∧ W.cell? ⟨w.heap.size, 1, none⟩ = some (.int .i64 (k0 : Int)) ∧ W.cell? ⟨w.heap.size, 2, none⟩ = some (.slice oa ol oc) ∧ W.cell? ⟨w.heap.size, 3, none⟩ = some (.slice la ll lc)) := Lib.hid fun W hW => (Hbx2.out.keep hW).four
    have Hown0 : Hid ((w2.alloc (.cells #[] 32)).ownsRow w2.heap.size 32 1 (.slice (some ⟨w2.heap.size, 0, none⟩) 0 0) 0 (List.replicate 0 (.slice none 0 0))) := Lib.hid (World.ownsRow_made (base := w2.heap.size) (e := 32) (size := 1) w2 #[] 0 (Nat.le_refl _) (Nat.zero_le _) rfl)
    clear h0 hI hC hno hSR hz hlk0
    go_wp2_with fail
    go_loopw [6, 7] (fun xv nv wr => ∃ m : Nat, m ≤ ol ∧ nv = .int .i64 (m : Nat) ∧ Hid (wr.ownsRow w2.heap.size 32 1 xv m (List.replicate m (.slice none 0 0))) ∧ Hid (Below w2.heap.size w2 wr)) (fun _ nv _ => ol - (intOf nv).toNat)
    case atStart => exact ⟨0, Nat.zero_le _, rfl, Hown0, Lib.hid ((Below.refl _ w2).alloc (Nat.le_refl _) _)⟩
    case round =>
      clear Hown0
      obtain ⟨m, hm, rfl, HO, HB⟩ := hrel
      obtain ⟨xa, xc, rfl, _, _⟩ := owns_valP HO.out
      obtain ⟨c0, c1, c2, c3⟩ := HC.out _ HB.out
      by_cases hlt : m < ol
      · obtain ⟨a5, d5, w5, happ, ho5, hb5⟩ := own_pushS HB.out.size HO.out (by omega)
        have Ho5 := Lib.hid ho5
        have HB5 := Lib.hid (HB.out.trans hb5)
        have hm1 : (m : Int) < (ol : Int) := by omega
        have hm3 : (m : Int) ≤ 1000 := by omega
        have Hlt := Lib.hid hlt
        clear ho5 hb5 hlt hm c0 c1 c3
        go_wp2_with fail
        go_roundw
        case rel => exact ⟨m + 1, Hlt.out, by go_num, Ho5, HB5⟩
        case measure => have := Hlt.out; simp [intOf]; omega
      · obtain rfl : m = ol := by omega
        obtain ⟨g, hg, hg1, hg2, _, _⟩ := owns_cellN HO.out (by omega)
        subst hg
        have HD0 : Hid (DSt wr w2.heap.size g m xc (List.replicate m (.slice none 0 0, []))) := Lib.hid ⟨⟨hg1, hg2⟩, by simp, by simpa using HO.out, (fun x hx => by rw [List.eq_of_mem_replicate hx]; exact World.ownsRow_nil _ _ _ _), fun x hx q e => by rw [List.eq_of_mem_replicate hx] at e; cases e⟩
        have hi0 : decide (m < m) = false := by simp
        clear hlt hm HO hg1 hg2 c0 c3
        go_wp2_with fail
        go_loopw [8, 9] (fun zv iv wx => ∃ i : Nat, i ≤ k0 ∧ iv = .int .i64 (i : Nat) ∧ zv = .string ⟨(endT (i : Int)).toArray⟩ ∧ wx = wr) (fun _ iv _ => k0 - (intOf iv).toNat)
        case atStart => exact ⟨0, Nat.zero_le _, rfl, rfl, rfl⟩
        case round =>
          obtain ⟨i, hi, rfl, rfl, rfl⟩ := hrel
          by_cases hlt : i < k0
          · have hi1 : (i : Int) < (k0 : Int) := by omega
            have hcc : (⟨(endT (i : Int)).toArray⟩ : ByteArray) ++ ⟨#[0]⟩ = ⟨(endT ((i + 1 : Nat) : Int)).toArray⟩ := by
              unfold endT
              rw [Int.toNat_natCast, Int.toNat_natCast, List.replicate_succ']
              apply ByteArray.ext; apply Array.toList_inj.1; simp
            have hsz : (⟨(endT (i : Int)).toArray⟩ : ByteArray).size + (⟨#[0]⟩ : ByteArray).size ≤ 8 := by
              show (endT (i : Int)).toArray.size + 1 ≤ 8
              unfold endT; simp; omega
            go_wp2_with fail
            go_roundw
            case rel => exact ⟨i + 1, hlt, by go_num, by push_cast; rfl, by first | rfl | trivial⟩
            case measure => simp [intOf]; omega
          · obtain rfl : i = k0 := by omega
            have hal : Below wr.heap.size wr (wr.alloc (.cells #[.string ⟨(endT (i : Int)).toArray⟩] 9)) := (Below.refl wr.heap.size wr).alloc (Nat.le_refl _) _
            have hDa := HD0.out.below hal
            obtain ⟨g', hv, _, hgl, hcl, hfr⟩ := owns_cellN hDa.out (by omega)
            simp only [Option.some.injEq, Addr.mk.injEq, and_true] at hv
            subst hv
            have hf0 := hfr 0
            have hc0 := hcl 0 (.slice none 0 0) (by rw [List.getElem?_map, List.getElem?_replicate, if_pos (by omega)]; rfl)
            have hput := hDa.put 0 (by omega) (.slice (some ⟨wr.heap.size, 0, none⟩) 1 1) [endT (i : Int)] wr.heap.size (owns_oneT wr (endT (i : Int))) HD0.out.lt.2
            obtain ⟨X1, hX1⟩ : ∃ X1, X1 = (List.replicate m ((.slice none 0 0, []) : Value × List Tx)).set 0 (.slice (some ⟨wr.heap.size, 0, none⟩) 1 1, [endT (i : Int)]) := ⟨_, rfl⟩
            have hXm : X1.map (·.2) = [endT (i : Int)] :: List.replicate (m - 1) [] := by
              obtain ⟨m', rfl⟩ : ∃ m', m = m' + 1 := ⟨m - 1, by omega⟩
              rw [hX1, List.replicate_succ, List.set_cons_zero, List.map_cons, List.map_replicate]; rfl
            rw [← hX1] at hput
            have hbp := (HB.out.trans (hal.mono HB.out.size)).setCell (p := ⟨g, 0, none⟩) HD0.out.lt.1 (.slice (some ⟨wr.heap.size, 0, none⟩) 1 1)
            have HI0 : Hid (InvF (stAll (i : Int) S b.l) (i : Int) 600 (endT (i : Int)) m (X1.map (·.2))) := Lib.hid (by
              rw [hXm]; exact inv_startF _ _ _ _ _ ho1 (by rw [endT_len (by omega)]; exact Int.le_refl _) (by omega))
            have HD1 := Lib.hid hput; have HB1 := Lib.hid hbp
            have hm3 : (0 : Int) < (m : Int) := by omega
            have hm4 : 0 < m := by omega
            have hii : decide (i < i) = false := by simp
            clear hal hDa hcl hfr hput hX1 hXm hbp HD0 HB hi hlt
            go_wp2_with fail
            clear hf0 hc0 hgl c1
            generalize (wr.alloc (.cells #[.string ⟨(endT (i : Int)).toArray⟩] 9)).setCell ⟨g, 0, none⟩ (.slice (some ⟨wr.heap.size, 0, none⟩) 1 1) = w3 at *
            go_loopw [10] (fun mv wr => ∃ (m' : Bool) (X : List (Value × List Tx)), mv = .bool m' ∧ Hid (DSt wr w2.heap.size g m xc X) ∧ Hid (InvF (stAll (i : Int) S b.l) (i : Int) 600 (endT (i : Int)) m (X.map (·.2))) ∧ Hid (Below w2.heap.size w2 wr) ∧ Hid (m' = false → ∀ p ∈ b.l, ∀ j, QS (i : Int) S (X.map (·.2)) p j)) (fun mv wr => match mv with | .bool true => restW 600 wr g m + 1 | _ => 0)
            case atStart => exact ⟨true, X1, rfl, HD1, HI0, HB1, Lib.hid (fun h => by cases h)⟩
            case round =>
              clear HD1 HI0 HB1
              obtain ⟨m', X0, rfl, HD, HI, HB, HQ⟩ := hrel
              cases m' with
              | false =>
                obtain ⟨hno, hcl⟩ := qs_done HI.out.zero (HQ.out rfl)
                have HE : Hid (RFolP w b (.returned (.tuple #[.slice (some ⟨g, 0, none⟩) m xc, .int .i64 0])) wr) := Lib.hid ⟨.inr ⟨HS0.out.1, .inl ⟨g, xc, _, S, by rw [Hol.out], HS0.out.2, by rw [← Hlk.out]; exact hno, by rw [← Hlk.out, ← Hol.out]; exact HI.out, by rw [← Hlk.out]; exact hcl, by rw [← Hol.out]; exact HD.out.sets hm4⟩⟩, HB2.out.trans (HB.out.mono HB2.out.size)⟩
                clear hno hcl
                go_wp2_with fail
                go_ret2
                exact HE.out
              | true =>
                obtain ⟨wo, rfl⟩ : ∃ wo : World, wo = wr := ⟨_, rfl⟩
                have Hrest := Lib.hid (HD.out.rest (most := 600) hm4)
                go_wp2_with fail
                go_loopw [10, 11] (fun mv iv wx => ∃ (m' : Bool) (X : List (Value × List Tx)) (i1 : Nat), i1 ≤ ll ∧ mv = .bool m' ∧ iv = .int .i64 (i1 : Nat) ∧ Hid (DSt wx w2.heap.size g m xc X) ∧ Hid (InvF (stAll (i : Int) S b.l) (i : Int) 600 (endT (i : Int)) m (X.map (·.2))) ∧ Hid (Below w2.heap.size w2 wx) ∧ Hid (m' = false → X.map (·.2) = X0.map (·.2) ∧ ∀ j (hj : j < b.l.length), j < i1 → ∀ q, QS (i : Int) S (X0.map (·.2)) b.l[j] q) ∧ Hid (m' = true → muG 600 (some (X.map (·.2))) < muG 600 (some (X0.map (·.2))))) (fun _ iv _ => ll - (intOf iv).toNat)
                case atStart => exact ⟨false, X0, 0, Nat.zero_le _, rfl, rfl, HD, HI, HB, Lib.hid (fun _ => ⟨rfl, fun j _ hj => by omega⟩), Lib.hid (fun h => by cases h)⟩
                case round =>
                  obtain ⟨m', X, i1, hi, rfl, rfl, HD2, HI2, HB3, HQ2, HC2⟩ := hrel
                  obtain ⟨c0, c1, c2, c3⟩ := HC.out _ HB3.out
                  by_cases hlt : i1 < ll
                  · have hlt' : i1 < b.l.length := by have := Hll.out; omega
                    obtain ⟨b1, o1, a1, d1, hao, hbb, e0, e1, rk, m1, m2⟩ := Hbx2.out.r.l.get i1 hlt'
                    subst hao
                    have hpm := List.getElem_mem hlt'
                    obtain ⟨p, hp⟩ : ∃ p, p = b.l[i1] := ⟨_, rfl⟩
                    rw [← hp] at e0 e1 rk m1 hpm
                    have Hp : Hid (∀ h : i1 < b.l.length, p = b.l[i1]'h) := Lib.hid (fun h => hp)
                    have Hpm := Lib.hid hpm
                    have hrl := Hz.out.2.2.2.2.1 _ hpm
                    obtain ⟨x, rt⟩ := p
                    simp only at e0 e1 rk m1 hrl
                    have hpl := (prOk_left (Hz.out.2.2.2.2.2.1 _ hpm))
                    simp only at hpl
                    obtain ⟨qx, rfl⟩ : ∃ q : Nat, x = (q : Int) := ⟨x.toNat, by omega⟩
                    have hqx : qx < m := by have := Hol.out; omega
                    have hps : Hid (∀ s ∈ rt, (s.tok = true → 0 ≤ s.n ∧ s.n ≤ 255) ∧ (s.tok = false → 0 ≤ s.n ∧ s.n < m)) := Lib.hid fun s hs => ⟨fun ht => by have := prOk_tok (Hz.out.2.2.2.2.2.1 _ hpm) hs ht; have := Hz.out.2.2.2.2.2.2.1; omega, fun ht => by have := prOk_sym (Hz.out.2.2.2.2.2.1 _ hpm) hs ht; have := Hol.out; omega⟩
                    have hb1l : b1 < w2.heap.size := Nat.lt_of_lt_of_le hbb Hbx2.out.le
                    have f0 := (HB3.out.cell (p := ⟨b1, o1 + i1 * 2, none⟩) hb1l).trans e0
                    have f1 := (HB3.out.cell (p := ⟨b1, o1 + i1 * 2 + 1, none⟩) hb1l).trans e1
                    have Hrk : Hid (∀ W, Below w2.heap.size w2 W → SR W B (.slice a1 rt.length d1) rt) := Lib.hid fun W hW => Row.below rk (hW.mono Hbx2.out.le)
                    have Hqx := Lib.hid hqx
                    have hi1 : (i1 : Int) < (ll : Int) := by omega
                    have hi2 : (0 : Int) ≤ (i1 : Int) := by omega
                    have hi3 : (i1 : Int) ≤ 10000 := by omega
                    have Hlt := Lib.hid hlt
                    obtain ⟨rn, hrn⟩ : ∃ rn, rn = rt.length := ⟨_, rfl⟩
                    rw [← hrn] at Hrk f1 hrl
                    have Hrn := Lib.hid hrn
                    have hal := (Below.refl wr.heap.size wr).alloc (Nat.le_refl _) (.cells #[.int .i64 (qx : Int), .slice a1 rn d1] 57)
                    have y0 := cell_new wr #[.int .i64 (qx : Int), .slice a1 rn d1] 57 0 _ rfl
                    have y1 := cell_new wr #[.int .i64 (qx : Int), .slice a1 rn d1] 57 1 _ rfl
                    have hsz : wr.heap.size < (wr.alloc (.cells #[.int .i64 (qx : Int), .slice a1 rn d1] 57)).heap.size := by simp
                    have HDa := Lib.hid (HD2.out.below hal)
                    have HBa := Lib.hid (HB3.out.trans (hal.mono HB3.out.size))
                    have Hpb : Hid (wr.heap.size < (wr.alloc (.cells #[.int .i64 (qx : Int), .slice a1 rn d1] 57)).heap.size ∧ (wr.alloc (.cells #[.int .i64 (qx : Int), .slice a1 rn d1] 57)).cell? ⟨wr.heap.size, 0, none⟩ = some (.int .i64 (qx : Int)) ∧ (wr.alloc (.cells #[.int .i64 (qx : Int), .slice a1 rn d1] 57)).cell? ⟨wr.heap.size, 1, none⟩ = some (.slice a1 rn d1)) := Lib.hid ⟨hsz, y0, y1⟩
                    have Hpg : Hid (wr.heap.size ≠ g) := Lib.hid (by have := HD2.out.lt.2; omega)
                    clear e0 e1 rk m1 m2 hpl hqx hb1l hrn hal y0 y1 hsz hpm hp hlt hlt' hi c0 c1 c2
                    obtain ⟨wi, rfl⟩ : ∃ wi : World, wi = wr := ⟨_, rfl⟩
                    go_upto_region 23 with fail
                    clear f0 f1 c3
                    generalize wi.alloc (.cells #[.int .i64 (qx : Int), .slice a1 rn d1] 57) = wa at *
                    obtain ⟨pb, hpb⟩ : ∃ pb, pb = wi.heap.size := ⟨_, rfl⟩
                    rw [← hpb] at Hpb Hpg ⊢
                    clear hpb
                    obtain ⟨_, p0, p1⟩ := Hpb.out
                    go_loopw [10, 13] (fun mv kv wx => ∃ (m2 : Bool) (X2 : List (Value × List Tx)) (kx : Nat), kx ≤ rn ∧ mv = .bool m2 ∧ kv = .int .i64 (kx : Nat) ∧ Hid (pb < wx.heap.size ∧ wx.cell? ⟨pb, 0, none⟩ = some (.int .i64 (qx : Int)) ∧ wx.cell? ⟨pb, 1, none⟩ = some (.slice a1 rn d1)) ∧ Hid (DSt wx w2.heap.size g m xc X2) ∧ Hid (InvF (stAll (i : Int) S b.l) (i : Int) 600 (endT (i : Int)) m (X2.map (·.2))) ∧ Hid (Below w2.heap.size w2 wx) ∧ Hid (m2 = false → m' = false ∧ X2.map (·.2) = X.map (·.2) ∧ ∀ q, q < kx → QS (i : Int) S (X.map (·.2)) ⟨(qx : Int), rt⟩ q) ∧ Hid (m2 = true → muG 600 (some (X2.map (·.2))) < muG 600 (some (X0.map (·.2))))) (fun _ kv _ => rn - (intOf kv).toNat)
                    case atStart => exact ⟨m', X, 0, Nat.zero_le _, rfl, rfl, Hpb, HDa, HI2, HBa, Lib.hid (fun h => ⟨h, rfl, fun q hq => by omega⟩), HC2⟩
                    case round =>
                      clear HDa HI2 HBa HC2 Hpb p0 p1
                      obtain ⟨m2, X2, kx, hkx, rfl, rfl, HP, HD3, HI3, HB4, HQ3, HC3⟩ := hrel
                      obtain ⟨c0, c1, c2, c3⟩ := HC.out _ HB4.out
                      obtain ⟨_, p0, p1⟩ := HP.out
                      by_cases hlt2 : kx < rn
                      · have hkr : kx < rt.length := by have := Hrn.out; omega
                        obtain ⟨b6, o6, hao, hb6, g0, g1⟩ := SR.get (Hrk.out wr HB4.out |> fun h => (by rw [Hrn.out] at h; exact h : SR wr B (.slice a1 rt.length d1) rt)) kx hkr
                        subst hao
                        have hat : rt[kx]? = some rt[kx] := List.getElem?_eq_getElem hkr
                        have hsn := hps.out rt[kx] (List.getElem_mem hkr)
                        generalize rt[kx] = s at *
                        obtain ⟨t, n⟩ := s
                        simp only at g0 g1 hsn
                        have Hat := Lib.hid hat; have Hsn := Lib.hid hsn
                        have hk1 : (kx : Int) < (rn : Int) := by omega
                        have hk2 : (0 : Int) ≤ (kx : Int) := by omega
                        have hk3 : (kx : Int) ≤ 10000 := by omega
                        have Hlt2 := Lib.hid hlt2
                        clear hat hsn hkr hlt2 hkx hb6 c0 c2 c3
                        cases t with
                        | true =>
                          have HQ4 : Hid (m2 = false → m' = false ∧ X2.map (·.2) = X.map (·.2) ∧ ∀ q, q < kx + 1 → QS (i : Int) S (X.map (·.2)) ⟨(qx : Int), rt⟩ q) := Lib.hid fun h => ⟨(HQ3.out h).1, (HQ3.out h).2.1, fun q hq => by
                            rcases Nat.lt_or_ge q kx with h1 | h1
                            · exact (HQ3.out h).2.2 q h1
                            · obtain rfl : q = kx := by omega
                              intro s h2 h3
                              have h4 : rt[q]? = some s := h2
                              rw [Hat.out] at h4; cases h4; cases h3⟩
                          go_wp2_with fail
                          go_roundw
                          case rel => exact ⟨m2, X2, kx + 1, Hlt2.out, rfl, by go_num, HP, HD3, HI3, HB4, HQ4, HC3⟩
                          case measure => have := Hlt2.out; simp [intOf]; omega
                        | false =>
                          obtain ⟨d0, d1', d2, d3⟩ := HC.out _ HB4.out
                          go_upto_region 26 with fail
                          have hrkw : Row wr B 2 (.slice (some ⟨b6, o6, none⟩) rt.length d1) rt.length (symC rt) := by have := Hrk.out wr HB4.out; rw [Hrn.out] at this; exact this
                          have hd1 : (rn : Int) ≤ (d1 : Int) := by
                            obtain ⟨_, _, e, h1, _⟩ := Row.val hrkw
                            cases e
                            have := Hrn.out; omega
                          obtain ⟨sv, hsv1, hsv2, hsr⟩ : ∃ sv, (d1 = kx + 1 → sv = .slice (some ⟨b6, o6, none⟩) (rn - (kx + 1)) 0) ∧ (¬ d1 = kx + 1 → sv = .slice (some ⟨b6, o6 + (kx + 1) * 2, none⟩) (rn - (kx + 1)) (d1 - (kx + 1))) ∧ SR wr B sv (rt.drop (kx + 1)) := by
                            by_cases hd : d1 = kx + 1
                            · refine ⟨_, fun _ => rfl, fun h => absurd hd h, ?_⟩
                              have e1 : rn - (kx + 1) = 0 := by omega
                              have e2 : rt.drop (kx + 1) = [] := List.drop_eq_nil_of_le (by have := Hrn.out; omega)
                              rw [e1, e2]
                              refine ⟨rfl, Nat.zero_le _, .inr ⟨_, 0, rfl, Nat.le_refl _, Nat.zero_le _, .inl rfl, fun j u hu => by cases hu⟩⟩
                            · refine ⟨_, fun h => absurd h hd, fun _ => rfl, ?_⟩
                              have h1 := row_dropB hrkw (kx + 1) (by have := Hrn.out; have := Hlt2.out; omega)
                              rw [symC_drop, ← Hrn.out] at h1
                              unfold SR; rw [List.length_drop, ← Hrn.out]; exact h1
                          have hl65 : (rt.drop (kx + 1)).length ≤ 500 := by rw [List.length_drop]; have := Hrn.out; omega
                          have Hrow := Lib.hid (fun W (hW : Below wr.heap.size wr W) => refRow14_any (rt.drop (kx + 1)) sv (i : Int) gB m cB 600 S B W (hsr.below (hW.mono (Nat.le_trans Hbx2.out.le HB4.out.size))) (Nat.le_trans Hbx2.out.le (Nat.le_trans HB4.out.size hW.size)) (HSR.out.below (HB4.out.trans (hW.mono HB4.out.size))) HL.out (Nat.le_refl _) HSO.out (fun s hs => hps.out s (List.mem_of_mem_drop hs)) (by omega))
                          have Hp01 := Lib.hid (And.intro p0 p1)
                          have hkn : (kx : Int) + 1 ≤ (rn : Int) := by omega
                          have hkd : (kx : Int) + 1 ≤ (d1 : Int) := by omega
                          clear hrkw hsr hl65 g0
                          have Hg1 := Lib.hid g1
                          clear g1
                          have HS26 := Lib.hid (show (fun w' : World => w'.cell? ⟨pb, 1, none⟩ = some (.slice (some ⟨b6, o6, none⟩) rn d1) ∧ w'.cell? ⟨w.heap.size, 1, none⟩ = some (.int .i64 (i : Int))) wr.drew from ⟨p1, d1'⟩)
                          clear p0 p1 d0 d1' d2 d3
                          refine wp_region_ord 13 [(0, true), (1, true), (2, true), (3, true), (4, true), (5, true), (6, true), (7, true), (8, false), (9, true), (10, true), (11, true), (12, true), (13, false)] (fun w' : World => w'.cell? ⟨pb, 1, none⟩ = some (.slice (some ⟨b6, o6, none⟩) rn d1) ∧ w'.cell? ⟨w.heap.size, 1, none⟩ = some (.int .i64 (i : Int))) (by kernel_rfl) (by kernel_rfl) HS26.out ?_
                          simp only [ordL, List.getElem?_toArray, List.getElem?_cons_succ, List.getElem?_cons_zero]
                          iterate 4 (
                            refine ordW_read (v := ?_) (by rfl) ?_ (fun _ _ _ h => h) ?_
                            rotate_left
                            focus (intro w' hS; obtain ⟨s0, s1⟩ := hS; go_simp; (try with_reducible rfl); done)
                            try simp only [Act.put, List.setIfInBounds_toArray, List.set_cons_zero, List.set_cons_succ])
                          have hwr : IntKind.i64.wrap ((kx : Int) + 1) = ((kx + 1 : Nat) : Int) := (IntWalk.i64_in _ ⟨by omega, by omega⟩).trans (by push_cast; rfl)
                          refine ordW_read (v := sv) (by rfl) ?_ (fun _ _ _ h => h) ?_
                          · intro w' hS
                            by_cases hd : d1 = kx + 1
                            · rw [hsv1 hd]
                              go_simp
                              intro h
                              omega
                            · rw [hsv2 hd]
                              go_simp
                              intro h
                              omega
                          clear hwr hsv1 hsv2
                          try simp only [Act.put, List.setIfInBounds_toArray, List.set_cons_zero, List.set_cons_succ]
                          iterate 3 (
                            refine ordW_read (v := ?_) (by rfl) ?_ (fun _ _ _ h => h) ?_
                            rotate_left
                            focus (intro w' hS; obtain ⟨s0, s1⟩ := hS; go_simp; (try with_reducible rfl); done)
                            try simp only [Act.put, List.setIfInBounds_toArray, List.set_cons_zero, List.set_cons_succ])
                          refine ordW_do (by rfl) (fun K' HK2 => ?_)
                          go_simp
                          refine (Hrow.out wr.drew (Below.refl _ wr).drew).mono ?_
                          rintro e W2 ⟨hor, hb2⟩
                          have hbw : Below wr.heap.size wr W2 := (Below.refl wr.heap.size wr).drew.trans hb2
                          have Hbw := Lib.hid hbw
                          have HS27 : Hid (W2.cell? ⟨pb, 1, none⟩ = some (.slice (some ⟨b6, o6, none⟩) rn d1) ∧ W2.cell? ⟨w.heap.size, 1, none⟩ = some (.int .i64 (i : Int))) := Lib.hid ⟨(hbw.cell (p := ⟨pb, 1, none⟩) HP.out.1).trans Hp01.out.2, (HC.out W2 (HB4.out.trans (hbw.mono HB4.out.size))).2.1⟩
                          have hand : ∃ (va : Option Addr) (vn vc : Nat) (ok : Bool), e = .returned (.tuple #[.slice va vn vc, .bool ok]) ∧ ((ok = false ∧ va = none ∧ vn = 0 ∧ vc = 0 ∧ OverR (i : Int) 600 S (rt.drop (kx + 1))) ∨ (ok = true ∧ ¬ OverR (i : Int) 600 S (rt.drop (kx + 1)) ∧ vn = (rowS (i : Int) S (rt.drop (kx + 1))).length ∧ Row W2 W2.heap.size 1 (.slice va vn vc) vn (svt (rowS (i : Int) S (rt.drop (kx + 1)))))) := by
                            rcases hor with ⟨hno, v2, rfl, hr2⟩ | ⟨hov, rfl⟩
                            · obtain ⟨a2, c2, rfl, _, _⟩ := hr2.val
                              exact ⟨a2, _, c2, true, rfl, .inr ⟨rfl, hno, rfl, hr2⟩⟩
                            · exact ⟨none, 0, 0, false, rfl, .inl ⟨rfl, rfl, rfl, rfl, hov⟩⟩
                          obtain ⟨va, vn, vc, ok, rfl, hcase⟩ := hand
                          refine HK2.out _ _ (fun _ => HS27.out) ?_
                          clear HK2 K' hor hb2 hbw Hrow HS26
                          have Hcase := Lib.hid hcase
                          clear hcase
                          try simp only [Act.put, List.setIfInBounds_toArray, List.set_cons_zero, List.set_cons_succ]
                          iterate 4 (
                            refine ordW_read (v := ?_) (by rfl) ?_ (fun _ _ _ h => h) ?_
                            rotate_left
                            focus (intro w' hS; obtain ⟨s0, s1⟩ := hS; go_simp; (try with_reducible rfl); done)
                            try simp only [Act.put, List.setIfInBounds_toArray, List.set_cons_zero, List.set_cons_succ])
                          refine ordW_do (by rfl) (fun K' HK2 => ?_)
                          go_simp
                          refine HK2.out _ _ (fun h => absurd rfl h) (ordW_nil ?_)
                          clear HK2 K'
                          have HB5 := Lib.hid (HB4.out.trans (Hbw.out.mono HB4.out.size))
                          have HD4 := Lib.hid (HD3.out.below Hbw.out)
                          have HP5 : Hid (pb < W2.heap.size ∧ W2.cell? ⟨pb, 0, none⟩ = some (.int .i64 (qx : Int)) ∧ W2.cell? ⟨pb, 1, none⟩ = some (.slice (some ⟨b6, o6, none⟩) rn d1)) := Lib.hid ⟨Nat.lt_of_lt_of_le HP.out.1 Hbw.out.size, (Hbw.out.cell (p := ⟨pb, 0, none⟩) HP.out.1).trans Hp01.out.1, HS27.out.1⟩
                          clear HP HD3 HS27 Hp01
                          rcases Hcase.out with ⟨rfl, rfl, rfl, rfl, hov⟩ | ⟨rfl, hno, hvn, hr2⟩
                          · have HE : Hid (RFolP w b (.returned (.tuple #[.slice none 0 0, .int .i64 15])) W2) := Lib.hid ⟨.inr ⟨HS0.out.1, .inr ⟨rfl, .inr ⟨S, HS0.out.2, .inl ⟨⟨(qx : Int), rt⟩, Hpm.out, kx, _, Hat.out, rfl, by rw [← Hlk.out]; exact hov⟩⟩⟩⟩, HB2.out.trans (HB5.out.mono HB2.out.size)⟩
                            clear hov Hcase
                            go_wp2_with fail
                            go_ret2
                            exact HE.out
                          · clear Hcase
                            obtain ⟨q, rfl⟩ : ∃ q : Nat, n = (q : Int) := ⟨n.toNat, by have := Hsn.out.2 rfl; omega⟩
                            have hq : q < m := by have := Hsn.out.2 rfl; omega
                            have hqX : q < X2.length := by rw [HD4.out.len]; exact hq
                            have hxX : qx < X2.length := by rw [HD4.out.len]; exact Hqx.out
                            obtain ⟨g', hv, _, hgl, hcl, hfr⟩ := owns_cellN HD4.out.out (by omega)
                            simp only [Option.some.injEq, Addr.mk.injEq, and_true] at hv
                            subst hv
                            have hcq : W2.cell? ⟨g, q, none⟩ = some X2[q].1 := hcl q _ (by rw [List.getElem?_map, List.getElem?_eq_getElem hqX]; rfl)
                            have hcx : W2.cell? ⟨g, qx, none⟩ = some X2[qx].1 := hcl qx _ (by rw [List.getElem?_map, List.getElem?_eq_getElem hxX]; rfl)
                            have hrq := Row.of_owns (HD4.out.each _ (List.getElem_mem hqX))
                            have hrx := Row.of_owns (HD4.out.each _ (List.getElem_mem hxX))
                            have hqS : q < (X2.map (·.2)).length := by rw [List.length_map]; exact hqX
                            have hst : stAt (X2.map (·.2)) (q : Int) = X2[q].2 := by rw [stAt_nat _ q hqS, List.getElem_map]
                            have hsx : stAt (X2.map (·.2)) (qx : Int) = X2[qx].2 := by rw [stAt_nat _ qx (by rw [List.length_map]; exact hxX), List.getElem_map]
                            obtain ⟨xa2, xc2, hxv, hv1, hv2⟩ := hrq.val
                            obtain ⟨xa3, xc3, hxv3, hv3, hv4⟩ := hrx.val
                            rw [hxv] at hcq hrq
                            rw [hxv3] at hcx hrx
                            have sq := FSt.sok (W := W2) (s0 := 0) (gl := 0) (gs := 0) (gc := 0) (ge := 0) (kk := 0) (g := 0) (n1 := 0) (lv := .slice none 0 0) (L := []) (P := fun _ => False) HI3.out (q : Int)
                            have sx := FSt.sok (W := W2) (s0 := 0) (gl := 0) (gs := 0) (gc := 0) (ge := 0) (kk := 0) (g := 0) (n1 := 0) (lv := .slice none 0 0) (L := []) (P := fun _ => False) HI3.out (qx : Int)
                            rw [hst] at sq
                            rw [hsx] at sx
                            have hvn6 : vn ≤ 600 := by
                              rw [hvn]
                              rcases List.eq_nil_or_concat (rt.drop (kx + 1)) with e | ⟨r', s', e⟩
                              · rw [e]; show ([[]] : List Tx).length ≤ 600; simp
                              · rw [e] at hno ⊢
                                rcases Nat.lt_or_ge 600 (rowS (i : Int) S (r'.concat s')).length with h4 | h4
                                · exact absurd ⟨r'.length, by simp, by rw [List.take_of_length_le (by simp)]; exact h4⟩ hno
                                · exact h4
                            have hrle := rowS_le (k := (i : Int)) (by omega) S (rt.drop (kx + 1))
                            have htm : ((qx : Int), (q : Int), rowS (i : Int) S (rt.drop (kx + 1))) ∈ stAll (i : Int) S b.l := mem_stAll (p := ⟨(qx : Int), rt⟩) Hpm.out Hat.out rfl
                            obtain ⟨R, hR⟩ : ∃ R, R = rowS (i : Int) S (rt.drop (kx + 1)) := ⟨_, rfl⟩
                            have HQS : Hid (∀ F : Sts, (∀ x ∈ catL R (stAt F (qx : Int)) (i : Int), x ∈ stAt F (q : Int)) → QS (i : Int) S F ⟨(qx : Int), rt⟩ kx) := Lib.hid fun F hF s h2 h3 => by
                              have h4 : rt[kx]? = some s := h2
                              rw [Hat.out] at h4; cases h4
                              exact ⟨hno, by rw [← hR]; exact hF⟩
                            rw [← hR] at hvn hr2 hrle htm
                            clear hno hR
                            rw [hvn] at hr2
                            have HCat := Lib.hid (fun W (hW : Below W2.heap.size W2 W) => refCat13_any (.slice va R.length vc) (.slice xa3 X2[qx].2.length xc3) R X2[qx].2 (i : Int) W ((hr2.below hW).mono hW.size) (((hrx.below (hW.mono (Nat.le_refl _))).mono hW.size)) (by omega) (by have := sx.2.2; omega) (fun x hx => by have := hrle x hx; have := HL.out; omega) (fun x hx => by have := sx.2.1 x hx; have := HL.out; omega) (by have := HL.out; omega))
                            have g1' := (Hbw.out.cell (p := ⟨b6, o6 + kx * 2 + 1, none⟩) (World.block_lt_of_cell? wr _ Hg1.out)).trans Hg1.out
                            obtain ⟨_, p0, p1⟩ := HP5.out
                            have hq1 : (q : Int) < (m : Int) := by omega
                            have hq2 : (0 : Int) ≤ (q : Int) := by omega
                            have hqx1 : (qx : Int) < (m : Int) := by have := Hqx.out; omega
                            have hqx2 : (0 : Int) ≤ (qx : Int) := by omega
                            have Hq := Lib.hid hq
                            have Hrq := Lib.hid hrq
                            obtain ⟨A0, hA0⟩ : ∃ A0, A0 = X2[q].2 := ⟨_, rfl⟩
                            obtain ⟨D0, hD0⟩ : ∃ D0, D0 = X2[qx].2 := ⟨_, rfl⟩
                            rw [← hA0] at Hrq hcq hst sq
                            rw [← hD0] at HCat hcx hsx sx
                            obtain ⟨an, han⟩ : ∃ an, an = A0.length := ⟨_, rfl⟩
                            obtain ⟨dn, hdn⟩ : ∃ dn, dn = D0.length := ⟨_, rfl⟩
                            rw [← han] at hcq Hrq
                            rw [← hdn] at hcx HCat
                            rw [← hvn] at HCat
                            have HlenC : Hid ((catL R D0 (i : Int)).length ≤ 1000000) := Lib.hid (by
                              have h1 : (catL R D0 (i : Int)).length ≤ R.length * D0.length := by have := toSet_len (catsF R D0 (i : Int)); rw [catsF_len] at this; exact this
                              have h2 : R.length * D0.length ≤ 600 * 600 := Nat.mul_le_mul (by omega) sx.2.2
                              omega)
                            have HPut := Lib.hid (fun h => InvF.put (by have := HTok.out; exact this) (by have := HL.out; omega) HI3.out _ htm h)
                            have HOv : Hid (600 < (joinL A0 (catL R D0 (i : Int))).length → OverF (stAll (i : Int) S b.l) (i : Int) 600 (X2.map (·.2))) := Lib.hid fun h => ⟨_, htm, by show 600 < (joinL (stAt (X2.map (·.2)) (q : Int)) (catL R (stAt (X2.map (·.2)) (qx : Int)) (i : Int))).length; rw [hst, hsx]; exact h⟩
                            have HQp : Hid ((joinL A0 (catL R D0 (i : Int))).length = A0.length → QS (i : Int) S (X2.map (·.2)) ⟨(qx : Int), rt⟩ kx) := Lib.hid fun h => HQS.out _ (by
                              rw [hst, hsx]; exact (join_same sq.1 h).2)
                            have Hle : Hid (A0.length ≤ (joinL A0 (catL R D0 (i : Int))).length) := Lib.hid (join_le sq.1)
                            have Hmu := Lib.hid (fun a h1 h2 => mu_putF (most := 600) q hqS a (by rw [List.getElem_map, ← hA0]; exact h1) h2)
                            have han6 : an ≤ 600 := by have := sq.2.2; omega
                            have HPut2 : Hid (¬ 600 < (joinL A0 (catL R D0 (i : Int))).length → InvF (stAll (i : Int) S b.l) (i : Int) 600 (endT (i : Int)) m ((X2.map (·.2)).set q (joinL A0 (catL R D0 (i : Int))))) := Lib.hid fun h => by
                              have h1 := HPut.out (by show ¬ 600 < (joinL (stAt (X2.map (·.2)) (q : Int)) (catL R (stAt (X2.map (·.2)) (qx : Int)) (i : Int))).length; rw [hst, hsx]; exact h)
                              have h2 : (joinL (stAt (X2.map (·.2)) (q : Int)) (cutF (i : Int) (X2.map (·.2)) ((qx : Int), (q : Int), R))) = joinL A0 (catL R D0 (i : Int)) := by
                                show joinL (stAt (X2.map (·.2)) (q : Int)) (catL R (stAt (X2.map (·.2)) (qx : Int)) (i : Int)) = _
                                rw [hst, hsx]
                              simp only [Int.toNat_natCast] at h1
                              rw [h2] at h1; exact h1
                            have Han := Lib.hid han
                            clear hv1 hv2 hv3 hv4 HPut hrx hr2 hrle htm hst hsx hqS hqX hxX hcl hfr hgl hxv hxv3 hvn hvn6 sq sx hq hrq hA0 hD0 han hdn HQS
                            have hlk1 := (HC.out _ HB5.out).2.1
                            go_upto_region 30 with fail
                            clear g1' p1
                            have HS30 : Hid ((fun w' : World => (w'.cell? ⟨pb, 0, none⟩ = some (.int .i64 (qx : Int)) ∧ w'.cell? ⟨w.heap.size, 1, none⟩ = some (.int .i64 (i : Int))) ∧ w'.cell? ⟨g, q, none⟩ = some (.slice xa2 an xc2) ∧ w'.cell? ⟨g, qx, none⟩ = some (.slice xa3 dn xc3)) W2.drew) := Lib.hid ⟨⟨p0, hlk1⟩, hcq, hcx⟩
                            have Hcq := Lib.hid (And.intro hcq hcx)
                            have HP0 := Lib.hid p0
                            have Hdr := Lib.hid (Below.refl W2.heap.size W2).drew
                            clear p0 hlk1 hcq hcx
                            refine wp_region_ord 14 [(0, true), (1, true), (2, true), (3, true), (4, true), (5, true), (6, true), (7, true), (8, true), (9, true), (10, true), (11, true), (12, false), (13, false), (14, false)] (fun w' : World => (w'.cell? ⟨pb, 0, none⟩ = some (.int .i64 (qx : Int)) ∧ w'.cell? ⟨w.heap.size, 1, none⟩ = some (.int .i64 (i : Int))) ∧ w'.cell? ⟨g, q, none⟩ = some (.slice xa2 an xc2) ∧ w'.cell? ⟨g, qx, none⟩ = some (.slice xa3 dn xc3)) (by kernel_rfl) (by kernel_rfl) HS30.out ?_
                            simp only [ordL, List.getElem?_toArray, List.getElem?_cons_succ, List.getElem?_cons_zero]
                            iterate 12 (
                              refine ordW_read (v := ?_) (by rfl) ?_ (fun _ _ _ h => h) ?_
                              rotate_left
                              focus (intro w' hS; obtain ⟨⟨s0, s1⟩, s2, s3⟩ := hS; go_simp; (try with_reducible rfl); done)
                              try simp only [Act.put, List.setIfInBounds_toArray, List.set_cons_zero, List.set_cons_succ])
                            refine ordW_do (by rfl) (fun K' HK2 => ?_)
                            go_simp
                            refine (HCat.out W2.drew Hdr.out).mono ?_
                            rintro e W3 ⟨v3, rfl, own3, hb3⟩
                            obtain ⟨a3, d3, rfl, _, _⟩ := owns_valPK own3
                            have hb23 : Below W2.heap.size W2 W3 := Hdr.out.trans hb3
                            have Hb23 := Lib.hid hb23
                            have HS31 : Hid ((W3.cell? ⟨pb, 0, none⟩ = some (.int .i64 (qx : Int)) ∧ W3.cell? ⟨w.heap.size, 1, none⟩ = some (.int .i64 (i : Int))) ∧ W3.cell? ⟨g, q, none⟩ = some (.slice xa2 an xc2) ∧ W3.cell? ⟨g, qx, none⟩ = some (.slice xa3 dn xc3)) := Lib.hid ⟨⟨(hb23.cell (p := ⟨pb, 0, none⟩) HP5.out.1).trans HP0.out, (HC.out _ (HB5.out.trans (hb23.mono HB5.out.size))).2.1⟩, (hb23.cell (p := ⟨g, q, none⟩) HD4.out.lt.2).trans Hcq.out.1, (hb23.cell (p := ⟨g, qx, none⟩) HD4.out.lt.2).trans Hcq.out.2⟩
                            have Hj := Lib.hid (refJoinW_any (.slice xa2 A0.length xc2) (.slice a3 (catL R D0 (i : Int)).length d3) A0 (catL R D0 (i : Int)) W2.heap.size W3.heap.size W3 hb23.size (Nat.le_refl _) ((by have := Hrq.out; rw [Han.out] at this; exact this : Row W2 W2.heap.size 1 (.slice xa2 A0.length xc2) A0.length (svt A0)).below hb23) (Row.of_owns own3) (by have := Han.out; omega) HlenC.out)
                            rw [← Han.out] at Hj
                            refine HK2.out _ _ (fun _ => HS31.out) ?_
                            obtain ⟨E, hE⟩ : ∃ E, E = catL R D0 (i : Int) := ⟨_, rfl⟩
                            rw [← hE] at Hj HOv HQp Hle HPut2 ⊢
                            clear HK2 K' own3 hb3 hb23 HS30 HCat HlenC hE
                            try simp only [Act.put, List.setIfInBounds_toArray, List.set_cons_zero, List.set_cons_succ]
                            refine ordW_do (by rfl) (fun K' HK2 => ?_)
                            go_simp
                            refine (Hj.out).mono ?_
                            rintro e W4 ⟨v4, rfl, own4, hb4⟩
                            obtain ⟨a4, d4, rfl, _, _⟩ := owns_valPK own4
                            obtain ⟨A, hA⟩ : ∃ A, A = joinL A0 E := ⟨_, rfl⟩
                            rw [← hA] at own4 HOv HQp Hle HPut2 ⊢
                            obtain ⟨gn, hgn⟩ : ∃ gn, gn = A.length := ⟨_, rfl⟩
                            rw [← hgn] at own4 HOv HQp Hle HPut2 ⊢
                            have Hgn := Lib.hid hgn
                            have Hown4 := Lib.hid own4
                            have hb24 : Below W2.heap.size W2 W4 := Hb23.out.trans (hb4.mono Hb23.out.size)
                            have HB6 := Lib.hid (HB5.out.trans (hb24.mono HB5.out.size))
                            have HD5 := Lib.hid (HD4.out.below hb24)
                            have HP6 : Hid (pb < W4.heap.size ∧ W4.cell? ⟨pb, 0, none⟩ = some (.int .i64 (qx : Int)) ∧ W4.cell? ⟨pb, 1, none⟩ = some (.slice (some ⟨b6, o6, none⟩) rn d1)) := Lib.hid ⟨Nat.lt_of_lt_of_le HP5.out.1 hb24.size, (hb24.cell (p := ⟨pb, 0, none⟩) HP5.out.1).trans HP5.out.2.1, (hb24.cell (p := ⟨pb, 1, none⟩) HP5.out.1).trans HP5.out.2.2⟩
                            have HS32 : Hid ((W4.cell? ⟨pb, 0, none⟩ = some (.int .i64 (qx : Int)) ∧ W4.cell? ⟨w.heap.size, 1, none⟩ = some (.int .i64 (i : Int))) ∧ W4.cell? ⟨g, q, none⟩ = some (.slice xa2 an xc2) ∧ W4.cell? ⟨g, qx, none⟩ = some (.slice xa3 dn xc3)) := Lib.hid ⟨⟨HP6.out.2.1, (HC.out _ HB6.out).2.1⟩, (hb24.cell (p := ⟨g, q, none⟩) HD4.out.lt.2).trans Hcq.out.1, (hb24.cell (p := ⟨g, qx, none⟩) HD4.out.lt.2).trans Hcq.out.2⟩
                            have Hg3 : Hid (g < W3.heap.size) := Lib.hid (Nat.lt_of_lt_of_le HD4.out.lt.2 Hb23.out.size)
                            refine HK2.out _ _ (fun _ => HS32.out) ?_
                            clear HK2 K' own4 hb4 hb24 HS31 Hj hgn hA
                            try simp only [Act.put, List.setIfInBounds_toArray, List.set_cons_zero, List.set_cons_succ]
                            refine ordW_do (by rfl) (fun K' HK2 => ?_)
                            go_simp
                            refine HK2.out _ _ (fun h => absurd rfl h) (ordW_nil ?_)
                            clear HK2 K'
                            have hcq3 := HS32.out.2.1
                            have hfq3 : W4.frozen? ⟨g, q, none⟩ = false := by
                              obtain ⟨g', hv, _, _, _, hf⟩ := owns_cellN HD5.out.out (by omega)
                              simp only [Option.some.injEq, Addr.mk.injEq, and_true] at hv
                              subst hv; exact hf q
                            have hgl : g < W4.heap.size := HD5.out.lt.2
                            clear HS32 HD4 HP5 Hcq Hrq
                            by_cases hov : 600 < gn
                            · have q1 : decide (600 < gn) = true := decide_eq_true hov
                              have q2 : decide ((600 : Int) < (gn : Int)) = true := decide_eq_true (by omega)
                              have HE : Hid (RFolP w b (.returned (.tuple #[.slice none 0 0, .int .i64 15])) W4) := Lib.hid ⟨.inr ⟨HS0.out.1, .inr ⟨rfl, .inr ⟨S, HS0.out.2, .inr ⟨_, by rw [← Hlk.out, ← Hol.out]; exact HI3.out.sound, by rw [← Hlk.out]; exact HOv.out hov⟩⟩⟩⟩, HB2.out.trans (HB6.out.mono HB2.out.size)⟩
                              clear hov
                              go_wp2_with fail
                              go_ret2
                              exact HE.out
                            · have q1 : decide (600 < gn) = false := decide_eq_false hov
                              have q2 : decide ((600 : Int) < (gn : Int)) = false := decide_eq_false (by omega)
                              by_cases hgt : an < gn
                              · have q3 : decide (an < gn) = true := decide_eq_true hgt
                                have q4 : decide ((an : Int) < (gn : Int)) = true := decide_eq_true (by omega)
                                have HI5 := HPut2.out hov
                                have hput := HD5.out.put q Hq.out (.slice a4 gn d4) A W3.heap.size (by rw [← Hgn.out]; exact Hown4.out) Hg3.out
                                have e5 : (X2.map (·.2)).set q A = (X2.set q ((.slice a4 gn d4 : Value), A)).map (·.2) := by rw [List.map_set]
                                rw [e5] at HI5
                                have HI6 := Lib.hid HI5
                                have HD6 := Lib.hid hput
                                have HB7 := Lib.hid (HB6.out.setCell (p := ⟨g, q, none⟩) HD5.out.lt.1 (.slice a4 gn d4))
                                have hsz7 : (W4.setCell ⟨g, q, none⟩ (.slice a4 gn d4)).heap.size = W4.heap.size := by simp [World.setCell]
                                have HP7 : Hid (pb < (W4.setCell ⟨g, q, none⟩ (.slice a4 gn d4)).heap.size ∧ (W4.setCell ⟨g, q, none⟩ (.slice a4 gn d4)).cell? ⟨pb, 0, none⟩ = some (.int .i64 (qx : Int)) ∧ (W4.setCell ⟨g, q, none⟩ (.slice a4 gn d4)).cell? ⟨pb, 1, none⟩ = some (.slice (some ⟨b6, o6, none⟩) rn d1)) := Lib.hid ⟨by rw [hsz7]; exact HP6.out.1, (cell_eq (p := ⟨pb, 0, none⟩) (Below.heap_setCell _ _ _ _ Hpg.out)).trans HP6.out.2.1, (cell_eq (p := ⟨pb, 1, none⟩) (Below.heap_setCell _ _ _ _ Hpg.out)).trans HP6.out.2.2⟩
                                have Hm6 : Hid (muG 600 (some ((X2.set q ((.slice a4 gn d4 : Value), A)).map (·.2))) < muG 600 (some (X0.map (·.2)))) := Lib.hid (by
                                  have h1 := Hmu.out A (by rw [← Hgn.out, ← Han.out]; exact hgt) (by rw [← Hgn.out]; omega)
                                  rw [e5] at h1
                                  cases m2 with
                                  | true => exact Nat.lt_trans h1 (HC3.out rfl)
                                  | false =>
                                    obtain ⟨h2, h3, _⟩ := HQ3.out rfl
                                    rw [h3, (HQ2.out h2).1] at h1; exact h1)
                                clear hov hgt HI5 hput e5 hsz7
                                go_wp2_with fail
                                go_roundw
                                case rel => exact ⟨true, _, kx + 1, Hlt2.out, rfl, by go_num, HP7, HD6, HI6, HB7, Lib.hid (fun h => by cases h), Lib.hid (fun _ => Hm6.out)⟩
                                case measure => have := Hlt2.out; simp [intOf]; omega
                              · have q3 : decide (an < gn) = false := decide_eq_false hgt
                                have q4 : decide ((an : Int) < (gn : Int)) = false := decide_eq_false (by omega)
                                have Hqp := Lib.hid (HQp.out (by have := Hle.out; have := Han.out; omega))
                                have HQ5 : Hid (m2 = false → m' = false ∧ X2.map (·.2) = X.map (·.2) ∧ ∀ q, q < kx + 1 → QS (i : Int) S (X.map (·.2)) ⟨(qx : Int), rt⟩ q) := Lib.hid fun hm => ⟨(HQ3.out hm).1, (HQ3.out hm).2.1, fun j hj => by
                                  rcases Nat.lt_or_ge j kx with h1 | h1
                                  · exact (HQ3.out hm).2.2 j h1
                                  · obtain rfl : j = kx := by omega
                                    rw [← (HQ3.out hm).2.1]; exact Hqp.out⟩
                                clear hov hgt
                                go_wp2_with fail
                                go_roundw
                                case rel => exact ⟨m2, X2, kx + 1, Hlt2.out, rfl, by go_num, HP6, HD5, HI3, HB6, HQ5, HC3⟩
                                case measure => have := Hlt2.out; simp [intOf]; omega
                      · obtain rfl : kx = rn := by omega
                        have HQ5 : Hid (m2 = false → X2.map (·.2) = X0.map (·.2) ∧ ∀ j (hj : j < b.l.length), j < i1 + 1 → ∀ q, QS (i : Int) S (X0.map (·.2)) b.l[j] q) := Lib.hid fun hm => by
                          obtain ⟨h1, h2, h3⟩ := HQ3.out hm
                          obtain ⟨h4, h5⟩ := HQ2.out h1
                          refine ⟨h2.trans h4, fun j hj hji q => ?_⟩
                          rcases Nat.lt_or_ge j i1 with h6 | h6
                          · exact h5 j hj h6 q
                          · obtain rfl : j = i1 := by omega
                            rw [← Hp.out hj, ← h4]
                            rcases Nat.lt_or_ge q kx with h7 | h7
                            · exact h3 q h7
                            · intro s h8 h9
                              have h10 : rt[q]? = some s := h8
                              rw [List.getElem?_eq_none (by have := Hrn.out; omega)] at h10; cases h10
                        have hii2 : decide (kx < kx) = false := by simp
                        clear hlt2 hkx c0 c1 c2 c3
                        go_wp2_with fail
                        go_roundw
                        case rel => exact ⟨m2, X2, i1 + 1, Hlt.out, rfl, by go_num, HD3, HI3, HB4, HQ5, HC3⟩
                        case measure => have := Hlt.out; simp [intOf]; omega
                  · obtain rfl : i1 = ll := by omega
                    have HQ5 : Hid (m' = false → ∀ p ∈ b.l, ∀ j, QS (i : Int) S (X.map (·.2)) p j) := Lib.hid fun hm p hp q => by
                      obtain ⟨j, hj, rfl⟩ := List.getElem_of_mem hp
                      rw [(HQ2.out hm).1]
                      exact (HQ2.out hm).2 j hj (by have := Hll.out; omega) q
                    have Hrest2 := Lib.hid (HD2.out.rest (most := 600) hm4)
                    have hi7 : decide (i1 < i1) = false := by simp
                    clear hlt hi
                    go_wp2_with fail
                    go_roundw
                    case rel => exact ⟨m', X, rfl, HD2, HI2, HB3, HQ5⟩
                    case measure =>
                      cases m' with
                      | false => simp
                      | true => have := HC2.out rfl; have := Hrest.out; have := Hrest2.out; simp; omega
  · have HE : Hid (RFolP w b (.returned (.tuple #[.slice none 0 0, .int .i64 15])) w2) := Lib.hid ⟨.inr ⟨h0, .inr ⟨rfl, .inl hov⟩⟩, HB2.out⟩
    clear h0 hov
    go_wp2_with fail
    go_ret2
    exact HE.out
end Go.Proofs.Ytimgnbacgdmiiaa
