/-
  again.Settle, for what follows.
-/
import Derived.Test.YtimgnbacgdmiiaaFolA
namespace Go.Proofs.Ytimgnbacgdmiiaa
open Go.RowKit Go.Maps Go.WideMaps
set_option linter.unusedVariables false
set_option linter.unusedSimpArgs false
attribute [local go_sem ↓] append_appM

set_option maxHeartbeats 4000000 in
set_option maxRecDepth 100000 in
theorem settle_follow {σ : Type} (n : Nat) (look : σ → Nat → σ × Int) (μ : σ → Nat) (Inv : σ → Prop) (J : World → σ → (Nat → Prop) → Prop) (B0 : Nat) (p1 p2 p3 p4 : Option Addr) (w1 w : World) (cc g : Nat) (F : Int → Option (Value × List Int)) (st0 : σ) (P0 : Nat → Prop) (Q : World → Prop)
    (hn : 1 ≤ n ∧ n ≤ 100000) (hB : n + μ st0 * n ≤ B0) (hB0 : B0 ≤ 500000000000) (hA : AskI w1 w cc F) (hg : g < w1.heap.size) (hS : ∀ k v l, F k = some (v, l) → ∀ x ∈ l, ∃ q : Nat, q < n ∧ x = (q : Int))
    (hL : Look n (askl F) look μ Inv) (hi0 : Inv st0) (hJ0 : J w st0 P0) (hP0 : ∀ k, P0 k → k < w.heap.size) (hJk : ∀ W W' st P, J W st P → KP w.heap.size P W W' → J W' st P)
    (hcall : ∀ (W : World) (st : σ) (i : Nat) (P : Nat → Prop), i < n → Inv st → J W st P → (∀ k, P k → k < W.heap.size) → KB w.heap.size g w W → Calls Try.prog 47 #[.int .i64 (i : Nat), .pointer p1, .pointer p2, .pointer p3, .pointer p4] W fun e W' => (e = .returned (.tuple #[.int .i64 (look st i).2, .bool true]) ∧ (∃ P', J W' (look st i).1 P' ∧ ∀ k, P' k → (P k ∨ W.heap.size ≤ k) ∧ k < W'.heap.size) ∧ KB W.heap.size g W W') ∨ (∃ x, e = .returned (.tuple #[.int .i64 x, .bool false]) ∧ Q W')) :
    Calls Try.prog 46 #[.int .i64 (n : Nat), .map (some w1.heap.size), .func (.func 47) #[] #[.pointer p1, .pointer p2, .pointer p3, .pointer p4]] w fun e w' => e = .returned (.tuple #[]) ∧ ((∃ st P, Inv st ∧ J w' st P ∧ KB w.heap.size g w w' ∧ ∀ q, q < n → (look st q).2 < 0) ∨ Q w') := by
  have hgw : g < w.heap.size := by have := hA.lt; omega
  have Hgw := Lib.hid hgw; have HA := Lib.hid hA; have Hg := Lib.hid hg; have HS := Lib.hid hS; have HL := Lib.hid hL; have Hi0 := Lib.hid hi0; have HJ0 := Lib.hid (JP.start (lv := .slice none 0 0) hJ0 hP0 (fun b e => by cases e)); have HJk := Lib.hid hJk; have Hcall := Lib.hid hcall
  have Hn := Lib.hid hn; have HB := Lib.hid hB; have HB0 := Lib.hid hB0
  have hn63 : (n : Int) ≤ 100000 := by omega
  have hask : ∀ k x, x ∈ askl F k → ∃ q : Nat, q < n ∧ x = (q : Int) := fun k x hx => by
    unfold askl at hx
    cases hF : F k with
    | none => rw [hF] at hx; cases hx
    | some p => rw [hF] at hx; exact hS k p.1 p.2 hF x hx
  have Hask := Lib.hid hask
  obtain ⟨i0, hi, hz0, hz1, hz2⟩ := info_parts info_boolT
  clear hgw hA hg hS hL hi0 hJ0 hP0 hJk hcall hB hB0 hask
  go_enter Try.func46, Try.ntmps46
  go_wp2_with (at_make; refine wpList_make_full _ rfl _ _ 50 rfl w.heap.size 4 i0 (.bool false) 1 Try.underlying50 hi hz0 hz1 .i64 .i64 _ _ n rfl rfl rfl rfl (by rw [hz2]; have := Hn.out.2; omega) (by unfold maxLen; have := Hn.out.2; omega) (Nat.le_refl _) ?_; intro wm hown hgrow)
  have HI0 : Hid (SetI w wm g n (.slice (some ⟨w.heap.size, 0, none⟩) n n) (.slice none 0 0) (List.replicate 0 true ++ List.replicate (n - 0) false) ((List.range 0).map fun q => ((q : Nat) : Int))) := Lib.hid (by
    have e : (madeCells (Value.bool false).cells (n * 1)).toList = bools (List.replicate n false) := by
      rw [Nat.mul_one]; show (madeCells #[Value.bool false] n).toList = _
      rw [toList_madeCells_one]; simp [bools]
    rw [e] at hown
    exact ⟨by simpa using hown, World.ownsRow_nil _ _ _ _, (fun b hb hv => by cases hv), KB.of_below ((Below.refl w.heap.size w).grown hgrow (Nat.le_refl _) (fun k e => by cases e))⟩)
  have HJm := Lib.hid (HJ0.out.grown HJk.out hgrow (fun k e => by cases e))
  clear hown hgrow hi hz0 hz1 hz2
  go_wp2_with fail
  go_loopw [7, 18] (fun lv iv wr => ∃ i : Nat, i ≤ n ∧ iv = .int .i64 i ∧ Hid (SetI w wr g n (.slice (some ⟨w.heap.size, 0, none⟩) n n) lv (List.replicate i true ++ List.replicate (n - i) false) ((List.range i).map fun q => ((q : Nat) : Int))) ∧ Hid (JP J w.heap.size wr st0 lv)) (fun _ iv _ => n - (intOf iv).toNat)
  case atStart => exact ⟨0, Nat.zero_le _, rfl, HI0, HJm⟩
  case round =>
    obtain ⟨i, hi, rfl, HI, HJ⟩ := hrel
    obtain ⟨va, vc, rfl, _, _⟩ := owns_valP HI.out.l
    have hll : ((List.range i).map fun q => ((q : Nat) : Int)).length = i := by simp
    rw [hll] at HJ
    by_cases hlt : i < n
    · obtain ⟨gw, hv, hg1, hg2, hcl, hfr⟩ := owns_cellN HI.out.w (by omega)
      simp only [Option.some.injEq, Addr.mk.injEq, and_true] at hv
      subst hv
      obtain ⟨x0, c0⟩ : ∃ x0, wr.cell? ⟨w.heap.size, i, none⟩ = some (.bool x0) := ⟨_, hcl i _ (bools_at _ i (by rw [HI.out.len]; exact hlt))⟩
      have f0 := hfr i
      have hI2 := HI.out.put i hlt true
      rw [start_set i n hlt] at hI2
      obtain ⟨a, c, w3, happ, hI3, hs3⟩ := hI2.push2 (i : Int) (by rw [hll]; have := Hn.out.2; omega)
      rw [hll] at hs3
      rw [hll, show (wr.setCell ⟨w.heap.size, i, none⟩ (.bool true)).heap.size = wr.heap.size by simp [World.setCell]] at happ
      rw [← range_snoc] at hI3
      have e3 : ((List.range i).map fun q => ((q : Nat) : Int)).length + 1 = i + 1 := by rw [hll]
      rw [e3] at hI3
      have HI3 := Lib.hid hI3
      have HJ3 := Lib.hid ((HJ.out.set HJk.out i (.bool true)).push HJk.out hs3)
      rw [hll]
      have hi1 : (i : Int) < (n : Int) := by omega
      have hi2 : (0 : Int) ≤ (i : Int) := by omega
      have hlt2 : w.heap.size < wr.heap.size := hg2
      clear hI2 hI3 hcl hfr hg1 hg2 e3 HI hs3
      go_wp2_with fail
      go_roundw
      case rel => exact ⟨i + 1, hlt, by go_num, HI3, HJ3⟩
      case measure => simp [intOf]; omega
    · obtain rfl : i = n := by omega
      rw [Nat.sub_self, List.replicate_zero, List.append_nil] at HI
      have hne : (.slice va ((List.range i).map fun q => ((q : Nat) : Int)).length vc : Value) ≠ .slice none 0 0 := by
        intro e
        simp only [Value.slice.injEq] at e
        have := e.2.1; have := Hn.out.1; omega
      obtain ⟨gl, cap, hv, hgb, hgl, hncap, _, _, hH⟩ := Lib.holds_of_ownsRow HI.out.l hne
      simp only [Value.slice.injEq] at hv
      obtain ⟨rfl, _, rfl⟩ := hv
      have hrev := Try.slices_Reverse_int gl 0 vc ((List.range i).map fun q => ((q : Nat) : Int)) wr hH (by rw [hll]; have := Hn.out.2; omega)
      rw [hll] at hrev
      have Hrev := Lib.hid hrev
      have HP0 := Lib.hid (SetP.start (look := look) (ask := askl F) (μ := μ) Hi0.out HB.out)
      have HIr := Lib.hid (fun q => HI.out.reverse q)
      have HJr := Lib.hid (fun q => HJ.out.rev HJk.out hgb q ((List.range i).map fun q => ((q : Nat) : Int)).reverse.toArray)
      clear hrev hH hne hncap hgl
      go_wp2_with fail
      refine (Hrev.out).mono ?_
      rintro e w4 ⟨rfl, q, hw4⟩
      have HI4 := Lib.hid (HIr.out q)
      have HJ4 := Lib.hid (HJr.out q)
      rw [← hw4] at HI4 HJ4
      generalize hlr : ((List.range i).map fun q => ((q : Nat) : Int)).reverse = lr at *
      have hlrl : lr.length = i := by rw [← hlr, List.length_reverse]; exact hll
      rw [hlrl] at HI4
      clear hw4 hlr HIr HJr HI HJ Hrev hll
      go_wp2_with fail
      go_loopw [7, 9] (fun lv iv wr => ∃ (a : Nat) (st : σ) (W : List Bool) (l : List Int), iv = .int .i64 (a : Nat) ∧ Hid (a ≤ l.length) ∧ Hid (SetI w wr g i (.slice (some ⟨w.heap.size, 0, none⟩) i i) lv W l) ∧ Hid (JP J w.heap.size wr st lv) ∧ Hid (SetP i (askl F) look μ Inv B0 st a W l)) (fun _ iv _ => B0 - (intOf iv).toNat)
      case atStart => exact ⟨0, st0, _, lr, rfl, Lib.hid (Nat.zero_le _), HI4, HJ4, HP0⟩
      case round =>
        obtain ⟨a, st, W, l, rfl, Hal, HI, HJ, HP⟩ := hrel
        obtain ⟨va, vc2, rfl, _, _⟩ := owns_valP HI.out.l
        obtain ⟨ll, hll⟩ : ∃ ll, ll = l.length := ⟨_, rfl⟩
        rw [← hll] at HI ⊢
        have hb9 : ll ≤ 500000000000 := by have := HP.out.bd; have := HB0.out; omega
        have hlB : ll ≤ B0 := by have := HP.out.bd; omega
        have Hll := Lib.hid hll
        have HlB := Lib.hid hlB
        have hl63 : ll ≤ 9223372036854775807 := by omega
        clear HI4 HJ4 HP0 hlB
        by_cases hlt : a < ll
        · have hal : a < l.length := by rw [← hll]; exact hlt
          obtain ⟨gl2, hv, hgl1, hgl2, hcl, _⟩ := owns_cellN (show wr.ownsRow w.heap.size 3 1 (.slice va l.length vc2) l.length (ints l) by rw [hll] at HI; exact HI.out.l) (by omega)
          subst hv
          have c1 := hcl a _ (ints_at l a hal)
          obtain ⟨q2, hq2, hx⟩ := HP.out.mem _ (List.getElem_mem hal)
          rw [hx] at c1
          obtain ⟨gw, hv, hg1, hg2, hcw, hfr⟩ := owns_cellN HI.out.w (by omega)
          simp only [Option.some.injEq, Addr.mk.injEq, and_true] at hv
          subst hv
          obtain ⟨x0, c0⟩ : ∃ x0, wr.cell? ⟨w.heap.size, q2, none⟩ = some (.bool x0) := ⟨_, hcw q2 _ (bools_at _ q2 (by rw [HI.out.len]; exact hq2))⟩
          have f0 := hfr q2
          have hI2 := HI.out.put q2 hq2 false
          obtain ⟨P, hJ2, hP1, hP2, hP3⟩ := HJ.out.set HJk.out q2 (.bool false)
          have HP9 := Lib.hid (And.intro hP2 hP3)
          have Hc := Lib.hid (Hcall.out _ st q2 P hq2 HP.out.inv hJ2 hP1 hI2.kb)
          have HI2 := Lib.hid hI2
          have Hneg := Lib.hid (HL.out.neg st q2 hq2 HP.out.inv)
          have HPn := Lib.hid (HP.out.neg q2 hq2 hal hx)
          have HPp := Lib.hid (HP.out.pos HL.out q2 hq2 hal hx)
          have Hw := Lib.hid (HL.out.wide st q2 hq2 HP.out.inv)
          have hlt2 : w.heap.size < wr.heap.size := hg2
          have ha1 : (a : Int) < (ll : Int) := by omega
          have ha2 : (0 : Int) ≤ (a : Int) := by omega
          have hq3 : (q2 : Int) < (i : Int) := by omega
          have hq4 : (0 : Int) ≤ (q2 : Int) := by omega
          have Hlt := Lib.hid hlt
          rw [← hll] at HPp
          have Hsz2 : Hid (w.heap.size < (wr.setCell ⟨w.heap.size, q2, none⟩ (.bool false)).heap.size ∧ ∀ b, (Value.slice (some ⟨gl2, 0, none⟩) ll vc2).ownBlock = some b → b < (wr.setCell ⟨w.heap.size, q2, none⟩ (.bool false)).heap.size) := Lib.hid ⟨by simp [World.setCell]; exact hg2, fun b e => by cases e; simp [World.setCell]; exact hgl2⟩
          clear hI2 hJ2 hP1 hP2 hP3 hcl hcw hfr hg1 hg2 hgl1 hgl2 hal hlt hll hx
          go_wp2_with fail
          refine (Hc.out).mono ?_
          rintro e w5 (⟨rfl, ⟨P5, hJ5, hP5⟩, hk5⟩ | ⟨x9, rfl, hQ5⟩)
          rotate_left
          · have HQ5 := Lib.hid hQ5
            clear hQ5 Hc c0 c1 f0 HPp HPn Hneg
            go_wp2_with fail
            try simp only [Exit.inBlock, Exit.then]
            refine bodyPost_ret (v := .tuple #[]) (by first | rfl | simp [results, Try.results46, go_sem]) rfl ?_
            exact ⟨rfl, .inr HQ5.out⟩
          have HI5 := Lib.hid (HI2.out.call Hgw.out hk5)
          have HJ5 : Hid (JP J w.heap.size w5 (look st q2).1 (.slice (some ⟨gl2, 0, none⟩) ll vc2)) := Lib.hid (JP.call hJ5 hP5 HP9.out Hsz2.out)
          obtain ⟨cc2, hcc2⟩ : ∃ cc2, cc2 = (look st q2).2 := ⟨_, rfl⟩
          obtain ⟨st2, hst2⟩ : ∃ st2, st2 = (look st q2).1 := ⟨_, rfl⟩
          rw [← hcc2, ← hst2] at HPp
          rw [← hcc2] at Hneg HPn Hw ⊢
          rw [← hst2] at Hneg HJ5
          clear hJ5 hP5 hk5 Hc c0 c1 f0 hcc2 hst2
          by_cases hc : cc2 < 0
          · have q1 : decide (cc2 < 0) = true := decide_eq_true hc
            have HJ6 : Hid (JP J w.heap.size w5 st (.slice (some ⟨gl2, 0, none⟩) ll vc2)) := Lib.hid (by have := HJ5.out; rw [Hneg.out hc] at this; exact this)
            have HP6 := Lib.hid (HPn.out hc)
            have Hal6 : Hid (a + 1 ≤ l.length) := Lib.hid (by have := Hlt.out; have := Hll.out; omega)
            clear hc HPp HPn Hneg
            go_wp2_with fail
            go_roundw
            case rel => exact ⟨a + 1, st, _, l, by go_num, Hal6, HI5, HJ6, HP6⟩
            case measure => have := Hlt.out; have := HlB.out; simp [intOf]; omega
          · have q1 : decide (cc2 < 0) = false := decide_eq_false hc
            have HQ0 := Lib.hid (HPp.out (by omega))
            obtain ⟨hlook, hrow⟩ := ask_row HA.out Hg.out HI5.out.kb cc2 Hw.out
            have Hask2 := Lib.hid (Hask.out cc2)
            obtain ⟨ka, kc, hkv, hk1, hk2⟩ := hrow.val
            have Hkv := Lib.hid hkv
            rw [hkv] at hlook
            have Hrow : Hid (∀ W, KB w.heap.size g w W → Row W W.heap.size 1 (.slice ka (askl F cc2).length kc) (askl F cc2).length (ints (askl F cc2))) := Lib.hid fun W hW => by
              have := (ask_row HA.out Hg.out hW cc2 Hw.out).2
              rw [hkv] at this; exact this
            unfold maxLen at hk2
            obtain ⟨m, hm⟩ : ∃ m, m = (askl F cc2).length := ⟨_, rfl⟩
            rw [← hm] at hlook hk1 Hrow
            have hm63 : m ≤ 9223372036854775807 := by omega
            have Hm := Lib.hid hm
            clear hc HPp HPn Hneg hrow hkv hk1 hk2 hm
            obtain ⟨wo, rfl⟩ : ∃ wo : World, wo = wr := ⟨_, rfl⟩
            go_wp2_with fail
            go_loopw [7, 58] (fun lv iv wx => ∃ (t : Nat) (W : List Bool) (l : List Int), t ≤ m ∧ iv = .int .i64 (t : Nat) ∧ Hid (SetI w wx g i (.slice (some ⟨w.heap.size, 0, none⟩) i i) lv W l) ∧ Hid (JP J w.heap.size wx st2 lv) ∧ Hid (SetQ i (askl F) look μ Inv B0 st2 cc2 a ll t W l)) (fun _ iv _ => m - (intOf iv).toNat)
            case atStart => exact ⟨0, _, l, Nat.zero_le _, rfl, HI5, HJ5, HQ0⟩
            case round =>
              clear HI5 HJ5 HQ0 hlook
              obtain ⟨t, W3, l3, ht, rfl, HI, HJ, HQ⟩ := hrel
              obtain ⟨vb, vd, rfl, _, _⟩ := owns_valP HI.out.l
              obtain ⟨l4, hl4⟩ : ∃ l4, l4 = l3.length := ⟨_, rfl⟩
              rw [← hl4] at HI HJ ⊢
              have hl9 : l3.length ≤ B0 := by
                have h1 := HQ.out.cnt; have h2 := HQ.out.bd
                have h3 : (μ st2 + 1) * i = μ st2 * i + i := Nat.succ_mul _ _
                omega
              by_cases htm : t < m
              · have htl : t < (askl F cc2).length := by have := Hm.out; omega
                have hr3 := Hrow.out wr HI.out.kb
                have hml : m = (askl F cc2).length := Hm.out
                obtain ⟨b8, o8, hka, hb8, _⟩ := Row.at hr3 (by rw [ints_length]; omega)
                subst hka
                have c8 := Row.cell hr3 t _ (ints_at _ t htl)
                obtain ⟨y, hy, hyx⟩ := Hask2.out _ (List.getElem_mem htl)
                rw [hyx] at c8
                obtain ⟨gw, hv, hg1, hg2, hcw, hfr⟩ := owns_cellN HI.out.w (by omega)
                simp only [Option.some.injEq, Addr.mk.injEq, and_true] at hv
                subst hv
                have hyl : y < W3.length := by rw [HI.out.len]; exact hy
                have c9 := hcw y _ (bools_at W3 y hyl)
                have f9 := hfr y
                have hWy : W3[y]? = some W3[y] := List.getElem?_eq_getElem hyl
                have Hno := Lib.hid (HQ.out.no y hy htl hyx)
                have Hyes := Lib.hid (HQ.out.yes y hy htl hyx)
                have ht1 : (t : Int) < (m : Int) := by omega
                have ht2 : (0 : Int) ≤ (t : Int) := by omega
                have hy3 : (y : Int) < (i : Int) := by omega
                have hy4 : (0 : Int) ≤ (y : Int) := by omega
                have hI2 := HI.out.put y hy true
                obtain ⟨a9, d9, w9, happ, hI3, hs3⟩ := hI2.push2 (y : Int) (by have := HB0.out; omega)
                rw [← hl4] at hs3
                rw [← hl4, show (wr.setCell ⟨w.heap.size, y, none⟩ (.bool true)).heap.size = wr.heap.size by simp [World.setCell]] at happ
                have HJ3 := Lib.hid ((HJ.out.set HJk.out y (.bool true)).push HJk.out hs3)
                have e4 : (l3 ++ [(y : Int)]).length = l4 + 1 := by rw [List.length_append, ← hl4]; rfl
                rw [← hl4] at hI3
                have HI3 := Lib.hid hI3
                have hlt9 : w.heap.size < wr.heap.size := hg2
                have Htm := Lib.hid htm
                generalize W3[y] = x9 at *
                clear hcw hfr hg1 hg2 hI2 hI3 hs3 hr3 hyl htl hl9 e4 hb8 hml hl4 hyx htm ht
                cases x9 with
                | true =>
                  have HQ2 := Lib.hid (Hno.out hWy)
                  clear hWy Hno Hyes happ
                  go_wp2_with fail
                  go_roundw
                  case rel => exact ⟨t + 1, W3, l3, Htm.out, by go_num, HI, HJ, HQ2⟩
                  case measure => have := Htm.out; simp [intOf]; omega
                | false =>
                  have HQ2 := Lib.hid (Hyes.out hWy)
                  clear hWy Hno Hyes
                  go_wp2_with fail
                  go_roundw
                  case rel => exact ⟨t + 1, _, _, Htm.out, by go_num, HI3, HJ3, HQ2⟩
                  case measure => have := Htm.out; simp [intOf]; omega
              · obtain rfl : t = m := by omega
                have HPf := Lib.hid (HQ.out.fin (by have := Hm.out; omega))
                have Hal6 := Lib.hid HQ.out.al
                have ha9 := Hlt.out
                clear hl9 hl4
                go_wp2_with fail
                go_roundw
                case rel => exact ⟨a + 1, st2, W3, l3, by go_num, Hal6, HI, HJ, HPf⟩
                case measure => have := HlB.out; simp [intOf]; omega
        · have hd := Lib.hid (HP.out.done (by have := Hll.out; omega))
          clear hll
          go_wp2_with fail
          refine bodyPost_end (v := .tuple #[]) (by first | rfl | simp [results, Try.results46, go_sem]) rfl ?_
          obtain ⟨P, hJ, _⟩ := HJ.out
          exact ⟨rfl, .inl ⟨st, P, HP.out.inv, hJ, HI.out.kb, hd.out⟩⟩
set_option maxHeartbeats 1000000 in
set_option maxRecDepth 100000 in
theorem settle_zero (m f : Value) (w : World) : Calls Try.prog 46 #[.int .i64 0, m, f] w fun e w' => e = .returned (.tuple #[]) ∧ Below w.heap.size w w' := by
  obtain ⟨i0, hi, hz0, hz1, hz2⟩ := info_parts info_boolT
  go_enter Try.func46, Try.ntmps46
  go_wp2_with (at_make; refine wpList_make_full _ rfl _ _ 50 rfl w.heap.size 4 i0 (.bool false) 1 Try.underlying50 hi hz0 hz1 .i64 .i64 _ _ 0 rfl rfl rfl rfl (by rw [hz2]; omega) (by unfold maxLen; omega) (Nat.le_refl _) ?_; intro wm hown hgrow)
  have HB := Lib.hid ((Below.refl w.heap.size w).grown hgrow (Nat.le_refl _) (fun k e => by cases e))
  clear hown hgrow hi hz0 hz1 hz2
  go_wp2_with fail
  go_loopw [7, 18] (fun lv iv wr => lv = .slice none 0 0 ∧ iv = .int .i64 0 ∧ Hid (Below w.heap.size w wr)) (fun _ _ _ => 0)
  case atStart => exact ⟨rfl, rfl, HB⟩
  case round =>
    clear HB
    obtain ⟨rfl, rfl, HB⟩ := hrel
    have Hr := Lib.hid (Try.slices_Reverse_int_empty none 0 wr)
    go_wp2_with fail
    refine (Hr.out).mono ?_
    rintro e w4 ⟨rfl, rfl⟩
    clear Hr
    go_wp2_with fail
    go_loopw [7, 9] (fun lv iv wx => lv = .slice none 0 0 ∧ iv = .int .i64 0 ∧ Hid (Below w.heap.size w wx)) (fun _ _ _ => 0)
    case atStart => exact ⟨rfl, rfl, HB⟩
    case round =>
      clear HB
      obtain ⟨rfl, rfl, HB⟩ := hrel
      go_wp2_with fail
      refine bodyPost_end (v := .tuple #[]) (by first | rfl | simp [results, Try.results46, go_sem]) rfl ⟨rfl, HB.out⟩
end Go.Proofs.Ytimgnbacgdmiiaa
