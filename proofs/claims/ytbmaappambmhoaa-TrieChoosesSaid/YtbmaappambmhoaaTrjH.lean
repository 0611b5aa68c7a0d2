/-
  TrieChooses: its walk.
-/
import Derived.Test.YtbmaappambmhoaaTrjG
import Derived.Deep.RegionWith
namespace Go.Proofs.Ytbmaappambmhoaa
open Go.RowKit PK
set_option linter.unusedVariables false
set_option linter.unusedSimpArgs false
attribute [local go_sem ↓] append_appM

set_option maxHeartbeats 4000000 in
set_option maxRecDepth 100000 in
theorem trieChooses_walk (k : Int) (v : Value) (S : List (List Tx)) (s : Tx) (w : World) (r : RR w w.heap.size v S) (hx : ∀ l ∈ S, ∀ x ∈ l, x.length ≤ maxLen) (hk : -9223372036854775808 ≤ k ∧ k ≤ 9223372036854775807) (hs : s.length ≤ maxLen) :
    Calls Try.prog 7 #[.int .i64 k, v, .string ⟨s.toArray⟩] w (BoolB w true) := by
  have H1 := Lib.hid (few18_any v S w r hx)
  obtain ⟨l1, l2, l3⟩ := few18S_lim S
  have l4 := flat_lim S
  have hid := few18S_idem S
  generalize few18S S = G at *
  have HL := Lib.hid (And.intro l1 (And.intro l2 (And.intro l3 l4)))
  have Hid' := Lib.hid hid
  have Hss := Lib.hid hs
  obtain ⟨sb, hsb⟩ : ∃ sb : ByteArray, sb = ⟨s.toArray⟩ := ⟨_, rfl⟩
  rw [← hsb]
  have Hsb := Lib.hid hsb
  clear r hx l1 l2 l3 l4 hid hs hsb
  go_enter Try.func7, Try.ntmps7
  go_wp2_with fail
  refine (H1.out).mono ?_
  rintro e w1 ⟨v1, rfl, r1, b1⟩
  have H2 := Lib.hid (few18_any v1 G w1 r1 (fun l hl x hx => by have := HL.out.2.2.1 l hl x hx; unfold maxLen; omega))
  rw [Hid'.out] at H2
  have Hr1 := Lib.hid r1; have Hb1 := Lib.hid b1
  clear r1 b1 H1
  go_wp2_with fail
  refine (H2.out).mono ?_
  rintro e w2 ⟨v2, rfl, r2, b2⟩
  have H3 := Lib.hid (triMake_any k v2 G w2.heap.size w2 (Nat.le_refl _) r2 (by have := HL.out.1; omega) (fun l hl => by have := HL.out.2.1 l hl; omega) (fun l hl x hx => by have := HL.out.2.2.1 l hl x hx; omega) (by have := HL.out.2.2.2; omega))
  have Hb2 := Lib.hid b2
  clear r2 b2 H2
  go_wp2_with fail
  refine (H3.out).mono ?_
  rintro e w3 hpost
  have Hpost := Lib.hid hpost
  have hb3 := hpost.1
  have HB3 := Lib.hid (Hb1.out.trans ((Hb2.out.trans (hb3.mono Hb2.out.size)).mono Hb1.out.size))
  have HB13 := Lib.hid (Hb2.out.trans (hb3.mono Hb2.out.size))
  clear hpost hb3 H3
  by_cases hE : errI k G = 0
  · obtain ⟨_, vo, rfl, hnr⟩ := Hpost.out.yes hE
    obtain ⟨K, hK, hK1, hK4, hbad⟩ := errI_zero hE
    subst hK
    rw [Int.toNat_natCast] at hnr
    obtain ⟨m1, m2, m3, m4⟩ := trie_math K G hK1 hK4 hbad (by have := HL.out.1; omega) (by have := HL.out.2.2.2; omega)
    obtain ⟨n1, n2⟩ := sets_math K G hK1 hbad hE s
    have hlen := sets_len hE
    have hat := sets_at hE
    have hel : (entS G).length ≤ 60 := Nat.le_trans (entS_len G) HL.out.2.2.2
    obtain ⟨ao, c, rfl, hc1, hc2⟩ := hnr.val
    have hNl : (flat K 0 (mkT K (entS G))).length = tsize K (mkT K (entS G)) := flatT_len K 0 _
    obtain ⟨sz, hsz⟩ : ∃ sz, sz = (flat K 0 (mkT K (entS G))).length := ⟨_, rfl⟩
    rw [← hsz] at hnr hc1 ⊢
    have hb4 : Below w3.heap.size w3 (w3.alloc (.cells #[.int .i64 (K : Int), .slice ao sz c] 41)) := (Below.refl _ w3).alloc (Nat.le_refl _) _
    have hs4 : (w3.alloc (.cells #[.int .i64 (K : Int), .slice ao sz c] 41)).heap.size = w3.heap.size + 1 := by simp
    have hg0 : (w3.alloc (.cells #[.int .i64 (K : Int), .slice ao sz c] 41)).cell? ⟨w3.heap.size, 0, none⟩ = some (.int .i64 (K : Int)) := cell_new w3 _ _ 0 _ rfl
    have hg1 : (w3.alloc (.cells #[.int .i64 (K : Int), .slice ao sz c] 41)).cell? ⟨w3.heap.size, 1, none⟩ = some (.slice ao sz c) := cell_new w3 _ _ 1 _ rfl
    have Hb4 := Lib.hid hb4
    have HG : Hid (∀ W, Below (w3.alloc (.cells #[.int .i64 (K : Int), .slice ao sz c] 41)).heap.size (w3.alloc (.cells #[.int .i64 (K : Int), .slice ao sz c] 41)) W → W.cell? ⟨w3.heap.size, 0, none⟩ = some (.int .i64 (K : Int)) ∧ W.cell? ⟨w3.heap.size, 1, none⟩ = some (.slice ao sz c) ∧ RR W w1.heap.size v1 G ∧ w1.heap.size ≤ W.heap.size) := Lib.hid fun W hW =>
      have hbw := hb4.trans (hW.mono hb4.size)
      ⟨(hW.cell (p := ⟨w3.heap.size, 0, none⟩) (by show w3.heap.size < _; rw [hs4]; omega)).trans hg0, (hW.cell (p := ⟨w3.heap.size, 1, none⟩) (by show w3.heap.size < _; rw [hs4]; omega)).trans hg1, Hr1.out.below (HB13.out.trans (hbw.mono HB13.out.size)), Nat.le_trans HB13.out.size hbw.size⟩
    have Hch : Hid (∀ W, Below (w3.alloc (.cells #[.int .i64 (K : Int), .slice ao sz c] 41)).heap.size (w3.alloc (.cells #[.int .i64 (K : Int), .slice ao sz c] 41)) W → Calls Try.prog 34 #[.agg #[.int .i64 (K : Int), .slice ao sz c], .string sb] W fun e w' => e = .returned (.int .i64 (whichI G s)) ∧ Below W.heap.size W w') := Lib.hid fun W hW => by
      have hbw := hb4.trans (hW.mono hb4.size)
      rw [← n1, Hsb.out]
      by_cases hsl : s.length = K
      · exact choose_any K _ _ s w3.heap.size W hbw.size hK1 hK4 m1 m4 (hnr.below hbw) (by omega)
      · exact choose_off K _ _ s W ⟨_, _, _, rfl⟩ Hss.out hK4 hsl
    have Hst : Hid (∀ W, Below (w3.alloc (.cells #[.int .i64 (K : Int), .slice ao sz c] 41)).heap.size (w3.alloc (.cells #[.int .i64 (K : Int), .slice ao sz c] 41)) W → Calls Try.prog 35 #[.agg #[.int .i64 (K : Int), .slice ao sz c]] W (SetsPost W (addAll [] (entS G)))) := Lib.hid fun W hW => by
      have hbw := hb4.trans (hW.mono hb4.size)
      have h := sets_any K _ _ w3.heap.size W hbw.size hK1 hK4 m1 m4 (by rw [n2]; omega) (hnr.below hbw)
      rw [n2] at h; exact h
    have Hhd : Hid (∀ W, Below (w3.alloc (.cells #[.int .i64 (K : Int), .slice ao sz c] 41)).heap.size (w3.alloc (.cells #[.int .i64 (K : Int), .slice ao sz c] 41)) W → Calls Try.prog 36 #[.agg #[.int .i64 (K : Int), .slice ao sz c]] W (OwnI W (toSetI (headsF G.flatten)))) := Lib.hid fun W hW => by
      have hbw := hb4.trans (hW.mono hb4.size)
      have hr := hnr.below hbw
      clear hg0 hg1 hs4 hc1 hlen hat n1 n2 hNl hnr hW HG Hch Hst m2 m3 hE hel hb4 Hb4 Hpost hk
      clear hsz
      obtain ⟨K', rfl⟩ : ∃ K', K = K' + 1 := ⟨K - 1, by omega⟩
      rw [← heads_math K' G hbad m1]
      exact heads_any K' _ _ w3.heap.size W hbw.size hK4 m1 m4 hr
    have Hlen := Lib.hid hlen; have Hat := Lib.hid hat
    clear hlen hat n1 n2 hel hNl hnr hK1 hK4 hbad m1 m2 m3 m4 hc1 hc2 hsz hb4 hs4 hg0 hg1 hk hE Hpost
    go_upto_region 3 with fail
    generalize w3.alloc (.cells #[.int .i64 (K : Int), .slice ao sz c] 41) = w4 at *
    have Hown0 := Lib.hid (World.ownsRow_made (base := w4.heap.size) (e := 9) (size := 1) w4 #[] 0 (Nat.le_refl _) (Nat.zero_le _) rfl)
    obtain ⟨gl, hgl⟩ : ∃ gl, gl = G.length := ⟨_, rfl⟩
    have Hgl := Lib.hid hgl
    have hgl5 : gl ≤ 5 := by have := HL.out.1; omega
    have Hv1 : Hid (∃ a1 c1, v1 = .slice a1 gl c1) := Lib.hid (by
      obtain ⟨a1, c1, hv, _, _⟩ := Hr1.out.val
      exact ⟨a1, c1, by rw [hv, hgl]⟩)
    obtain ⟨va, vc, rfl⟩ := Hv1.out
    clear hgl
    go_wp2_with fail
    go_loopw [9, 10, 11] (fun wv av iv wr => ∃ i q : Nat, i ≤ gl ∧ iv = .int .i64 i ∧ wv = .int .i64 (wantW G i) ∧ Hid ((G.take i).flatten.length = q) ∧ Hid (wr.ownsRow w4.heap.size 9 1 av q (svt (G.take i).flatten)) ∧ Hid (Below w4.heap.size w4 wr)) (fun _ _ iv _ => gl - (intOf iv).toNat)
    case atStart => exact ⟨0, 0, Nat.zero_le _, rfl, rfl, Lib.hid rfl, Hown0, Lib.hid ((Below.refl _ w4).alloc (Nat.le_refl _) _)⟩
    case round =>
      obtain ⟨i, q, hi, rfl, rfl, Hq, Hown, Hbel⟩ := hrel
      obtain ⟨oo, oc, rfl, ho1, ho2⟩ := owns_valP Hown.out
      obtain ⟨c0, c1, rr, y1⟩ := HG.out wr Hbel.out
      have hwl := wantW_le G i
      by_cases hlt : i < gl
      · have hlt' : i < G.length := by have := Hgl.out; omega
        obtain ⟨b1, o1, a1, d1, hao, hb1, c10, rk, hk1, hk2⟩ := (show RR wr w1.heap.size (.slice va gl vc) G from rr).get i hlt'
        subst hao
        obtain ⟨i0, hi0, hz0, hz1, hz2⟩ := info_parts info_str
        have h1 : q ≤ 60 := by
          rw [← Hq.out]
          have h2 := HL.out.2.2.2
          have h3 : G.flatten = ((G.take i) ++ (G.drop i)).flatten := by rw [List.take_append_drop]
          rw [List.flatten_append] at h3
          have h4 := congrArg List.length h3
          rw [List.length_append] at h4
          omega
        have h2 := HL.out.2.1 _ (List.getElem_mem hlt')
        have Hn := Lib.hid (flat_take G i hlt')
        have hgd := getD_S G i hlt'
        obtain ⟨v', w', e1, e2, e3, e4⟩ := run_append_row (P := Try.prog) wr 22 22 w4.heap.size 9 i0 (.string ByteArray.empty) 1 16 Try.underlying22 hi0 hz0 hz1 hz2 rfl (by decide) _ _ _ Hown.out _ _ _ _ rk (svt_one _) (by unfold maxLen; omega) (by omega) Hbel.out.size
        have happ := (show Sem.run Try.prog (appM _ _ _) _ = _ from e1)
        have HB := Lib.hid (Hbel.out.grown e3 Hbel.out.size (fun g hg => (Hown.out.lt g hg).1))
        have Ho : Hid (w'.ownsRow w4.heap.size 9 1 v' (q + G[i].length) (svt (G.take (i + 1)).flatten)) := Lib.hid (by rw [Hn.out, svt_append]; exact e2)
        have Hq2 : Hid ((G.take (i + 1)).flatten.length = q + G[i].length) := Lib.hid (by rw [Hn.out, List.length_append, Hq.out])
        have Hwant : Hid (wantW G (i + 1) = if G[i].length = 0 then wantW G i else i + 1) := Lib.hid (by rw [← hgd]; rfl)
        have hki : (i : Int) < (gl : Int) := by omega
        have hk0 : (0 : Int) ≤ (i : Int) := by omega
        clear e1 e2 e3 e4 rk h1 h2 hk1 hk2 hi0 hz0 hz1 hz2 Hn hgd rr y1
        generalize G[i] = l at *
        obtain ⟨ll, hll⟩ : ∃ ll, l.length = ll := ⟨_, rfl⟩
        rw [hll] at c10 happ Ho Hq2 Hwant
        clear hll
        rcases Nat.eq_zero_or_pos ll with rfl | hpos
        · have Hw2 : Hid (wantW G (i + 1) = wantW G i) := Lib.hid (by rw [Hwant.out, if_pos rfl])
          go_wp2_with fail
          go_roundw
          case rel => exact ⟨i + 1, _, hlt, by go_num, by rw [Hw2.out], Hq2, Ho, HB⟩
          case measure => simp [intOf]; omega
        · have Hw2 : Hid (wantW G (i + 1) = i + 1) := Lib.hid (by rw [Hwant.out, if_neg (by omega)])
          have hposi : (0 : Int) < (ll : Int) := by omega
          go_wp2_with fail
          go_roundw
          case rel => exact ⟨i + 1, _, hlt, by go_num, by rw [Hw2.out]; go_num, Hq2, Ho, HB⟩
          case measure => simp [intOf]; omega
      · obtain rfl : i = gl := by omega
        rw [Hgl.out, List.take_length] at Hq Hown
        have Hst5 := Lib.hid (Hst.out wr Hbel.out)
        clear rr y1 ho1 ho2
        go_wp2_with fail
        refine (Hst5.out).mono ?_
        rintro e w6 ⟨v6, rfl, r6, b6⟩
        have HB6 := Lib.hid (Hbel.out.trans (b6.mono Hbel.out.size))
        have Hown6 : Hid (w6.ownsRow w4.heap.size 9 1 (.slice oo q oc) q (svt G.flatten)) := Lib.hid (owns_belowP Hown.out b6)
        obtain ⟨a6, d6, rfl, _, _⟩ := r6.val
        have hlenC : (addAll [] (entS G)).length = wantW G i := by rw [Hlen.out, ← Hgl.out]
        have hwn : wantW G i ≤ i := wantW_le G i
        have Hat6 : Hid (∀ j, (hj : j < (addAll [] (entS G)).length) → ∃ hj' : j < G.length, (addAll [] (entS G))[j] = toSet G[j]) := Lib.hid fun j hj => by
          have h1 := Hat.out j
          have hj' : j < G.length := by have := Hgl.out; omega
          rw [List.getElem?_eq_getElem hj, Option.getD_some, getD_S G j hj'] at h1
          exact ⟨hj', h1⟩
        generalize addAll [] (entS G) = C at *
        rw [hlenC] at r6 ⊢
        have Hr6 := Lib.hid r6
        have HlC := Lib.hid hlenC
        obtain ⟨wn, hwn2⟩ : ∃ wn, wn = wantW G i := ⟨_, rfl⟩
        rw [← hwn2] at HlC Hr6 hwn ⊢
        clear b6 r6 Hst5 hlenC hwl c0 c1 Hbel Hown hwn2
        obtain ⟨c0, c1, _, _⟩ := HG.out w6 HB6.out
        have hwn5 : wn ≤ 5 := by omega
        have Hwn5 := Lib.hid hwn5
        go_wp2_with fail
        clear c0 c1
        go_loopw [13] (fun jv wx => ∃ j : Nat, j ≤ wn ∧ jv = .int .i64 j ∧ Hid (Below w6.heap.size w6 wx)) (fun jv _ => wn - (intOf jv).toNat)
        case atStart => exact ⟨0, Nat.zero_le _, rfl, Lib.hid (Below.refl _ _)⟩
        case round =>
          obtain ⟨j, hj, rfl, Hx⟩ := hrel
          have HBx := Lib.hid (HB6.out.trans (Hx.out.mono HB6.out.size))
          obtain ⟨c0, c1, rr, y1⟩ := HG.out wr HBx.out
          by_cases hjl : j < wn
          · have hjC : j < C.length := by have := HlC.out; omega
            obtain ⟨hjG, hCj⟩ := Hat6.out j hjC
            obtain ⟨b1, o1, a1, d1, hao1, hb1, c10, rk, hk1, hk2⟩ := (show RR wr w1.heap.size (.slice va i vc) G from rr).get j hjG
            obtain ⟨b2, o2, a2, d2, hao2, hb2, c20, rk2, hk3, hk4⟩ := (Hr6.out.below Hx.out).get j hjC
            subst hao1 hao2
            have hgi : j < i := by have := Hgl.out; omega
            have hjw : (j : Int) < (wn : Int) := by omega
            have hji : (j : Int) < (i : Int) := by omega
            have hj0 : (0 : Int) ≤ (j : Int) := by omega
            have hlG := HL.out.2.1 _ (List.getElem_mem hjG)
            have Hmk := Lib.hid (refMake_any (.slice a1 G[j].length d1) G[j] w1.heap.size wr.drew y1 (rk.below (Below.refl _ wr).drew) (by omega))
            have Hrk2 := Lib.hid rk2
            have hw6x := Hx.out.size
            rw [hCj] at c20 Hrk2
            have Hjl := Lib.hid hjl
            clear rk rk2 hk1 hk2 hk3 hk4 hlG rr hCj
            generalize hls : toSet G[j] = l2 at *
            generalize G[j] = l at *
            clear hls
            have hc10d : wr.drew.cell? ⟨b1, o1 + j, none⟩ = some (.slice a1 l.length d1) := c10
            have Hc20 : Hid (∀ W, Below wr.heap.size wr W → W.cell? ⟨b2, o2 + j, none⟩ = some (.slice a2 l2.length d2)) := Lib.hid fun W hW => (hW.cell (p := ⟨b2, o2 + j, none⟩) (by show b2 < _; omega)).trans c20
            clear y1 hb1 hb2 hw6x hjC hjG hgi hjl hwn hwn5 hgl5
            go_upto_region 18 with fail
            go_region_with (first
              | (go_at_call 10; (refine (Hmk.out).mono ?_; rintro e w7 ⟨v7, rfl, own7, b7⟩); have b7' : Below wr.heap.size wr w7 := (Below.refl _ wr).drew.trans b7; have HB7 := Lib.hid b7'; have c20b := Hc20.out w7 b7'; have Hsm := Lib.hid (sameTexts_any (.slice a2 l2.length d2) v7 l2 l2 w6.heap.size w7.heap.size w7 (Nat.le_trans Hx.out.size b7'.size) (Nat.le_refl _) (Hrk2.out.below (b7'.mono Hx.out.size)) (Row.of_owns own7)); (obtain ⟨a7, d7, rfl, _, _⟩ := owns_valP own7); clear b7 b7' own7)
              | (go_at_call 11; (refine (Hsm.out).mono ?_; rintro e w8 ⟨rfl, b8⟩); have HB8 := Lib.hid (HB7.out.trans (b8.mono HB7.out.size)); clear b8))
            all_goals
              have hjl := Hjl.out
              have hwn5 := Hwn5.out
              have HX8 := Lib.hid (Hx.out.trans (HB8.out.mono Hx.out.size))
              go_wp2_with fail
              go_roundw
              case rel => exact ⟨j + 1, hjl, by go_num, HX8⟩
              case measure => simp [intOf]; omega
          · obtain rfl : j = wn := by omega
            have Hc := Lib.hid (Hch.out wr HBx.out)
            have Hown7 : Hid (wr.ownsRow w4.heap.size 9 1 (.slice oo q oc) q (svt G.flatten)) := Lib.hid (owns_belowP Hown6.out Hx.out)
            clear rr y1 hwn hwn5 hgl5
            go_wp2_with fail
            refine (Hc.out).mono ?_
            rintro e w7 ⟨rfl, b7⟩
            have HB7 := Lib.hid (HBx.out.trans (b7.mono HBx.out.size))
            obtain ⟨c0, c1, rr, y1⟩ := HG.out w7 HB7.out
            have Hw := Lib.hid (refWhich_any (.slice va i vc) G s w1.heap.size w7 y1 rr (by have := HL.out.1; omega))
            rw [← Hsb.out] at Hw
            have Hown8 := Lib.hid (owns_belowP Hown7.out b7)
            clear rr y1 b7 Hc
            go_wp2_with fail
            refine (Hw.out).mono ?_
            rintro e w8 ⟨rfl, b8⟩
            have HB8 := Lib.hid (HB7.out.trans (b8.mono HB7.out.size))
            obtain ⟨c0, c1, _, _⟩ := HG.out w8 HB8.out
            have Hh := Lib.hid (Hhd.out w8 HB8.out)
            have Hown9 := Lib.hid (owns_belowP Hown8.out b8)
            clear b8 Hw
            go_wp2_with fail
            refine (Hh.out).mono ?_
            rintro e w9 ⟨v9, rfl, own9, b9⟩
            have HB9 := Lib.hid (HB8.out.trans (b9.mono HB8.out.size))
            obtain ⟨c0, c1, _, _⟩ := HG.out w9 HB9.out
            have Hrh := Lib.hid (refHeads_any (.slice oo q oc) G.flatten w9.heap.size w9 (Nat.le_refl _) (by rw [Hq.out]; exact Row.of_owns (owns_belowP Hown9.out b9)) (by have := HL.out.2.2.2; omega) (fun x hx => by
              obtain ⟨l, hl, hxl⟩ := List.mem_flatten.1 hx
              have := HL.out.2.2.1 l hl x hxl; omega))
            have Ho9 := Lib.hid own9
            clear b9 own9 Hh
            go_wp2_with fail
            refine (Hrh.out).mono ?_
            rintro e w10 ⟨v10, rfl, own10, b10⟩
            have HB10 := Lib.hid (HB9.out.trans (b10.mono HB9.out.size))
            have Hsi := Lib.hid (sameInts_any v9 v10 (toSetI (headsF G.flatten)) (toSetI (headsF G.flatten)) w10.heap.size w10.heap.size w10 (Nat.le_refl _) (Nat.le_refl _) (Row.of_owns (owns_belowP Ho9.out b10)) (Row.of_owns own10))
            rw [decide_eq_true (rfl : toSetI (headsF G.flatten) = toSetI (headsF G.flatten))] at Hsi
            clear b10 own10 Hrh
            go_wp2_with fail
            refine (Hsi.out).mono ?_
            rintro e w11 ⟨rfl, b11⟩
            have HB11 := Lib.hid (HB10.out.trans (b11.mono HB10.out.size))
            have Hwk := Lib.hid (works18_any w11)
            clear b11 Hsi
            go_wp2_with fail
            refine (Hwk.out).mono ?_
            rintro e w12 ⟨rfl, b12⟩
            have HB12 := Lib.hid (HB11.out.trans (b12.mono HB11.out.size))
            clear b12 Hwk
            go_wp2_with fail
            go_ret
            have q1 := HB3.out.trans (Hb4.out.mono HB3.out.size)
            exact ⟨by first | rfl | simp, q1.trans (HB12.out.mono q1.size)⟩
  · obtain ⟨_, rfl⟩ := Hpost.out.no hE
    have hb4 : Below w3.heap.size w3 (w3.alloc (.cells #[.int .i64 0, .slice none 0 0] 41)) := (Below.refl _ w3).alloc (Nat.le_refl _) _
    have hs4 : (w3.alloc (.cells #[.int .i64 0, .slice none 0 0] 41)).heap.size = w3.heap.size + 1 := by simp
    have hg0 : (w3.alloc (.cells #[.int .i64 0, .slice none 0 0] 41)).cell? ⟨w3.heap.size, 0, none⟩ = some (.int .i64 0) := cell_new w3 _ _ 0 _ rfl
    have hg1 : (w3.alloc (.cells #[.int .i64 0, .slice none 0 0] 41)).cell? ⟨w3.heap.size, 1, none⟩ = some (.slice none 0 0) := cell_new w3 _ _ 1 _ rfl
    have Hb4 := Lib.hid hb4
    have HG : Hid (∀ W, Below (w3.alloc (.cells #[.int .i64 0, .slice none 0 0] 41)).heap.size (w3.alloc (.cells #[.int .i64 0, .slice none 0 0] 41)) W → W.cell? ⟨w3.heap.size, 0, none⟩ = some (.int .i64 0) ∧ W.cell? ⟨w3.heap.size, 1, none⟩ = some (.slice none 0 0)) := Lib.hid fun W hW =>
      ⟨(hW.cell (p := ⟨w3.heap.size, 0, none⟩) (by show w3.heap.size < _; rw [hs4]; omega)).trans hg0, (hW.cell (p := ⟨w3.heap.size, 1, none⟩) (by show w3.heap.size < _; rw [hs4]; omega)).trans hg1⟩
    have hEn : ((errI k G : Int) == 0) = false := by rw [beq_eq_false_iff_ne]; exact hE
    clear hb4 hs4 hg0 hg1 Hpost hk
    generalize errI k G = E at *
    go_upto_region 3 with fail
    generalize w3.alloc (.cells #[.int .i64 0, .slice none 0 0] 41) = w4 at *
    have Hch : Hid (Calls Try.prog 34 #[.agg #[.int .i64 0, .slice none 0 0], .string sb] w4.drew fun e w' => e = .returned (.int .i64 (-1)) ∧ Below w4.heap.size w4 w') := Lib.hid (by
      rw [Hsb.out]; exact (choose_zero s w4.drew Hss.out).mono fun e w' h => ⟨h.1, (Below.refl _ w4).drew.trans h.2⟩)
    obtain ⟨c0, c1⟩ := HG.out w4 (Below.refl _ _)
    go_upto_region 4 with fail
    go_region_with (first
      | (go_at_call 34; (refine (Hch.out).mono ?_; rintro e w5 ⟨rfl, b5⟩); have HB5 := Lib.hid b5; (obtain ⟨c0, c1⟩ := HG.out w5 b5); have H5 := Lib.hid (sets_zero w5); clear b5)
      | (go_at_call 35; (refine (H5.out).mono ?_; rintro e w6 ⟨v6, rfl, r6, b6⟩); (obtain ⟨a6, d6, rfl, _, _⟩ := r6.val); have HB6 := Lib.hid (HB5.out.trans (b6.mono HB5.out.size)); (obtain ⟨c0, c1⟩ := HG.out w6 HB6.out); have H6 := Lib.hid (heads_zero w6); clear b6 r6)
      | (go_at_call 36; (refine (H6.out).mono ?_; rintro e w7 ⟨v7, rfl, r7, b7⟩); (obtain ⟨a7, d7, rfl, _, _⟩ := owns_valP r7); have HB7 := Lib.hid (HB6.out.trans (b7.mono HB6.out.size)); have H7 := Lib.hid (works18_any w7); clear b7 r7)
      | (go_at_call 30; (refine (H7.out).mono ?_; rintro e w8 ⟨rfl, b8⟩); have HB8 := Lib.hid (HB7.out.trans (b8.mono HB7.out.size)); clear b8))
    all_goals
      go_wp2_with fail
      go_ret
      have q1 := HB3.out.trans (Hb4.out.mono HB3.out.size)
      exact ⟨by first | rfl | simp, q1.trans (HB8.out.mono q1.size)⟩
set_option maxRecDepth 100000 in
theorem trieChooses_law {H : Type} {base : Nat} (enc : TypeId × Value → H) (W : World)
    (a0 : Int) (w0 : (Lit.int .i64 a0).wf = true)
    (v1 : Value) (d1 : DataW H) (p1 : List MemPlace) (k1 : Value.okWide Try.prog W .any base 37 v1) (h1 : DataW.Trod enc Try.prog W 0 (fun _ => true) true 37 v1 d1 p1)
    (s2 : ByteArray) (w2 : s2.size ≤ maxLen) :
    Calls Try.prog 7 #[.int .i64 a0, v1, .string s2] W fun e w' => e = .returned (.bool true) ∧ Below W.heap.size W w' := by
  obtain ⟨S, r, hx⟩ := rrOf Try.underlying37 Try.underlying22 Try.underlying9 (by kernel_rfl) (by kernel_rfl) (Go.WideShapes.okWide_slice Try.underlying37 k1) h1
  have h := trieChooses_walk a0 v1 S s2.data.toList W r hx (i64_of_wfT w0) (by rw [Array.length_toList]; exact w2)
  have e : (⟨s2.data.toList.toArray⟩ : ByteArray) = s2 := by simp
  rw [e] at h
  exact h
end Go.Proofs.Ytbmaappambmhoaa
