/-
  reach.Way.
-/
import Derived.Test.YtfmcigodfihlcaaReaO
namespace Go.Proofs.Ytfmcigodfihlcaa
open Go.RowKit PK
set_option linter.unusedVariables false
set_option linter.unusedSimpArgs false
attribute [local go_sem ↓] append_appM

/-- What reach.Way answers. -/
def WayP (w : World) (b : Bn) (n : Int) (e : Ending) (w' : World) : Prop :=
  (((bmay b ≠ 0 ∨ ¬ (0 ≤ n ∧ n < b.of.length)) ∧ e = .returned (.slice none 0 0)) ∨ (bmay b = 0 ∧ (0 ≤ n ∧ n < b.of.length) ∧ ∃ st, Fix b false st ∧ ((¬ Rc (FN b st) (FN b st n) n ∧ e = .returned (.slice none 0 0)) ∨ ∃ W s v, WayOk (FN b st) n W s ∧ W.length ≤ 1000 ∧ (∀ x ∈ W, 0 ≤ x ∧ x < b.of.length) ∧ e = .returned v ∧ w'.ownsRow w.heap.size 3 1 v W.length (ints W)))) ∧ Below w.heap.size w w'
theorem Bk.mem {f : Int → Option Int} {n x : Int} {P : List Int} (h : Bk f n x P) : ∀ y ∈ P, (f y).isSome = true := by
  induction h with
  | nil => intro y hy; cases hy
  | cons h1 h2 h3 ih =>
    intro y hy
    rcases List.mem_cons.1 hy with rfl | h4
    · rw [h2]; rfl
    · exact ih y h4
set_option maxHeartbeats 8000000 in
set_option maxRecDepth 100000 in
theorem way_any (b : Bn) (tk lk n : Int) (ov lv : Value) (B : Nat) (w : World) (etk : b.toks = tk) (elk : b.look = lk) (hB : B ≤ w.heap.size) (r : BR w B ov lv b) :
    Calls Try.prog 33 #[.agg #[.int .i64 tk, .int .i64 lk, ov, lv], .int .i64 n] w (WayP w b n) := by
  obtain ⟨oa, oc, rfl, ho1, ho2⟩ := r.of.val
  obtain ⟨la, lc, rfl, hl1, hl2⟩ := r.l.val
  subst etk elk
  have hbox := BoxB.new b.toks b.look 25 hB r
  have hb1 := agg_box w b.toks b.look (.slice oa b.of.length oc) (.slice la b.l.length lc) 25
  have hno := begun_any b b.toks b.look (.slice oa b.of.length oc) (.slice la b.l.length lc) B _ rfl rfl hbox.le hbox.r
  obtain ⟨ol, hol⟩ : ∃ ol, ol = b.of.length := ⟨_, rfl⟩
  obtain ⟨ll, hll⟩ : ∃ ll, ll = b.l.length := ⟨_, rfl⟩
  obtain ⟨tk, htk⟩ : ∃ tk, tk = b.toks := ⟨_, rfl⟩
  obtain ⟨lk, hlk⟩ : ∃ lk, lk = b.look := ⟨_, rfl⟩
  unfold maxLen at ho2
  have ho63 : (ol : Int) ≤ 9223372036854775807 := by omega
  rw [← hol, ← hll, ← htk, ← hlk] at hbox hb1 hno
  rw [← hol, ← hll, ← htk, ← hlk]
  have Hbox := Lib.hid hbox; have Hb1 := Lib.hid hb1; have Hno := Lib.hid hno; have Hol := Lib.hid hol
  clear r hbox hb1 hno hol hll htk hlk ho1 ho2 hl1 hl2 hB
  go_enter Try.func33, Try.ntmps33
  go_upto_region 1 with fail
  generalize w.alloc (.cells #[.int .i64 tk, .int .i64 lk, .slice oa ol oc, .slice la ll lc] 25) = w1 at *
  obtain ⟨c0, c1, c2, c3⟩ := Hbox.out.four
  go_wp2_with fail
  refine (Hno.out).mono ?_
  rintro e w2 ⟨h2, hb2⟩
  have Hbx2 := Lib.hid (Hbox.out.keep hb2)
  have HB2 := Lib.hid (Hb1.out.trans (hb2.mono Hb1.out.size))
  clear hb2 c0 c1 c2 c3 Hno
  rcases h2 with ⟨hne, rfl⟩ | ⟨h0, n2, g, vo, X, st, rfl, hF, hO, hX, hFx⟩
  · have Hne := Lib.hid hne
    have hq : ((bmay b : Int) != 0) = true := by rw [bne_iff_ne]; exact hne
    have hq2 : ((bmay b : Int) == 0) = false := by rw [beq_eq_false_iff_ne]; exact hne
    clear hne
    generalize hm : bmay b = mm at *
    have HE : Hid (WayP w b n (.returned (.slice none 0 0)) w2) := Lib.hid ⟨.inl ⟨.inl (by rw [hm]; exact Hne.out), rfl⟩, HB2.out⟩
    go_wp2_with fail
    go_ret
    exact HE.out
  · obtain ⟨z1, z2, _, _, _, z6, _⟩ := bmay_zero h0
    have HO := Lib.hid hO; have HX := Lib.hid hX; have HFx := Lib.hid hFx; have HF := Lib.hid hF; have H0 := Lib.hid h0
    have Hz := Lib.hid (And.intro z1 (And.intro z2 z6))
    obtain ⟨c0, c1, c2, c3⟩ := Hbx2.out.four
    have Hout : Hid (¬ (0 ≤ n ∧ n < (ol : Int)) → WayP w b n (.returned (.slice none 0 0)) w2) := Lib.hid fun h => ⟨.inl ⟨.inr (by rw [← Hol.out]; exact h), rfl⟩, HB2.out⟩
    clear hO hX hFx hF h0 z1 z2 z6
    by_cases n0 : n < 0
    · have q1 : decide (n < 0) = true := decide_eq_true n0
      have HE := Lib.hid (Hout.out (by omega))
      clear n0 Hout
      go_wp2_with fail
      go_ret
      exact HE.out
    have q1 : decide (n < 0) = false := decide_eq_false n0
    by_cases n1 : (ol : Int) ≤ n
    · have q2 : decide ((ol : Int) ≤ n) = true := decide_eq_true n1
      have HE := Lib.hid (Hout.out (by omega))
      clear n0 n1 Hout
      go_wp2_with fail
      go_ret
      exact HE.out
    obtain ⟨q, rfl⟩ : ∃ q : Nat, n = (q : Int) := ⟨n.toNat, by omega⟩
    have hqo : q < ol := by omega
    have q5 : decide (ol ≤ q) = false := decide_eq_false (by omega)
    have hol2 : ol ≤ 500 := by have := Hz.out.2.1; have := Hol.out; omega
    have HI0 := Lib.hid (BI.start (N := ol) (F := FN b st) (n := (q : Int)) (by omega))
    have HW0 := Lib.hid (WS.made w2 (q : Int))
    have hs0 : (w2.alloc (.map #[] 0)).heap.size = w2.heap.size + 1 := by simp
    have Hqo := Lib.hid hqo
    have Hrg : Hid (∀ x y, y ∈ FN b st x → 0 ≤ y ∧ y < (ol : Int)) := Lib.hid fun x y hy => by have := FN_range Hz.out.2.2 hy; have := Hol.out; omega
    clear n0 n1 Hout hqo
    have hmm := @run_makeMap Try.prog
    go_wp2_with fail
    clear c0 c1 c2 c3 q1 q5 hs0 hmm
    go_loopw [8, 9] (fun lv iv wr => ∃ (i : Nat) (L : List Int) (D : List Nat) (f : Int → Option Int), iv = .int .i64 (i : Nat) ∧ Hid (BI ol (FN b st) (q : Int) L D f i []) ∧ Hid (WS w2 wr f lv L)) (fun _ iv _ => ol - (intOf iv).toNat)
    case atStart => exact ⟨0, _, _, _, rfl, HI0, HW0⟩
    case round =>
      clear HI0 HW0
      obtain ⟨i, L, D, f, rfl, HI, HW⟩ := hrel
      have hle := nodup_le HI.out.nd HI.out.rg
      have hci := HI.out.le
      obtain ⟨va, vc, rfl, _, _⟩ := owns_valP HW.out.row
      by_cases hlt : i < L.length
      · obtain ⟨gb, hv, hg1, hg2, hcl, _⟩ := owns_cellN HW.out.row (by omega)
        subst hv
        have c9 := hcl i _ (ints_at L i hlt)
        have Hat := Lib.hid (List.getElem?_eq_getElem hlt)
        have hyr := HI.out.rg _ (List.getElem_mem hlt)
        generalize L[i] = y at *
        obtain ⟨p, rfl⟩ : ∃ p : Nat, y = (p : Int) := ⟨y.toNat, by omega⟩
        have hpX : p < X.length := by have := HX.out; have := Hol.out; omega
        obtain ⟨x, hx⟩ : ∃ x, X[p]? = some x := ⟨_, List.getElem?_eq_getElem hpX⟩
        have hxe := HFx.out p x hx
        have hown := HO.out.each _ (List.mem_of_getElem? hx)
        have Hnext := Lib.hid (next_any wr n2 g X.length vo X (HO.out.below HW.out.bel) rfl (by have := HX.out; have := Hol.out; omega) p x hx)
        have Hrow := Lib.hid (fun W (hW : Below w2.heap.size w2 W) => owns_belowP hown hW)
        have Hnx : Hid (∀ L' D' f', L'[i]? = some (p : Int) → BI ol (FN b st) (q : Int) L' D' f' i x.2 → BI ol (FN b st) (q : Int) L' D' f' (i + 1) []) := Lib.hid fun L' D' f' h1 h2 => BI.next h1 (by rw [← hxe]; exact h2)
        have Hmem : Hid (∀ z ∈ x.2, z ∈ FN b st (p : Int)) := Lib.hid fun z hz => by rw [← hxe]; exact hz
        have hl5 : x.2.length ≤ 1000 := by
          rw [hxe]
          have := nodup_le (set_nodup (toSetI_set (rowTo b (goneF false st) b.l.length (p : Int)))) (fun x hx => Hrg.out (p : Int) x hx)
          exact Nat.le_trans this (by omega)
        obtain ⟨xa, xc, hxv, _, _⟩ := owns_valP hown
        rw [hxv] at Hnext Hrow
        have hi1 : (i : Int) < (L.length : Int) := by omega
        have hi2 : (0 : Int) ≤ (i : Int) := by omega
        have hi3 : (i : Int) ≤ 1000 := by omega
        have Hlt := Lib.hid (show i < ol by omega)
        clear hcl hle hci hlt hyr hpX hx hxe hown hxv hg1 hg2
        generalize x.2 = l at *
        obtain ⟨xn, hxn⟩ : ∃ xn, xn = l.length := ⟨_, rfl⟩
        rw [← hxn] at Hnext Hrow hl5
        have Hxn := Lib.hid hxn
        obtain ⟨ln, hln⟩ : ∃ ln, ln = L.length := ⟨_, rfl⟩
        rw [← hln] at hi1 HW ⊢
        clear hxn hln
        go_wp2_with fail
        refine (Hnext.out).mono ?_
        rintro e w3 ⟨rfl, rfl⟩
        clear Hnext c9
        go_wp2_with fail
        go_loopw [8, 48] (fun lv kv wx => ∃ (k : Nat) (L' : List Int) (D' : List Nat) (f' : Int → Option Int), k ≤ xn ∧ kv = .int .i64 (k : Nat) ∧ Hid (BI ol (FN b st) (q : Int) L' D' f' i (l.take k)) ∧ Hid (WS w2 wx f' lv L') ∧ Hid (L'[i]? = some (p : Int))) (fun _ kv _ => xn - (intOf kv).toNat)
        case atStart => exact ⟨0, L, D, f, Nat.zero_le _, rfl, HI, HW, Hat⟩
        case round =>
          clear HI HW Hat
          obtain ⟨k, L', D', f', hk, rfl, HI, HW, Hat⟩ := hrel
          obtain ⟨ya, yc, rfl, _, _⟩ := owns_valP HW.out.row
          by_cases hkl : k < xn
          · have hkl2 : k < l.length := by have := Hxn.out; omega
            have hrow := Hrow.out wr HW.out.bel
            obtain ⟨gx, hv, _, hgx, hclx, _⟩ := owns_cellN hrow (by omega)
            subst hv
            have c9 := hclx k _ (ints_at l k hkl2)
            have Htk : Hid (l.take (k + 1) = l.take k ++ [l[k]]) := Lib.hid (List.take_succ_eq_append_getElem hkl2)
            have hzm := Hmem.out _ (List.getElem_mem hkl2)
            have hzr := Hrg.out _ _ hzm
            generalize l[k] = z at *
            have hz64 : In64 z := by unfold In64; omega
            have hle := nodup_le HI.out.nd HI.out.rg
            have hiL := (List.getElem?_eq_some_iff.1 Hat.out).1
            obtain ⟨gb, hv, hg1, hg2, hcl, _⟩ := owns_cellN HW.out.row (by omega)
            subst hv
            have c10 := hcl i _ (by have := Hat.out; rw [List.getElem?_eq_getElem hiL] at this; rw [ints_at L' i hiL, Option.some.inj this])
            have hk1 : (k : Int) < (xn : Int) := by omega
            have hk2 : (0 : Int) ≤ (k : Int) := by omega
            have hk3 : (k : Int) ≤ 1000 := by omega
            have hi4 : (i : Int) < (L'.length : Int) := by omega
            have Hkl := Lib.hid hkl
            obtain ⟨cnt, hcnt, hmap⟩ := HW.out.map
            by_cases hzq : z = (q : Int)
            · have hzb : (z == (q : Int)) = true := by simp [hzq]
              obtain ⟨P, s, hP1, hP2, hP3⟩ := HI.out.found Hat.out (by rw [← hzq]; exact hzm)
              have hPr : ∀ x ∈ P, 0 ≤ x ∧ x < (ol : Int) := fun x hx => HI.out.rg x (((HI.out.has x).1 (hP1.mem x hx)).1)
              have Hback := Lib.hid (back_any wr w2.heap.size cnt f' (q : Int) (p : Int) P hmap hP1 (by omega) (fun x hx => by have := hPr x hx; unfold In64; omega))
              have HE : Hid (∀ e w', OwnI wr ((q : Int) :: P.reverse ++ [(q : Int)]) e w' → WayP w b (q : Int) e w') := Lib.hid fun e w' ⟨v, he, hown, hb⟩ =>
                ⟨.inr ⟨H0.out, ⟨by omega, by have := Hqo.out; have := Hol.out; omega⟩, st, HF.out, .inr ⟨_, s, v, hP3, by simp; omega, fun x hx => by
                  have := Hqo.out; have := Hol.out
                  simp only [List.cons_append, List.mem_cons, List.mem_append, List.mem_reverse, List.not_mem_nil, or_false] at hx
                  rcases hx with rfl | hx | rfl
                  · omega
                  · have := hPr x hx; omega
                  · omega, he, owns_baseP hown (Nat.le_trans HB2.out.size HW.out.bel.size)⟩⟩, (HB2.out.trans (HW.out.bel.mono HB2.out.size)).trans (hb.mono (Nat.le_trans HB2.out.size HW.out.bel.size))⟩
              obtain ⟨ln, hln⟩ : ∃ ln, ln = L'.length := ⟨_, rfl⟩
              rw [← hln] at hi4 ⊢
              clear hrow hclx hzm hzr hle hiL hcl hcnt hmap hzq hP1 hP2 hP3 hPr hln hkl hkl2 hk hz64 hg1 hg2 hgx HW HI
              go_wp2_with fail
              refine (Hback.out).mono ?_
              intro e w4 h4
              have H4 := Lib.hid (HE.out e w4 h4)
              obtain ⟨v4, rfl, _, _⟩ := h4
              clear Hback HE
              go_wp2_with fail
              go_ret
              exact H4.out
            · have hzb : (z == (q : Int)) = false := by rw [beq_eq_false_iff_ne]; exact hzq
              obtain ⟨v5, hlk⟩ := hmap.look_okI z hz64
              have hhas := HI.out.has z
              by_cases hin : z ∈ L'
              · have hsome : (fV f' z).isSome = true := by
                  have h1 := hhas.2 ⟨hin, hzq⟩
                  unfold fV; rw [Option.isSome_map]; exact h1
                rw [hsome] at hlk
                have HI2 : Hid (BI ol (FN b st) (q : Int) L' D' f' i (l.take (k + 1))) := Lib.hid (by rw [Htk.out]; exact HI.out.skip z hzq hin)
                obtain ⟨ln, hln⟩ : ∃ ln, ln = L'.length := ⟨_, rfl⟩
                rw [← hln] at hi4 HW ⊢
                clear hrow hclx hzm hzr hle hiL hcl hcnt hmap hzq hln hkl hkl2 hk hz64 hg1 hg2 hgx hhas hin hsome
                go_wp2_with fail
                go_roundw
                case rel => exact ⟨k + 1, L', D', f', Hkl.out, by go_num, HI2, HW, Hat⟩
                case measure => have := Hkl.out; simp [intOf]; omega
              · have hnone : (fV f' z).isSome = false := by
                  rw [Bool.eq_false_iff]
                  intro h1
                  unfold fV at h1; rw [Option.isSome_map] at h1
                  exact hin (hhas.1 h1).1
                rw [hnone] at hlk
                obtain ⟨d, hd⟩ := HI.out.depth Hat.out
                have HI2 := Lib.hid (HI.out.push z (p : Int) d Hat.out hd hzq hin hzm hzr)
                rw [← Htk.out] at HI2
                obtain ⟨w3, a3, d3, w4, hup, happ, hW4⟩ := HW.out.push (by omega) z (p : Int) hz64
                have HW4 := Lib.hid hW4
                have Hat2 := Lib.hid (app_old (a := z) Hat.out)
                obtain ⟨ln, hln⟩ : ∃ ln, ln = L'.length := ⟨_, rfl⟩
                rw [← hln] at hi4 HW4 happ ⊢
                clear hrow hclx hzm hzr hle hiL hcl hcnt hmap hzq hln hkl hkl2 hk hz64 hg1 hg2 hgx hhas hin hnone hW4 hd
                go_wp2_with fail
                go_roundw
                case rel => exact ⟨k + 1, _, _, _, Hkl.out, by go_num, HI2, HW4, Hat2⟩
                case measure => have := Hkl.out; simp [intOf]; omega
          · have hI2 := HI.out
            rw [List.take_of_length_le (by have := Hxn.out; omega)] at hI2
            have HI2 := Lib.hid (Hnx.out _ _ _ Hat.out hI2)
            have hk0 : decide (k < xn) = false := decide_eq_false hkl
            have hi3' : (i : Int) ≤ 1000 := hi3
            clear hI2 hkl hk
            obtain ⟨ln, hln⟩ : ∃ ln, ln = L'.length := ⟨_, rfl⟩
            rw [← hln] at HW ⊢
            clear hln
            go_wp2_with fail
            go_roundw
            case rel => exact ⟨i + 1, _, _, _, by go_num, HI2, HW⟩
            case measure => have := Hlt.out; simp [intOf]; omega
      · have hnv := HI.out.never (by omega)
        have HE : Hid (WayP w b (q : Int) (.returned (.slice none 0 0)) wr) := Lib.hid ⟨.inr ⟨H0.out, ⟨by omega, by have := Hqo.out; have := Hol.out; omega⟩, st, HF.out, .inl ⟨hnv, rfl⟩⟩, HB2.out.trans (HW.out.bel.mono HB2.out.size)⟩
        have hq0 : decide (i < L.length) = false := decide_eq_false hlt
        obtain ⟨ln, hln⟩ : ∃ ln, ln = L.length := ⟨_, rfl⟩
        rw [← hln] at hq0 ⊢
        clear hlt hle hci hln hnv
        go_wp2_with fail
        go_ret
        exact HE.out
end Go.Proofs.Ytfmcigodfihlcaa
