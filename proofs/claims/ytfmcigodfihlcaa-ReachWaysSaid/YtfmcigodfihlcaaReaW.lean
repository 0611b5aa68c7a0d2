/-
  The document's Far.
-/
import Derived.Test.YtfmcigodfihlcaaReaV
namespace Go.Proofs.Ytfmcigodfihlcaa
open Go.RowKit PK
set_option linter.unusedVariables false
set_option linter.unusedSimpArgs false
attribute [local go_sem ↓] append_appM

def FarP (w : World) (F : Int → List Int) (n m : Int) (e : Ending) (w' : World) : Prop := ∃ s : Nat, e = .returned (.int .i64 (s : Nat)) ∧ FarS F n m s ∧ Below w.heap.size w w'
set_option maxHeartbeats 8000000 in
set_option maxRecDepth 100000 in
theorem refFar_any (n m : Int) (st : List Bool) (b : Bn) (ov lv : Value) (B : Nat) (w : World) (hB : B ≤ w.heap.size) (r : BR w B ov lv b) (h0 : bmay b = 0) (hst : Fix b false st) :
    Calls Try.prog 35 #[.agg #[.int .i64 b.toks, .int .i64 b.look, ov, lv], .int .i64 n, .int .i64 m] w (FarP w (FN b st) n m) := by
  obtain ⟨oa, oc, rfl, ho1, ho2⟩ := r.of.val
  obtain ⟨la, lc, rfl, hl1, hl2⟩ := r.l.val
  obtain ⟨z1, z2, z3, z4, z5, z6, _⟩ := bmay_zero h0
  have hbox := BoxB.new b.toks b.look 25 hB r
  have hb1 := (Below.refl w.heap.size w).alloc (Nat.le_refl _) (.cells #[.int .i64 b.toks, .int .i64 b.look, .slice oa b.of.length oc, .slice la b.l.length lc] 25)
  have hnx : ∀ (y : Int) W BW, BW ≤ W.heap.size → BR W BW (.slice oa b.of.length oc) (.slice la b.l.length lc) b → Calls Try.prog 55 #[.agg #[.int .i64 b.toks, .int .i64 b.look, .slice oa b.of.length oc, .slice la b.l.length lc], .int .i64 y, .bool false] W (OwnI W (FN b st y)) := fun y W BW hBW hr => refNext_any false y st b (.slice oa b.of.length oc) (.slice la b.l.length lc) BW W hBW hr h0 hst
  have hrg : ∀ x y, y ∈ FN b st x → 0 ≤ y ∧ y < b.of.length := fun (x y : Int) h => nextI_range z6 h
  have hset : ∀ x, (FN b st x).Nodup := fun (x : Int) => set_nodup (toSetI_set (rowTo b (goneF false st) b.l.length x))
  obtain ⟨ol, hol⟩ : ∃ ol, ol = b.of.length := ⟨_, rfl⟩
  obtain ⟨ll, hll⟩ : ∃ ll, ll = b.l.length := ⟨_, rfl⟩
  obtain ⟨tk, htk⟩ : ∃ tk, tk = b.toks := ⟨_, rfl⟩
  obtain ⟨lk, hlk⟩ : ∃ lk, lk = b.look := ⟨_, rfl⟩
  rw [← hol, ← hll, ← htk, ← hlk] at hbox hb1 hnx
  rw [← hol] at hrg
  rw [← hol, ← hll, ← htk, ← hlk]
  have ho500 : ol ≤ 500 := by omega
  generalize FN b st = F at *
  have Hbox := Lib.hid hbox; have Hb1 := Lib.hid hb1; have Hnx := Lib.hid hnx; have Hrg := Lib.hid hrg; have Hset := Lib.hid hset
  have HF0 := Lib.hid (FI.start (hset n) (fun x hx => hrg n x hx))
  clear r hbox hb1 hol hll htk hlk ho1 ho2 hl1 hl2 hB z1 z2 z3 z4 z5 z6 h0 hst hnx hrg hset
  go_enter Try.func35, Try.ntmps35
  go_upto_region 1 with fail
  generalize w.alloc (.cells #[.int .i64 tk, .int .i64 lk, .slice oa ol oc, .slice la ll lc] 25) = w1 at *
  have Hc : Hid (∀ W, Below w1.heap.size w1 W → W.cell? ⟨w.heap.size, 0, none⟩ = some (.int .i64 tk) ∧ W.cell? ⟨w.heap.size, 1, none⟩ = some (.int .i64 lk) ∧ W.cell? ⟨w.heap.size, 2, none⟩ = some (.slice oa ol oc) ∧ W.cell? ⟨w.heap.size, 3, none⟩ = some (.slice la ll lc)) := Lib.hid fun W hW => (Hbox.out.keep hW).four
  obtain ⟨c0, c1, c2, c3⟩ := Hc.out _ (Below.refl _ _)
  have Hq := Lib.hid (Hnx.out n w1 B Hbox.out.le Hbox.out.r)
  go_wp2_with fail
  refine (Hq.out).mono ?_
  rintro e w2 ⟨v2, rfl, hown2, hb2⟩
  obtain ⟨a2, d2, rfl, _, _⟩ := owns_valP hown2
  have Ha0 : Hid (ApartV (.slice a2 (F n).length d2) (.slice (some ⟨w2.heap.size, 0, none⟩) 0 0)) := Lib.hid fun g hg he => by
    have := (hown2.lt g hg).2; have e : w2.heap.size = g := Option.some.inj he; omega
  have Hn0 := Lib.hid (hown2.alloc (.cells #[] 3))
  have Hs0 : Hid ((w2.alloc (.cells #[] 3)).ownsRow w1.heap.size 3 1 (.slice (some ⟨w2.heap.size, 0, none⟩) 0 0) ([] : List Int).length (ints [])) := Lib.hid (World.ownsRow_made (base := w1.heap.size) (e := 3) (size := 1) w2 #[] 0 hb2.size (Nat.zero_le _) rfl)
  have HB0 := Lib.hid (hb2.alloc hb2.size (.cells #[] 3))
  have Hm0 : Hid (m ∉ ([] : List Int)) := Lib.hid (by simp)
  clear hown2 hb2 Hq c0 c1 c2 c3
  go_wp2_with fail
  go_loopw [7, 8, 9] (fun nv sv tv wr => ∃ (now seen : List Int) (step : Nat), tv = .int .i64 (step : Nat) ∧ Hid (FI ol F n now seen step) ∧ Hid (m ∉ seen) ∧ Hid (wr.ownsRow w1.heap.size 3 1 nv now.length (ints now)) ∧ Hid (wr.ownsRow w1.heap.size 3 1 sv seen.length (ints seen)) ∧ Hid (ApartV nv sv) ∧ Hid (Below w1.heap.size w1 wr)) (fun _ sv _ _ => ol - lenV sv)
  case atStart => exact ⟨_, [], 1, rfl, HF0, Hm0, Hn0, Hs0, Ha0, HB0⟩
  case round =>
    clear HF0 Hm0 Hn0 Hs0 Ha0 HB0
    obtain ⟨now, seen, step, rfl, HF, Hm, Hn, Hs, Ha, HB⟩ := hrel
    have hle := nodup_le HF.out.nd HF.out.rg
    rw [List.length_append] at hle
    have hst := HF.out.sl
    obtain ⟨na, nc, rfl, _, _⟩ := owns_valP Hn.out
    obtain ⟨sa, sc, rfl, _, _⟩ := owns_valP Hs.out
    by_cases hnow : now = []
    · subst hnow
      have HE : Hid (FarP w F n m (.returned (.int .i64 0)) wr) := Lib.hid ⟨0, rfl, HF.out.none Hm.out, Hb1.out.trans (HB.out.mono Hb1.out.size)⟩
      have hq0 : decide ((0 : Int) < ((0 : Nat) : Int)) = false := by decide
      rw [List.length_nil]
      clear hle hst Hn
      obtain ⟨sl, hsl⟩ : ∃ sl, sl = seen.length := ⟨_, rfl⟩
      rw [← hsl]
      clear hsl
      go_wp2_with fail
      go_ret
      exact HE.out
    · have hpos := List.length_pos_iff.2 hnow
      have Hhas := Lib.hid (hasInt_any (.slice na now.length nc) now m wr.heap.size wr (Nat.le_refl _) (Row.of_owns Hn.out))
      have Hnow := Lib.hid hnow
      have Hle := Lib.hid hle
      have hst5 : (step : Int) ≤ 1000 := by omega
      obtain ⟨nl, hnl⟩ : ∃ nl, nl = now.length := ⟨_, rfl⟩
      obtain ⟨sl, hsl⟩ : ∃ sl, sl = seen.length := ⟨_, rfl⟩
      rw [← hnl] at Hhas Hn hpos Hle Ha
      rw [← hsl] at Hs Hle Ha
      rw [← hnl, ← hsl]
      have Hnl := Lib.hid hnl; have Hsl := Lib.hid hsl
      have hpos2 : (0 : Int) < (nl : Int) := by omega
      clear hle hst hnow hnl hsl
      go_wp2_with fail
      refine (Hhas.out).mono ?_
      rintro e w5 ⟨rfl, hb5⟩
      have HB5 := Lib.hid (HB.out.trans (hb5.mono HB.out.size))
      have hn5 := owns_belowP Hn.out hb5
      have hs5 := owns_belowP Hs.out hb5
      by_cases hin : m ∈ now
      · rw [decide_eq_true hin]
        have HE : Hid (FarP w F n m (.returned (.int .i64 (step : Nat))) w5) := Lib.hid ⟨step, rfl, HF.out.found hin, Hb1.out.trans (HB5.out.mono Hb1.out.size)⟩
        clear hin hn5 hs5 hb5
        go_wp2_with fail
        go_ret
        exact HE.out
      · rw [decide_eq_false hin]
        have Hm2 : Hid (m ∉ seen ++ now) := Lib.hid fun h => by
          rcases List.mem_append.1 h with h1 | h1
          · exact Hm.out h1
          · exact hin h1
        have HF2 := Lib.hid (HF.out.next Hnow.out Hrg.out)
        have hR0 := R3.made (now := now) (seen := seen) HB5.out.size (by rw [← Hnl.out]; exact hn5) (by rw [← Hsl.out]; exact hs5) Ha.out
        obtain ⟨a6, d6, w6, happ, hR6, hb6⟩ := R3.join (by have := HB5.out.size; simp; omega) hR0 (by have := Hle.out; have := Hnl.out; have := Hsl.out; omega)
        rw [← Hnl.out, ← Hsl.out] at happ hR6
        have HR6 := Lib.hid hR6
        have HB6 := Lib.hid ((HB5.out.alloc HB5.out.size (.cells #[] 3)).trans hb6)
        have Hmu : Hid (ol - (sl + nl) < ol - sl) := Lib.hid (by have := Hle.out; omega)
        have hl500 : nl ≤ 500 := by have := Hle.out; omega
        obtain ⟨S, hS⟩ : ∃ S, S = seen ++ now := ⟨_, rfl⟩
        rw [← hS] at Hm2 HF2 HR6
        have HSl : Hid (S.length = sl + nl) := Lib.hid (by rw [hS, List.length_append, Hnl.out, Hsl.out])
        obtain ⟨tl, htl⟩ : ∃ tl, tl = sl + nl := ⟨_, rfl⟩
        rw [← htl] at happ HR6 Hmu HSl
        clear hin hn5 hs5 hb5 hR0 hR6 hb6 Hhas HF Hm Hn Hs Ha HB hS htl
        go_wp2_with fail
        clear happ
        go_loopw [10, 11] (fun xv iv wx => ∃ (i : Nat), i ≤ nl ∧ iv = .int .i64 (i : Nat) ∧ Hid (R3 w1.heap.size wx (.slice na nl nc) (.slice a6 tl d6) xv now S (noteA S F (now.take i))) ∧ Hid (Below w1.heap.size w1 wx)) (fun _ iv _ => nl - (intOf iv).toNat)
        case atStart => exact ⟨0, Nat.zero_le _, rfl, HR6, HB6⟩
        case round =>
          clear HR6 HB6
          obtain ⟨i, hi, rfl, HR, HB⟩ := hrel
          obtain ⟨xa, xc, rfl, _, _⟩ := owns_valP HR.out.x
          by_cases hil : i < nl
          · have hil2 : i < now.length := by have := Hnl.out; omega
            have hn6 := HR.out.n
            rw [← Hnl.out] at hn6
            obtain ⟨gb, hv, hg1, hg2, hcl, _⟩ := owns_cellN hn6 (by omega)
            subst hv
            have c9 := hcl i _ (ints_at now i hil2)
            have Hna := Lib.hid (noteA_succ S F now i hil2)
            generalize now[i] = y at *
            have Hd0 : Hid (Below w1.heap.size w1 wr.drew) := Lib.hid (HB.out.trans ((Below.refl wr.heap.size wr).drew.mono HB.out.size))
            have HbxA := Hbox.out.keep Hd0.out
            have Hnext := Lib.hid (Hnx.out y wr.drew B HbxA.le HbxA.r)
            have HS4 := Lib.hid (And.intro (Hc.out _ Hd0.out) (show wr.drew.cell? ⟨gb, i, none⟩ = some (.int .i64 y) from c9))
            have hi1 : (i : Int) < (nl : Int) := by omega
            have hi2 : (0 : Int) ≤ (i : Int) := by omega
            have hi3 : (i : Int) ≤ 1000 := by omega
            have Hil := Lib.hid hil
            have Hg2 := Lib.hid hg2
            have HA0 : Hid (∀ x ∈ noteA S F (now.take i), 0 ≤ x ∧ x < (ol : Int)) := Lib.hid fun x hx => by
              obtain ⟨⟨y, _, h2⟩, _⟩ := (noteA_mem _ _ _ _).1 hx
              exact Hrg.out y x h2
            have HAn := Lib.hid (noteA_nodup S F (now.take i))
            have Hry := Lib.hid (Hrg.out y); have Hsy := Lib.hid (Hset.out y)
            obtain ⟨A, hA⟩ : ∃ A, A = noteA S F (now.take i) := ⟨_, rfl⟩
            rw [← hA] at HR Hna HA0 HAn ⊢
            obtain ⟨al, hal⟩ : ∃ al, al = A.length := ⟨_, rfl⟩
            rw [← hal] at HR ⊢
            have Hal := Lib.hid hal
            clear hil hil2 hn6 hcl hg1 hg2 c9 HbxA hA hal hi
            go_upto_region 12 with fail
            refine wp_region_ord 6 [(0, true), (1, true), (2, true), (3, true), (4, true), (5, false), (6, false)] (fun w' => (w'.cell? ⟨w.heap.size, 0, none⟩ = some (.int .i64 tk) ∧ w'.cell? ⟨w.heap.size, 1, none⟩ = some (.int .i64 lk) ∧ w'.cell? ⟨w.heap.size, 2, none⟩ = some (.slice oa ol oc) ∧ w'.cell? ⟨w.heap.size, 3, none⟩ = some (.slice la ll lc)) ∧ w'.cell? ⟨gb, i, none⟩ = some (.int .i64 y)) (by kernel_rfl) (by kernel_rfl) HS4.out ?_
            simp only [ordL, List.getElem?_toArray, List.getElem?_cons_succ, List.getElem?_cons_zero]
            iterate 5 (
              refine ordW_read (v := ?_) (by rfl) ?_ (fun _ _ _ h => h) ?_
              rotate_left
              focus (intro w' hS; obtain ⟨⟨s0, s1, s2, s3⟩, s4⟩ := hS; go_simp; (try with_reducible rfl); done)
              try simp only [Act.put, List.setIfInBounds_toArray, List.set_cons_zero, List.set_cons_succ])
            refine ordW_do (by rfl) (fun K' HK => ?_)
            go_simp
            refine (Hnext.out).mono ?_
            rintro e w7 ⟨v3, rfl, hown3, hb3⟩
            have hb37 : Below wr.heap.size wr w7 := (Below.refl wr.heap.size wr).drew.trans (hb3 : Below wr.heap.size wr.drew w7)
            have Hown3 := Lib.hid (show w7.ownsRow wr.heap.size 3 1 v3 (F y).length (ints (F y)) from hown3)
            have HB7 := Lib.hid (HB.out.trans (hb37.mono HB.out.size))
            have HR7 := Lib.hid (HR.out.keep hb37)
            have Hap : Hid (ApartV v3 (.slice xa al xc)) := Lib.hid fun g hg he => by
              have h1 := (hown3.lt g hg).1
              have h2 := (HR.out.x.lt g he).2
              have h3 : wr.drew.heap.size = wr.heap.size := rfl
              omega
            refine HK.out _ _ (fun _ => ⟨Hc.out _ HB7.out, (hb37.cell (p := ⟨gb, i, none⟩) Hg2.out).trans HS4.out.2⟩) ?_
            clear HK K' hb3 hb37 hown3 Hnext HS4 HR HB
            try simp only [Act.put, List.setIfInBounds_toArray, List.set_cons_zero, List.set_cons_succ]
            refine ordW_do (by rfl) (fun K' HK => ?_)
            go_simp
            refine HK.out _ _ (fun h => absurd rfl h) (ordW_nil ?_)
            clear HK K'
            generalize F y = l at *
            obtain ⟨a3, d3, rfl, _, _⟩ := owns_valP Hown3.out
            have hl5 := nodup_le Hsy.out (fun x hx => Hry.out x hx)
            obtain ⟨xn, hxn⟩ : ∃ xn, xn = l.length := ⟨_, rfl⟩
            rw [← hxn] at Hown3 Hap hl5 ⊢
            have Hxn := Lib.hid hxn
            clear hxn
            go_wp2_with fail
            go_loopw [10, 13] (fun xv kv wx => ∃ (k : Nat), k ≤ xn ∧ kv = .int .i64 (k : Nat) ∧ Hid (R3 w1.heap.size wx (.slice (some ⟨gb, 0, none⟩) nl nc) (.slice a6 tl d6) xv now S (noteS S A (l.take k))) ∧ Hid (wx.ownsRow wr.heap.size 3 1 (.slice a3 xn d3) xn (ints l)) ∧ Hid (ApartV (.slice a3 xn d3) xv) ∧ Hid (Below w1.heap.size w1 wx)) (fun _ kv _ => xn - (intOf kv).toNat)
            case atStart => exact ⟨0, Nat.zero_le _, rfl, HR7, Hown3, Hap, HB7⟩
            case round =>
              clear HR7 Hown3 Hap HB7
              obtain ⟨k, hk, rfl, HR, Hl, Hap, HBx⟩ := hrel
              by_cases hkl : k < xn
              · have hkl2 : k < l.length := by have := Hxn.out; omega
                obtain ⟨gx, hv, _, hgx, hclx, _⟩ := owns_cellN Hl.out (by omega)
                subst hv
                have c9 := hclx k _ (ints_at l k hkl2)
                have Hsu := Lib.hid (noteS_succ S A l k hkl2)
                have hnd := noteS_nodup S A (l.take k) HAn.out
                have hrg2 : ∀ x ∈ noteS S A (l.take k), 0 ≤ x ∧ x < ol := fun x hx => by
                  rcases (noteS_mem _ _ _ _).1 hx with h1 | ⟨h1, _⟩
                  · exact HA0.out x h1
                  · exact Hry.out x (List.mem_of_mem_take h1)
                have hle := nodup_le hnd hrg2
                generalize noteS S A (l.take k) = M at *
                generalize l[k] = z at *
                obtain ⟨ya, yc, rfl, _, _⟩ := owns_valP HR.out.x
                have hs8 := HR.out.s
                rw [HSl.out] at hs8
                have hhs := hasInt_any (.slice a6 S.length d6) S z wr.heap.size wr (Nat.le_refl _) (by rw [HSl.out]; exact Row.of_owns hs8)
                rw [HSl.out] at hhs
                have Hhs := Lib.hid hhs
                have hk1 : (k : Int) < (xn : Int) := by omega
                have hk2 : (0 : Int) ≤ (k : Int) := by omega
                have hk3 : (k : Int) ≤ 1000 := by omega
                have Hkl := Lib.hid hkl
                have Hle := Lib.hid hle
                obtain ⟨mn, hmn⟩ : ∃ mn, mn = M.length := ⟨_, rfl⟩
                rw [← hmn] at HR Hap ⊢
                have Hmn := Lib.hid hmn
                clear hclx hnd hrg2 hle hkl hkl2 hk hmn hs8 hhs
                go_wp2_with fail
                refine (Hhs.out).mono ?_
                rintro e w8 ⟨rfl, hb8⟩
                have c98 := (hb8.cell (p := ⟨gx, k, none⟩) hgx).trans c9
                have HR8 := Lib.hid (HR.out.keep hb8)
                have Hl8 := Lib.hid (owns_belowP Hl.out hb8)
                have HB8 := Lib.hid (HBx.out.trans (hb8.mono HBx.out.size))
                have hgx8 := Nat.lt_of_lt_of_le hgx hb8.size
                clear hb8 c9 Hhs HR Hl HBx
                by_cases hinS : z ∈ S
                · rw [decide_eq_true hinS]
                  have Hs2 := Lib.hid (Hsu.out.trans (if_pos (.inl hinS)))
                  clear hinS Hsu
                  go_wp2_with fail
                  go_roundw
                  case rel => exact ⟨k + 1, Hkl.out, by go_num, Lib.hid (by rw [Hs2.out]; exact HR8.out), Hl8, Hap, HB8⟩
                  case measure => have := Hkl.out; simp [intOf]; omega
                · rw [decide_eq_false hinS]
                  have hx8 := HR8.out.x
                  have hhs := hasInt_any (.slice ya M.length yc) M z w8.heap.size w8 (Nat.le_refl _) (by rw [← Hmn.out] at hx8 ⊢; exact Row.of_owns hx8)
                  rw [← Hmn.out] at hhs
                  have Hhs := Lib.hid hhs
                  have HinS := Lib.hid hinS
                  clear hx8 hhs hinS
                  go_wp2_with fail
                  refine (Hhs.out).mono ?_
                  rintro e w9 ⟨rfl, hb9⟩
                  have c99 := (hb9.cell (p := ⟨gx, k, none⟩) hgx8).trans c98
                  have HR9 := Lib.hid (HR8.out.keep hb9)
                  have Hl9 := Lib.hid (owns_belowP Hl8.out hb9)
                  have HB9 := Lib.hid (HB8.out.trans (hb9.mono HB8.out.size))
                  clear hb9 c98 Hhs HR8 Hl8 HB8 hgx8
                  by_cases hin : z ∈ M
                  · rw [decide_eq_true hin]
                    have Hs2 := Lib.hid (Hsu.out.trans (if_pos (.inr hin)))
                    clear hin Hsu
                    go_wp2_with fail
                    go_roundw
                    case rel => exact ⟨k + 1, Hkl.out, by go_num, Lib.hid (by rw [Hs2.out]; exact HR9.out), Hl9, Hap, HB9⟩
                    case measure => have := Hkl.out; simp [intOf]; omega
                  · rw [decide_eq_false hin]
                    have Hs2 := Lib.hid (Hsu.out.trans (if_neg (fun h => h.elim HinS.out hin)))
                    obtain ⟨a10, d10, w10, happ, hR10, hb10, hkp, hnew⟩ := R3.push HB9.out.size HR9.out z (by have := Hle.out; omega)
                    rw [← Hs2.out] at hR10
                    rw [← Hmn.out] at happ hR10 hnew
                    have HR10 := Lib.hid hR10
                    have Hl10 := Lib.hid (owns_blockN Hl9.out fun g hg => hkp g (Hl9.out.lt g hg).2 (Hap.out g hg))
                    have Hap10 : Hid (ApartV (.slice (some ⟨gx, 0, none⟩) xn d3) (.slice a10 (mn + 1) d10)) := Lib.hid fun g hg he => by
                      rcases hnew with h1 | ⟨q, h1, h2⟩
                      · rw [h1] at he; exact Hap.out g hg he
                      · rw [h1] at he
                        have h3 := (Hl9.out.lt g hg).2
                        have : q = g := Option.some.inj he
                        omega
                    have HB10 := Lib.hid (HB9.out.trans hb10)
                    clear hR10 hb10 hkp hnew hin Hsu
                    go_wp2_with fail
                    go_roundw
                    case rel => exact ⟨k + 1, Hkl.out, by go_num, HR10, Hl10, Hap10, HB10⟩
                    case measure => have := Hkl.out; simp [intOf]; omega
              · obtain rfl : k = xn := by omega
                have hR2 := HR.out
                rw [Hxn.out, List.take_length, ← Hna.out] at hR2
                have HR2 := Lib.hid hR2
                have hk0 : decide (k < k) = false := by simp
                clear HR hR2 hkl hk
                go_wp2_with fail
                go_roundw
                case rel => exact ⟨i + 1, Hil.out, by go_num, HR2, HBx⟩
                case measure => have := Hil.out; simp [intOf]; omega
          · obtain rfl : i = nl := by omega
            have hR2 := HR.out
            rw [Hnl.out, List.take_length] at hR2
            have HR2 := Lib.hid hR2
            have hi0 : decide (i < i) = false := by simp
            obtain ⟨al, hal⟩ : ∃ al, al = (noteA S F (now.take i)).length := ⟨_, rfl⟩
            rw [← hal] at HR ⊢
            have Hal : Hid (al = (noteA S F now).length) := Lib.hid (by rw [hal, Hnl.out, List.take_length])
            clear hil hi hR2 hal HR
            go_wp2_with fail
            go_roundw
            case rel => exact ⟨noteA S F now, S, step + 1, by go_num, HF2, Hm2, Lib.hid (by rw [Hal.out]; exact HR2.out.x), Lib.hid HR2.out.s, Lib.hid (by rw [Hal.out]; exact HR2.out.sx.symm), HB⟩
            case measure => have := Hmu.out; simpa [lenV] using this
end Go.Proofs.Ytfmcigodfihlcaa
