/-
  reach.Left.
-/
import Derived.Test.YtfmcigodfihlcaaReaH
namespace Go.Proofs.Ytfmcigodfihlcaa
open Go.RowKit PK
set_option linter.unusedVariables false
set_option linter.unusedSimpArgs false
attribute [local go_sem ↓] append_appM

/-- The numbers below N of which p holds. -/
def pick (p : Nat → Bool) (N : Nat) : List Int := ((List.range N).filter p).map fun j => ((j : Nat) : Int)
theorem pick_succ (p : Nat → Bool) (k : Nat) : pick p (k + 1) = pick p k ++ (if p k = true then [(k : Int)] else []) := by
  unfold pick; rw [List.range_succ, List.filter_append, List.map_append]; by_cases h : p k <;> simp [h]
theorem pick_len (p : Nat → Bool) (k : Nat) : (pick p k).length ≤ k := by
  unfold pick; rw [List.length_map]; exact Nat.le_trans (List.length_filter_le _ _) (by simp)
theorem pick_mem (p : Nat → Bool) (N : Nat) (x : Int) : x ∈ pick p N ↔ ∃ j : Nat, j < N ∧ p j = true ∧ x = (j : Int) := by
  unfold pick
  simp only [List.mem_map, List.mem_filter, List.mem_range]
  constructor
  · rintro ⟨j, ⟨h1, h2⟩, rfl⟩; exact ⟨j, h1, h2, rfl⟩
  · rintro ⟨j, h1, h2, rfl⟩; exact ⟨j, ⟨h1, h2⟩, rfl⟩
theorem pick_congr (p q : Nat → Bool) (N : Nat) (h : ∀ j < N, p j = q j) : pick p N = pick q N := by
  induction N with
  | zero => rfl
  | succ n ih => rw [pick_succ, pick_succ, ih fun j hj => h j (by omega), h n (by omega)]
theorem prop_bool (P : Nat → Prop) : ∃ p : Nat → Bool, ∀ j, p j = true ↔ P j := ⟨fun j => @decide (P j) (Classical.propDecidable _), fun j => by simp⟩
/-- What reach.Left answers. -/
def LeftP (w : World) (b : Bn) (e : Ending) (w' : World) : Prop :=
  ((bmay b ≠ 0 ∧ e = .returned (.tuple #[.slice none 0 0, .int .i64 (bmay b)])) ∨ (bmay b = 0 ∧ ∃ v p st, e = .returned (.tuple #[v, .int .i64 0]) ∧ Fix b false st ∧ (∀ j : Nat, p j = true ↔ Rc (FN b st) (FN b st (j : Int)) (j : Int)) ∧ w'.ownsRow w.heap.size 3 1 v (pick p b.of.length).length (ints (pick p b.of.length)))) ∧ Below w.heap.size w w'
set_option maxHeartbeats 4000000 in
set_option maxRecDepth 100000 in
theorem left_any (b : Bn) (tk lk : Int) (ov lv : Value) (B : Nat) (w : World) (etk : b.toks = tk) (elk : b.look = lk) (hB : B ≤ w.heap.size) (r : BR w B ov lv b) :
    Calls Try.prog 29 #[.agg #[.int .i64 tk, .int .i64 lk, ov, lv]] w (LeftP w b) := by
  obtain ⟨oa, oc, rfl, ho1, ho2⟩ := r.of.val
  obtain ⟨la, lc, rfl, hl1, hl2⟩ := r.l.val
  subst etk elk
  have hbox := BoxB.new b.toks b.look 25 hB r
  have hb1 := agg_box w b.toks b.look (.slice oa b.of.length oc) (.slice la b.l.length lc) 25
  have hno := begun_any b b.toks b.look (.slice oa b.of.length oc) (.slice la b.l.length lc) B _ rfl rfl hbox.le hbox.r
  obtain ⟨ol, hol⟩ : ∃ ol, ol = b.of.length := ⟨_, rfl⟩
  obtain ⟨ll, hll⟩ : ∃ ll, ll = b.l.length := ⟨_, rfl⟩
  obtain ⟨tk, htk⟩ : ∃ tk, tk = b.toks := ⟨_, rfl⟩
  obtain ⟨lk, hlk⟩ : ∃ lk, lk = b.look := ⟨_, rfl⟩
  unfold maxLen at ho2
  have ho63 : (ol : Int) ≤ 9223372036854775807 := by omega
  rw [← hol, ← hll, ← htk, ← hlk] at hbox hb1 hno
  rw [← hol, ← hll, ← htk, ← hlk]
  have Hbox := Lib.hid hbox; have Hb1 := Lib.hid hb1; have Hno := Lib.hid hno; have Hol := Lib.hid hol
  clear r hbox hb1 hno hol hll htk hlk ho1 ho2 hl1 hl2 hB
  go_enter Try.func29, Try.ntmps29
  go_upto_region 1 with fail
  generalize w.alloc (.cells #[.int .i64 tk, .int .i64 lk, .slice oa ol oc, .slice la ll lc] 25) = w1 at *
  obtain ⟨c0, c1, c2, c3⟩ := Hbox.out.four
  go_wp2_with fail
  refine (Hno.out).mono ?_
  rintro e w2 ⟨h2, hb2⟩
  have Hbx2 := Lib.hid (Hbox.out.keep hb2)
  have HB2 := Lib.hid (Hb1.out.trans (hb2.mono Hb1.out.size))
  clear hb2 c0 c1 c2 c3 Hno
  rcases h2 with ⟨hne, rfl⟩ | ⟨h0, n2, g, vo, X, st, rfl, hF, hO, hX, hFx⟩
  · have Hne := Lib.hid hne
    have hq : ((bmay b : Int) != 0) = true := by rw [bne_iff_ne]; exact hne
    have hq2 : ((bmay b : Int) == 0) = false := by rw [beq_eq_false_iff_ne]; exact hne
    clear hne
    generalize hm : bmay b = mm at *
    have HE : Hid (LeftP w b (.returned (.tuple #[.slice none 0 0, .int .i64 mm])) w2) := Lib.hid ⟨.inl ⟨by rw [hm]; exact Hne.out, by rw [hm]⟩, HB2.out⟩
    go_wp2_with fail
    go_ret2
    exact HE.out
  · obtain ⟨z1, z2, _, _, _, z6, _⟩ := bmay_zero h0
    obtain ⟨p, hp⟩ := prop_bool fun j => Rc (FN b st) (FN b st (j : Int)) (j : Int)
    have HO := Lib.hid hO; have HX := Lib.hid hX; have HFx := Lib.hid hFx; have HF := Lib.hid hF; have H0 := Lib.hid h0; have HP := Lib.hid hp
    have Hz := Lib.hid (And.intro z1 (And.intro z2 z6))
    have Hbx : Hid (∀ W, Below w2.heap.size w2 W → W.cell? ⟨w.heap.size, 2, none⟩ = some (.slice oa ol oc)) := Lib.hid fun W hW => (Hbx2.out.keep hW).c2
    have c2 := Hbx.out w2 (Below.refl _ _)
    clear hO hX hFx hF h0 z1 z2 z6 hp
    go_wp2_with fail
    go_loopw [6, 19] (fun lv iv wr => ∃ (k : Nat), k ≤ ol ∧ iv = .int .i64 (k : Nat) ∧ Hid (wr.ownsRow w2.heap.size 3 1 lv (pick p k).length (ints (pick p k))) ∧ Hid (Below w2.heap.size w2 wr)) (fun _ iv _ => ol - (intOf iv).toNat)
    case atStart => exact ⟨0, Nat.zero_le _, rfl, Lib.hid (World.ownsRow_nil _ _ _ _), Lib.hid (Below.refl _ _)⟩
    case round =>
      clear c2
      obtain ⟨q, hk, rfl, HL, HB⟩ := hrel
      have hplen := pick_len p q
      have hol2 : ol ≤ 1000 := by have := Hz.out.2.1; have := Hol.out; omega
      by_cases hlt : q < ol
      · have hqX : q < X.length := by have := HX.out; have := Hol.out; omega
        obtain ⟨x, hx⟩ : ∃ x, X[q]? = some x := ⟨_, List.getElem?_eq_getElem hqX⟩
        have hxe := HFx.out q x hx
        have hown := HO.out.each _ (List.mem_of_getElem? hx)
        have Hnext := Lib.hid (fun W (hW : Below w2.heap.size w2 W) => next_any W n2 g X.length vo X (HO.out.below hW) rfl (by have := HX.out; have := Hz.out.2.1; omega) q x hx)
        have Hcome := Lib.hid (fun W (hW : Below w2.heap.size w2 W) => come_any W n2 g ol vo x.1 X (FN b st) (FN b st (q : Int)) (HO.out.below hW) (by rw [HX.out]; exact Hol.out.symm) (by have := Hz.out.1; have := Hz.out.2.1; have := Hol.out; omega) HFx.out (fun x y hy => by have := FN_range Hz.out.2.2 hy; have := Hol.out; omega) (by rw [← hxe]; exact ((Row.of_owns hown).below hW).mono hW.size) (fun y hy => by have := FN_range Hz.out.2.2 hy; have := Hol.out; omega))
        obtain ⟨xa, xc, hxv, _, _⟩ := owns_valP hown
        rw [hxv] at Hnext Hcome
        clear hqX hx hxe hown hxv
        generalize x.2.length = xn at *
        obtain ⟨va, vc, rfl, _, _⟩ := owns_valP HL.out
        have hq1 : (q : Int) < (ol : Int) := by omega
        have hq2 : (0 : Int) ≤ (q : Int) := by omega
        have hd0 : Below w2.heap.size w2 wr.drew := HB.out.trans ((Below.refl wr.heap.size wr).drew.mono HB.out.size)
        have hL0 : wr.drew.ownsRow w2.heap.size 3 1 (.slice va (pick p q).length vc) (pick p q).length (ints (pick p q)) := owns_drewN HL.out
        have Hd0 := Lib.hid hd0; have HL0 := Lib.hid hL0
        have hc22 := Hbx.out wr HB.out
        have Hlt := Lib.hid hlt
        clear hd0 hL0 hlt
        obtain ⟨ln, hln⟩ : ∃ ln, ln = (pick p q).length := ⟨_, rfl⟩
        have Hln := Lib.hid hln
        rw [← hln] at HL HL0 ⊢
        clear hln hplen
        go_upto_region 8 with fail
        refine wp_region_ord 10 [(0, true), (1, true), (2, true), (3, true), (4, true), (6, true), (8, true), (5, false), (7, false), (9, true), (10, false)] (fun w' => w'.cell? ⟨w.heap.size, 2, none⟩ = some (.slice oa ol oc)) (by kernel_rfl) (by kernel_rfl) (Hbx.out _ Hd0.out) ?_
        simp only [ordL, List.getElem?_toArray, List.getElem?_cons_succ, List.getElem?_cons_zero]
        iterate 7 (
          refine ordW_read (v := ?_) (by rfl) ?_ (fun _ _ _ h => h) ?_
          rotate_left
          focus (intro w' hS; go_simp; (try with_reducible rfl); done)
          try simp only [Act.put, List.setIfInBounds_toArray, List.set_cons_zero, List.set_cons_succ])
        refine ordW_do (by rfl) (fun K' HK => ?_)
        go_simp
        refine (Hnext.out _ Hd0.out).mono ?_
        rintro e w3 ⟨rfl, rfl⟩
        refine HK.out _ _ (fun _ => Hbx.out _ Hd0.out) ?_
        clear HK K'
        try simp only [Act.put, List.setIfInBounds_toArray, List.set_cons_zero, List.set_cons_succ]
        refine ordW_do (by rfl) (fun K' HK => ?_)
        go_simp
        refine (Hcome.out _ Hd0.out).mono ?_
        rintro e w4 ⟨a4, c4, st4, rfl, hR4, hl4, hm4, hb4⟩
        have hb24 : Below w2.heap.size w2 w4 := Hd0.out.trans (hb4.mono Hd0.out.size)
        obtain ⟨b5, o5, rfl, _, _⟩ := hR4.at (by rw [bools_length]; have := Hlt.out; omega)
        have hpl : q < st4.length := by rw [hl4]; exact Hlt.out
        have c9 := hR4.cell q _ (bools_at st4 q hpl)
        have hm5 := hm4 q Hlt.out
        rw [List.getElem?_eq_getElem hpl] at hm5
        refine HK.out _ _ (fun _ => Hbx.out _ hb24) ?_
        clear HK K'
        generalize st4[q] = y at *
        have hpy : p q = y := by
          have h1 := HP.out q
          rw [← h1] at hm5
          rw [Bool.eq_iff_iff]
          constructor
          · intro h; exact Option.some.inj (hm5.2 h)
          · intro h; exact hm5.1 (by rw [h])
        have hL4 : w4.ownsRow w2.heap.size 3 1 (.slice va ln vc) ln (ints (pick p q)) := owns_belowP HL0.out hb4
        have HL4 := Lib.hid hL4
        have Hb24 := Lib.hid hb24
        have HS := Lib.hid (Hbx.out _ hb24)
        have Hps := Lib.hid (pick_succ p q)
        clear hm5 hm4 hR4 hl4 hb4 hpl hL4 hb24
        try simp only [Act.put, List.setIfInBounds_toArray, List.set_cons_zero, List.set_cons_succ]
        iterate 1 (
          refine ordW_read (v := ?_) (by rfl) ?_ (fun _ _ _ h => h) ?_
          rotate_left
          focus (intro w' hS; go_simp; (try with_reducible rfl); done)
          try simp only [Act.put, List.setIfInBounds_toArray, List.set_cons_zero, List.set_cons_succ])
        refine ordW_do (by rfl) (fun K' HK => ?_)
        go_simp
        refine HK.out _ _ (fun h => absurd rfl h) (ordW_nil ?_)
        clear HK K' c9
        cases y with
        | false =>
          rw [hpy, if_neg (by decide), List.append_nil] at Hps
          clear hpy
          go_wp2_with fail
          go_roundw
          case rel => exact ⟨q + 1, by have := Hlt.out; omega, by go_num, Lib.hid (by rw [Hps.out, ← Hln.out]; exact HL4.out), Hb24⟩
          case measure => have := Hlt.out; simp [intOf]; omega
        | true =>
          rw [hpy, if_pos rfl] at Hps
          obtain ⟨a5, d5, w5, happ, hown5, hb5⟩ := own_push (L := pick p q) Hb24.out.size (by rw [← Hln.out]; exact HL4.out) (q : Int) (by have := pick_len p q; have := Hlt.out; omega)
          rw [← Hps.out] at hown5
          rw [← Hln.out] at happ hown5
          have Hown5 := Lib.hid hown5
          have Hb5 := Lib.hid (Hb24.out.trans hb5)
          have Hl5 : Hid (ln + 1 = (pick p (q + 1)).length) := Lib.hid (by rw [Hps.out, List.length_append, Hln.out]; rfl)
          clear hown5 hb5 hpy
          go_wp2_with fail
          go_roundw
          case rel => exact ⟨q + 1, by have := Hlt.out; omega, by go_num, Hown5, Hb5⟩
          case measure => have := Hlt.out; simp [intOf]; omega
      · have hq0 : decide (q < ol) = false := decide_eq_false hlt
        obtain ⟨va, vc, rfl, _, _⟩ := owns_valP HL.out
        have hqo : Hid (q = b.of.length) := Lib.hid (by have := Hol.out; omega)
        have HE : Hid (LeftP w b (.returned (.tuple #[.slice va (pick p q).length vc, .int .i64 0])) wr) := Lib.hid ⟨.inr ⟨H0.out, _, p, st, rfl, HF.out, HP.out, by rw [← hqo.out]; exact owns_baseP HL.out HB2.out.size⟩, HB2.out.trans (HB.out.mono HB2.out.size)⟩
        generalize (pick p q).length = ln at *
        clear hlt hplen
        go_wp2_with fail
        go_ret2
        exact HE.out
end Go.Proofs.Ytfmcigodfihlcaa
