/-
  The document's Next.
-/
import Derived.Test.YtfmcigodfihlcaaReaI
namespace Go.Proofs.Ytfmcigodfihlcaa
open Go.RowKit PK
set_option linter.unusedVariables false
set_option linter.unusedSimpArgs false
attribute [local go_sem ↓] append_appM

theorem fix_exists (b : Bn) (tk : Bool) (hok : ∀ p ∈ b.l, prOk b p = true) : ∃ st, Fix b tk st := by
  obtain ⟨p, hp⟩ := prop_bool fun j => Der b.l tk (j : Int)
  have hat : ∀ x : Nat, ((List.range b.of.length).map p)[x]? = some true → Der b.l tk (x : Int) := fun x hx => by
    rw [List.getElem?_map] at hx
    rcases Nat.lt_or_ge x b.of.length with h | h
    · rw [List.getElem?_range h] at hx; exact (hp x).1 (Option.some.inj hx)
    · rw [List.getElem?_eq_none (by simpa using h)] at hx; cases hx
  refine ⟨(List.range b.of.length).map p, by simp, hat, fun q hq hr => ?_⟩
  obtain ⟨h1, h2⟩ := prOk_left (hok q hq)
  have hd : Der b.l tk q.left := by
    unfold rowB at hr
    rw [List.all_eq_true] at hr
    refine .mk q hq (fun s hs ht => ?_) (fun s hs ht => ?_)
    · have := hr s hs; unfold goodB at this; rw [ht] at this; simpa using this
    · have := hr s hs
      unfold goodB at this
      rw [ht] at this
      obtain ⟨h3, h4⟩ := prOk_sym (hok q hq) hs ht
      have e : (((List.range b.of.length).map p)[s.n.toNat]?).getD false = true := by simpa using this
      have e2 : ((List.range b.of.length).map p)[s.n.toNat]? = some true := by
        revert e; cases ((List.range b.of.length).map p)[s.n.toNat]? <;> simp
      have := hat _ e2
      rwa [Int.toNat_of_nonneg h3] at this
  rw [List.getElem?_map, List.getElem?_range (by omega)]
  refine congrArg some ((hp _).2 ?_)
  rw [Int.toNat_of_nonneg h1]; exact hd
theorem pick_set (p : Nat → Bool) (N : Nat) : IsSet (pick p N) := by
  induction N with
  | zero => exact List.Pairwise.nil
  | succ n ih =>
    rw [pick_succ]
    refine List.pairwise_append.2 ⟨ih, by split <;> simp, fun x hx y hy => ?_⟩
    obtain ⟨j, hj, _, rfl⟩ := (pick_mem _ _ _).1 hx
    split at hy
    · simp at hy; omega
    · cases hy
theorem pick_next (b : Bn) (hok : ∀ p ∈ b.l, prOk b p = true) (f : Sy → Bool) (n : Int) : pick (fun j => decide ((j : Int) ∈ rowTo b f b.l.length n)) b.of.length = nextI b f n := by
  refine int_ext (pick_set _ _) (toSetI_set _) fun x => ?_
  rw [pick_mem]
  unfold nextI
  rw [toSetI_mem]
  constructor
  · rintro ⟨j, h1, h2, rfl⟩; exact of_decide_eq_true h2
  · intro h
    obtain ⟨h1, h2⟩ := rowTo_range hok h
    exact ⟨x.toNat, by omega, decide_eq_true (by rw [Int.toNat_of_nonneg h1]; exact h), by omega⟩
theorem boolV {a b : Bool} (h : a = b) : Value.bool a = Value.bool b := by rw [h]
set_option maxHeartbeats 4000000 in
set_option maxRecDepth 100000 in
theorem refNext_any (all : Bool) (n : Int) (st : List Bool) (b : Bn) (ov lv : Value) (B : Nat) (w : World) (hB : B ≤ w.heap.size) (r : BR w B ov lv b) (h0 : bmay b = 0) (hst : Fix b false st) :
    Calls Try.prog 55 #[.agg #[.int .i64 b.toks, .int .i64 b.look, ov, lv], .int .i64 n, .bool all] w (OwnI w (nextI b (goneF all st) n)) := by
  obtain ⟨oa, oc, rfl, ho1, ho2⟩ := r.of.val
  obtain ⟨la, lc, rfl, hl1, hl2⟩ := r.l.val
  obtain ⟨z1, z2, z3, z4, z5, z6, _⟩ := bmay_zero h0
  have hbox := BoxB.new b.toks b.look 25 hB r
  have hb1 := (Below.refl w.heap.size w).alloc (Nat.le_refl _) (.cells #[.int .i64 b.toks, .int .i64 b.look, .slice oa b.of.length oc, .slice la b.l.length lc] 25)
  have hno := refNothing_any b (.slice oa b.of.length oc) (.slice la b.l.length lc) B _ hbox.le hbox.r h0
  obtain ⟨ol, hol⟩ : ∃ ol, ol = b.of.length := ⟨_, rfl⟩
  obtain ⟨ll, hll⟩ : ∃ ll, ll = b.l.length := ⟨_, rfl⟩
  obtain ⟨tk, htk⟩ : ∃ tk, tk = b.toks := ⟨_, rfl⟩
  obtain ⟨lk, hlk⟩ : ∃ lk, lk = b.look := ⟨_, rfl⟩
  rw [← hol, ← hll, ← htk, ← hlk] at hbox hb1 hno
  rw [← hol, ← hll, ← htk, ← hlk]
  have Hbox := Lib.hid hbox; have Hb1 := Lib.hid hb1; have Hol := Lib.hid hol; have Hll := Lib.hid hll; have Hno := Lib.hid hno; have Hst := Lib.hid hst
  have Hz := Lib.hid (And.intro z1 (And.intro z2 (And.intro z3 (And.intro z4 (And.intro z5 z6)))))
  have ho500 : ol ≤ 500 := by omega
  have hl2000 : ll ≤ 2000 := by omega
  have Hpn := Lib.hid (pick_next b z6 (goneF all st) n)
  have Hf : Hid (∀ s, goneF all st s = (all || goodB false st s)) := Lib.hid fun _ => rfl
  generalize goneF all st = f at *
  clear r hbox hb1 hol hll htk hlk ho1 ho2 hl1 hl2 hB z1 z2 z3 z4 z5 z6 h0 hno hst
  go_enter Try.func55, Try.ntmps55
  go_upto_region 1 with fail
  generalize w.alloc (.cells #[.int .i64 tk, .int .i64 lk, .slice oa ol oc, .slice la ll lc] 25) = w1 at *
  obtain ⟨c0, c1, c2, c3, _, _, _⟩ := Hbox.out
  go_wp2_with fail
  refine (Hno.out).mono ?_
  rintro e w2 ⟨v2, st2, rfl, hF2, hown2, hb2⟩
  obtain rfl := Fix.uniq Hz.out.2.2.2.2.2 hF2 Hst.out
  have hsl : st2.length = ol := by rw [hF2.len]; exact Hol.out.symm
  obtain ⟨na, nc, rfl, _, _⟩ := owns_valP hown2
  obtain ⟨gn, hgn, _, hglt, hcl, _⟩ := owns_cellN hown2 (by rw [hsl]; have := Hz.out.1; have := Hol.out; omega)
  subst hgn
  have Hcl := Lib.hid (fun W (hW : Below w2.heap.size w2 W) j hj => (hW.cell (p := ⟨gn, j, none⟩) hglt).trans (hcl j _ (bools_at st2 j hj)))
  have Hbx2 := Lib.hid (Hbox.out.keep hb2)
  have HB2 := Lib.hid (Hb1.out.trans (hb2.mono Hb1.out.size))
  have Hsl := Lib.hid hsl
  have Hc := Lib.hid (fun W (hW : Below w2.heap.size w2 W) => And.intro (Hbx2.out.keep hW).c2 (Hbx2.out.keep hW).c3)
  rw [hsl]
  have hown0 := World.ownsRow_made (base := w2.heap.size) (e := 3) (size := 1) w2 #[] 0 (Nat.le_refl _) (Nat.zero_le _) rfl
  have Hown0 := Lib.hid hown0
  clear hF2 hown2 hb2 hcl hglt hsl hown0 Hno Hbox Hb1 c0 c1 c2 c3
  go_wp2_with fail
  go_loopw [8, 9] (fun ov mv wr => ∃ m : Nat, m ≤ ol ∧ mv = .int .i64 (m : Nat) ∧ Hid (wr.ownsRow w2.heap.size 3 1 ov (pick (fun j => decide ((j : Int) ∈ rowTo b f b.l.length n)) m).length (ints (pick (fun j => decide ((j : Int) ∈ rowTo b f b.l.length n)) m))) ∧ Hid (Below w2.heap.size w2 wr)) (fun _ mv _ => ol - (intOf mv).toNat)
  case atStart => exact ⟨0, Nat.zero_le _, rfl, Hown0, Lib.hid ((Below.refl _ w2).alloc (Nat.le_refl _) _)⟩
  case round =>
    clear Hown0
    obtain ⟨m, hm, rfl, HO, HB⟩ := hrel
    obtain ⟨c2, c3⟩ := Hc.out _ HB.out
    obtain ⟨xa, xc, rfl, _, _⟩ := owns_valP HO.out
    have hplen := pick_len (fun j => decide ((j : Int) ∈ rowTo b f b.l.length n)) m
    obtain ⟨ln, hln⟩ : ∃ ln, ln = (pick (fun j => decide ((j : Int) ∈ rowTo b f b.l.length n)) m).length := ⟨_, rfl⟩
    rw [← hln] at HO
    by_cases hlt : m < ol
    · have hm1 : (m : Int) < (ol : Int) := by omega
      have Hlt := Lib.hid hlt
      have Hln := Lib.hid hln
      clear hln hplen hlt hm
      rw [← Hln.out]
      obtain ⟨wo, rfl⟩ : ∃ wo : World, wo = wr := ⟨_, rfl⟩
      go_wp2_with fail
      clear c2 c3
      go_loopw [10, 11] (fun sv iv wx => ∃ i : Nat, i ≤ ll ∧ sv = .bool (decide ((m : Int) ∈ rowTo b f i n)) ∧ iv = .int .i64 (i : Nat) ∧ Hid (Below wo.heap.size wo wx)) (fun _ iv _ => ll - (intOf iv).toNat)
      case atStart => exact ⟨0, Nat.zero_le _, by simp [rowTo], rfl, Lib.hid (Below.refl _ _)⟩
      case round =>
        obtain ⟨i, hi, rfl, rfl, HBx⟩ := hrel
        have Hbx := Lib.hid (HB.out.trans (HBx.out.mono HB.out.size))
        obtain ⟨c2, c3⟩ := Hc.out _ Hbx.out
        by_cases hil : i < ll
        · have hlt' : i < b.l.length := by have := Hll.out; omega
          obtain ⟨b1, o1, a1, d1, hao, hbb, e0, e1, rk, m1, m2⟩ := Hbx2.out.r.l.get i hlt'
          subst hao
          have hpo := Hz.out.2.2.2.2.2 _ (List.getElem_mem hlt')
          have hps := fun s hs ht => prOk_sym (s := s) hpo hs ht
          have hr5 := Hz.out.2.2.2.2.1 _ (List.getElem_mem hlt')
          have hrs := rowTo_succ b f i n hlt'
          have hb2 : b1 < w2.heap.size := Nat.lt_of_lt_of_le hbb Hbx2.out.le
          have Hg := Lib.hid (fun W (hW : Below w2.heap.size w2 W) => And.intro ((hW.cell (p := ⟨b1, o1 + i * 2, none⟩) hb2).trans e0) (And.intro ((hW.cell (p := ⟨b1, o1 + i * 2 + 1, none⟩) hb2).trans e1) (show SR W B (.slice a1 b.l[i].right.length d1) b.l[i].right from Row.below rk (hW.mono Hbx2.out.le))))
          clear e0 e1 rk m1 m2 hpo
          generalize b.l[i] = p at *
          obtain ⟨x, rt⟩ := p
          simp only at hps hr5 hrs Hg
          have Hrs := Lib.hid hrs; have Hps := Lib.hid hps
          obtain ⟨e0, e1, _⟩ := Hg.out _ Hbx.out
          have hi1 : (i : Int) < (ll : Int) := by omega
          have hi2 : (0 : Int) ≤ (i : Int) := by omega
          have Hil := Lib.hid hil
          obtain ⟨rn, hrn⟩ : ∃ rn, rn = rt.length := ⟨_, rfl⟩
          rw [← hrn] at Hg e1 hr5
          have Hrn := Lib.hid hrn
          clear hrs hps hil hlt' hi hrn hb2 hbb
          by_cases hxn : x = n
          · have hne : (x != n) = false := by simp [hxn]
            have Hre := Lib.hid (show rowTo b f (i + 1) n = rowTo b f i n ++ collect f rt by rw [Hrs.out, if_pos hxn])
            clear Hrs hxn
            obtain ⟨wi, rfl⟩ : ∃ wi : World, wi = wr := ⟨_, rfl⟩
            go_wp2_with fail
            clear c2 c3 e0 e1
            go_loopw [10, 12] (fun sv kv wy => ∃ k : Nat, k ≤ rn ∧ sv = .bool (decide ((m : Int) ∈ rowTo b f i n ++ nts (rt.take k))) ∧ kv = .int .i64 (k : Nat) ∧ Hid ((rt.take k).all f = true) ∧ Hid (Below wi.heap.size wi wy)) (fun _ kv _ => rn - (intOf kv).toNat)
            case atStart => exact ⟨0, Nat.zero_le _, by simp [nts], rfl, Lib.hid rfl, Lib.hid (Below.refl _ _)⟩
            case round =>
              obtain ⟨k, hk, rfl, rfl, Hal, HBy⟩ := hrel
              have Hbo := Lib.hid (HBx.out.trans (HBy.out.mono HBx.out.size))
              have Hby := Lib.hid (Hbx.out.trans (HBy.out.mono Hbx.out.size))
              obtain ⟨c2, c3⟩ := Hc.out _ Hby.out
              obtain ⟨e0, e1, rk⟩ := Hg.out _ Hby.out
              have Rk := Lib.hid rk
              clear rk
              by_cases hkr : k < rn
              · have hkl : k < rt.length := by have := Hrn.out; omega
                obtain ⟨b6, o6, hao, hb6, f0, f1⟩ := SR.get Rk.out k hkl
                subst hao
                have hsn := Hps.out rt[k] (List.getElem_mem hkl)
                have Hnt := Lib.hid (nts_succ rt k hkl)
                have Hstop := Lib.hid (collect_stop f rt k hkl Hal.out)
                have Hyes := Lib.hid (all_step rt f k hkl Hal.out)
                have hk1 : (k : Int) < (rn : Int) := by omega
                have hk2 : (0 : Int) ≤ (k : Int) := by omega
                have Hkr := Lib.hid hkr
                generalize rt[k] = s at *
                obtain ⟨t, y⟩ := s
                simp only at f0 f1 hsn
                have hbs := (Below.refl wr.heap.size wr).alloc (Nat.le_refl _) (.cells #[.bool t, .int .i64 y] 54)
                have hs0 : (wr.alloc (.cells #[.bool t, .int .i64 y] 54)).cell? ⟨wr.heap.size, 0, none⟩ = some (.bool t) := cell_new wr _ _ 0 _ rfl
                have hs1 : (wr.alloc (.cells #[.bool t, .int .i64 y] 54)).cell? ⟨wr.heap.size, 1, none⟩ = some (.int .i64 y) := cell_new wr _ _ 1 _ rfl
                have HBs := Lib.hid (HBy.out.trans (hbs.mono HBy.out.size))
                have HBo := Lib.hid (Hbo.out.trans (hbs.mono Hbo.out.size))
                have HB2s := Lib.hid (Hby.out.trans (hbs.mono Hby.out.size))
                clear hk hkl hkr hb6 hbs Hal
                cases t with
                | true =>
                  clear hsn
                  have Hft : Hid (f ⟨true, y⟩ = all) := Lib.hid (by rw [Hf.out]; unfold goodB; simp)
                  simp only [if_true, List.append_nil] at Hnt
                  go_upto_region 14 with fail
                  generalize wr.alloc (.cells #[.bool true, .int .i64 y] 54) = ws at *
                  clear f0 f1
                  cases all with
                  | true =>
                    have HY := Lib.hid (Hyes.out Hft.out)
                    go_wp2_with fail
                    go_roundw
                    case rel => exact ⟨k + 1, Hkr.out, by rw [Hnt.out], by go_num, HY, HBs⟩
                    case measure => have := Hkr.out; simp [intOf]; omega
                  | false =>
                    have HY := Lib.hid (Hstop.out Hft.out)
                    go_wp2_with fail
                    go_roundw
                    case rel => exact ⟨i + 1, Hil.out, boolV (by rw [Hre.out, HY.out, Hnt.out]), by go_num, HBo⟩
                    case measure => have := Hil.out; simp [intOf]; omega
                | false =>
                  obtain ⟨h0, h1⟩ := hsn rfl
                  obtain ⟨q, rfl⟩ : ∃ q : Nat, y = (q : Int) := ⟨y.toNat, by omega⟩
                  have hq : q < ol := by have := Hol.out; omega
                  have hqs : q < st2.length := by have := Hsl.out; omega
                  have c9 := Hcl.out _ HB2s.out q hqs
                  have Hft : Hid (f ⟨false, (q : Int)⟩ = (all || st2[q])) := Lib.hid (by rw [Hf.out]; unfold goodB; simp [List.getElem?_eq_getElem hqs])
                  have hq1 : (q : Int) < (ol : Int) := by omega
                  have hq2 : (0 : Int) ≤ (q : Int) := by omega
                  simp only [Bool.false_eq_true, if_false] at Hnt
                  generalize st2[q] = v at *
                  clear h0 h1 hq hqs
                  go_upto_region 14 with fail
                  generalize wr.alloc (.cells #[.bool false, .int .i64 (q : Int)] 54) = ws at *
                  clear f0 f1
                  have Hsv : Hid (decide ((m : Int) ∈ rowTo b f i n ++ nts (rt.take (k + 1))) = (decide ((m : Int) ∈ rowTo b f i n ++ nts (rt.take k)) || decide ((q : Int) = (m : Int)))) := Lib.hid (by
                    rw [Hnt.out, ← List.append_assoc, ← Bool.decide_or]
                    refine decide_eq_decide.2 ?_
                    rw [List.mem_append, List.mem_singleton]
                    exact or_congr Iff.rfl eq_comm)
                  by_cases hqm : q = m
                  · subst hqm
                    have Hs2 : Hid (decide ((q : Int) ∈ rowTo b f i n ++ nts (rt.take (k + 1))) = true) := Lib.hid (by rw [Hsv.out]; simp)
                    have hqq : ((q : Int) == (q : Int)) = true := by simp
                    clear Hsv
                    cases all with
                    | true =>
                      have HY := Lib.hid (Hyes.out (by rw [Hft.out]; rfl))
                      go_wp2_with fail
                      go_roundw
                      case rel => exact ⟨k + 1, Hkr.out, by rw [Hs2.out], by go_num, HY, HBs⟩
                      case measure => have := Hkr.out; simp [intOf]; omega
                    | false =>
                      cases v with
                      | true =>
                        have HY := Lib.hid (Hyes.out (by rw [Hft.out]; rfl))
                        go_wp2_with fail
                        go_roundw
                        case rel => exact ⟨k + 1, Hkr.out, by rw [Hs2.out], by go_num, HY, HBs⟩
                        case measure => have := Hkr.out; simp [intOf]; omega
                      | false =>
                        have HY := Lib.hid (Hstop.out (by rw [Hft.out]; rfl))
                        go_wp2_with fail
                        go_roundw
                        case rel => exact ⟨i + 1, Hil.out, boolV (by rw [Hre.out, HY.out, Hs2.out]), by go_num, HBo⟩
                        case measure => have := Hil.out; simp [intOf]; omega
                  · have Hs2 : Hid (decide ((m : Int) ∈ rowTo b f i n ++ nts (rt.take (k + 1))) = decide ((m : Int) ∈ rowTo b f i n ++ nts (rt.take k))) := Lib.hid (Hsv.out.trans (by rw [show decide ((q : Int) = (m : Int)) = false from decide_eq_false (by omega), Bool.or_false]))
                    have hqq : ((q : Int) == (m : Int)) = false := by rw [beq_eq_false_iff_ne]; omega
                    have hqq2 : (q == m) = false := by rw [beq_eq_false_iff_ne]; omega
                    clear Hsv hqm
                    cases all with
                    | true =>
                      have HY := Lib.hid (Hyes.out (by rw [Hft.out]; rfl))
                      go_wp2_with fail
                      go_roundw
                      case rel => exact ⟨k + 1, Hkr.out, by rw [Hs2.out], by go_num, HY, HBs⟩
                      case measure => have := Hkr.out; simp [intOf]; omega
                    | false =>
                      cases v with
                      | true =>
                        have HY := Lib.hid (Hyes.out (by rw [Hft.out]; rfl))
                        go_wp2_with fail
                        go_roundw
                        case rel => exact ⟨k + 1, Hkr.out, by rw [Hs2.out], by go_num, HY, HBs⟩
                        case measure => have := Hkr.out; simp [intOf]; omega
                      | false =>
                        have HY := Lib.hid (Hstop.out (by rw [Hft.out]; rfl))
                        go_wp2_with fail
                        go_roundw
                        case rel => exact ⟨i + 1, Hil.out, boolV (by rw [Hre.out, HY.out, Hs2.out]), by go_num, HBo⟩
                        case measure => have := Hil.out; simp [intOf]; omega
              · have hkn : k = rt.length := by have := Hrn.out; omega
                have Hre2 : Hid (rowTo b f (i + 1) n = rowTo b f i n ++ nts (rt.take k)) := Lib.hid (by
                  rw [Hre.out, hkn, List.take_length, collect_all]
                  have := Hal.out; rw [hkn, List.take_length] at this; exact this)
                have hk0 : decide (k < rn) = false := decide_eq_false hkr
                clear hkn hkr
                go_wp2_with fail
                go_roundw
                case rel => exact ⟨i + 1, Hil.out, boolV (by rw [Hre2.out]), by go_num, Hbo⟩
                case measure => have := Hil.out; simp [intOf]; omega
          · have hne : (x != n) = true := by simp [hxn]
            have Hre := Lib.hid (show rowTo b f (i + 1) n = rowTo b f i n by rw [Hrs.out, if_neg hxn, List.append_nil])
            clear Hrs hxn
            go_wp2_with fail
            go_roundw
            case rel => exact ⟨i + 1, Hil.out, boolV (by rw [Hre.out]), by go_num, HBx⟩
            case measure => have := Hil.out; simp [intOf]; omega
        · obtain rfl : i = ll := by omega
          have Hps := Lib.hid (pick_succ (fun j => decide ((j : Int) ∈ rowTo b f b.l.length n)) m)
          have hiv : i = b.l.length := Hll.out
          have HOx := Lib.hid (owns_belowP HO.out HBx.out)
          rw [← hiv] at Hps HOx Hln
          by_cases hin : (m : Int) ∈ rowTo b f i n
          · rw [decide_eq_true hin] at Hps ⊢
            rw [if_pos rfl] at Hps
            obtain ⟨a5, d5, w5, happ, hown5, hb5⟩ := own_push (L := pick (fun j => decide ((j : Int) ∈ rowTo b f i n)) m) Hbx.out.size (by rw [← Hln.out]; exact HOx.out) (m : Int) (by have := pick_len (fun j => decide ((j : Int) ∈ rowTo b f i n)) m; have := Hlt.out; omega)
            rw [← Hps.out] at hown5
            rw [← Hln.out] at happ hown5
            have Hown5 := Lib.hid hown5
            have Hb5 := Lib.hid (Hbx.out.trans hb5)
            have Hl5 : Hid (ln + 1 = (pick (fun j => decide ((j : Int) ∈ rowTo b f i n)) (m + 1)).length) := Lib.hid (by rw [Hps.out, List.length_append, Hln.out]; rfl)
            clear hown5 hb5 hin hiv
            go_wp2_with fail
            go_roundw
            case rel => exact ⟨m + 1, Hlt.out, by go_num, Lib.hid (by rw [← Hll.out]; exact Hown5.out), Hb5⟩
            case measure => have := Hlt.out; simp [intOf]; omega
          · rw [decide_eq_false hin] at Hps ⊢
            rw [if_neg (by decide), List.append_nil] at Hps
            clear hin hiv
            go_wp2_with fail
            go_roundw
            case rel => exact ⟨m + 1, Hlt.out, by go_num, Lib.hid (by rw [← Hll.out, Hps.out, ← Hln.out]; exact HOx.out), Hbx⟩
            case measure => have := Hlt.out; simp [intOf]; omega
    · obtain rfl : m = ol := by omega
      have HE : Hid (OwnI w (nextI b f n) (.returned (.slice xa ln xc)) wr) := Lib.hid ⟨_, rfl, by
        have := HO.out
        rw [hln] at this ⊢
        have e := Hpn.out
        rw [← Hol.out] at e
        rw [e] at this ⊢
        exact owns_baseP this HB2.out.size, HB2.out.trans (HB.out.mono HB2.out.size)⟩
      rw [← hln]
      clear hln hplen hlt hm
      go_wp2_with fail
      go_ret
      exact HE.out
end Go.Proofs.Ytfmcigodfihlcaa
