/-
  The document's Grown: its walk; Of.
-/
import Derived.Test.YtimgnbacgdmiiaaFirK
namespace Go.Proofs.Ytimgnbacgdmiiaa
open Go.RowKit PK
set_option linter.unusedVariables false
set_option linter.unusedSimpArgs false
attribute [local go_sem ↓] append_appM

theorem mu_put {b : Bn} {k : Int} {most : Nat} {S : Sts} (h : InvS b k most S) (j : Nat) (hj : j < S.length) (a : List Tx) (h1 : S[j].length < a.length) (h2 : a.length ≤ most) : muG most (some (S.set j a)) < muG most (some S) := by
  show 1 + _ < 1 + _
  rw [List.map_set]
  have := sum_set_lt (S.map fun a => most - a.length) j (most - a.length) (by simpa using hj) (by rw [List.getElem_map]; omega)
  omega
theorem qp_closed {b : Bn} {k : Int} {most : Nat} {S : Sts} (h : ∀ p ∈ b.l, QP k most S p) : Closed b k S ∧ ∀ p ∈ b.l, ¬ OverR k most S p.right := ⟨fun p hp => (h p hp).2, fun p hp => (h p hp).1⟩
set_option maxHeartbeats 8000000 in
set_option maxRecDepth 100000 in
theorem grown_any (b : Bn) (k : Int) (most : Nat) (ov lv : Value) (B : Nat) (w : World) (hB : B ≤ w.heap.size) (r : BR w B ov lv b) (h0 : bmay b = 0) (hk : 1 ≤ k ∧ k ≤ 4) (hm : most ≤ 600) :
    Calls Try.prog 36 #[.agg #[.int .i64 b.toks, .int .i64 b.look, ov, lv], .int .i64 k, .int .i64 (most : Nat)] w (GrownP w b k most) := by
  obtain ⟨oa, oc, rfl, ho1, ho2⟩ := r.of.val
  obtain ⟨la, lc, rfl, hl1, hl2⟩ := r.l.val
  obtain ⟨z1, z2, z3, z4, z5, z6, z7, z8, z9, z10⟩ := bmay_zero h0
  have hbox := BoxB.new b.toks b.look 25 hB r
  have hb1 := (Below.refl w.heap.size w).alloc (Nat.le_refl _) (.cells #[.int .i64 b.toks, .int .i64 b.look, .slice oa b.of.length oc, .slice la b.l.length lc] 25)
  have hL : LookOk b k most b.of.length := ⟨z6, z7, hk, hm, ⟨rfl, z1, z2⟩, z4⟩
  have hinv := inv_start b k most
  obtain ⟨ol, hol⟩ : ∃ ol, ol = b.of.length := ⟨_, rfl⟩
  obtain ⟨ll, hll⟩ : ∃ ll, ll = b.l.length := ⟨_, rfl⟩
  obtain ⟨tk, htk⟩ : ∃ tk, tk = b.toks := ⟨_, rfl⟩
  obtain ⟨lk, hlk⟩ : ∃ lk, lk = b.look := ⟨_, rfl⟩
  rw [← hol, ← hll, ← htk, ← hlk] at hbox hb1
  rw [← hol] at hL hinv
  rw [← hol, ← hll, ← htk, ← hlk]
  have ho500 : ol ≤ 500 := by omega
  have ho1' : 1 ≤ ol := by omega
  have hl2000 : ll ≤ 2000 := by omega
  have hm63 : (most : Int) ≤ 1000 := by omega
  have Hbox := Lib.hid hbox; have Hb1 := Lib.hid hb1; have HL := Lib.hid hL; have Hinv := Lib.hid hinv; have Hol := Lib.hid hol; have Hll := Lib.hid hll; have Hok := Lib.hid z6
  clear r hbox hb1 hL hinv hol hll htk hlk hB hm ho1 ho2 hl1 hl2 z1 z2 z3 z4 z5 z6 z7 z8 z9 z10 h0 hk
  go_enter Try.func36, Try.ntmps36
  go_upto_region 1 with fail
  generalize w.alloc (.cells #[.int .i64 tk, .int .i64 lk, .slice oa ol oc, .slice la ll lc] 25) = w1 at *
  have Hc : Hid (∀ W, Below w1.heap.size w1 W → W.cell? ⟨w.heap.size, 2, none⟩ = some (.slice oa ol oc) ∧ W.cell? ⟨w.heap.size, 3, none⟩ = some (.slice la ll lc)) := Lib.hid fun W hW => ⟨(Hbox.out.keep hW).c2, (Hbox.out.keep hW).c3⟩
  have Hown0 : Hid ((w1.alloc (.cells #[] 32)).ownsRow w1.heap.size 32 1 (.slice (some ⟨w1.heap.size, 0, none⟩) 0 0) 0 (List.replicate 0 (.slice none 0 0))) := Lib.hid (World.ownsRow_made (base := w1.heap.size) (e := 32) (size := 1) w1 #[] 0 (Nat.le_refl _) (Nat.zero_le _) rfl)
  go_wp2_with fail
  go_loopw [8, 9] (fun xv nv wr => ∃ m : Nat, m ≤ ol ∧ nv = .int .i64 (m : Nat) ∧ Hid (wr.ownsRow w1.heap.size 32 1 xv m (List.replicate m (.slice none 0 0))) ∧ Hid (Below w1.heap.size w1 wr)) (fun _ nv _ => ol - (intOf nv).toNat)
  case atStart => exact ⟨0, Nat.zero_le _, rfl, Hown0, Lib.hid ((Below.refl _ w1).alloc (Nat.le_refl _) _)⟩
  case round =>
    clear Hown0
    obtain ⟨m, hm, rfl, HO, HB⟩ := hrel
    obtain ⟨xa, xc, rfl, _, _⟩ := owns_valP HO.out
    obtain ⟨c2, c3⟩ := Hc.out _ HB.out
    by_cases hlt : m < ol
    · obtain ⟨a5, d5, w5, happ, ho5, hb5⟩ := own_pushS HB.out.size HO.out (by omega)
      have Ho5 := Lib.hid ho5
      have HB5 := Lib.hid (HB.out.trans hb5)
      have hm1 : (m : Int) < (ol : Int) := by omega
      have hm3 : (m : Int) ≤ 1000 := by omega
      have Hlt := Lib.hid hlt
      clear ho5 hb5 hlt hm
      go_wp2_with fail
      go_roundw
      case rel => exact ⟨m + 1, Hlt.out, by go_num, Ho5, HB5⟩
      case measure => have := Hlt.out; simp [intOf]; omega
    · obtain rfl : m = ol := by omega
      obtain ⟨g, hg, hg1, hg2, _, _⟩ := owns_cellN HO.out (by omega)
      subst hg
      have HD0 : Hid (DSt wr w1.heap.size g m xc (List.replicate m (.slice none 0 0, []))) := Lib.hid ⟨⟨hg1, hg2⟩, by simp, by simpa using HO.out, (fun x hx => by rw [List.eq_of_mem_replicate hx]; exact World.ownsRow_nil _ _ _ _), fun x hx q e => by rw [List.eq_of_mem_replicate hx] at e; cases e⟩
      have e0 : (List.replicate m ((.slice none 0 0, []) : Value × List Tx)).map (·.2) = List.replicate m [] := by simp
      have HI0 : Hid (InvS b k most ((List.replicate m ((.slice none 0 0, []) : Value × List Tx)).map (·.2))) := Lib.hid (by rw [e0]; exact Hinv.out)
      have hi0 : decide (m < m) = false := by simp
      clear hlt hm HO hg1 hg2 e0
      go_wp2_with fail
      clear c2 c3
      go_loopw [10] (fun mv wr => ∃ (m' : Bool) (X : List (Value × List Tx)), mv = .bool m' ∧ Hid (DSt wr w1.heap.size g m xc X) ∧ Hid (InvS b k most (X.map (·.2))) ∧ Hid (Below w1.heap.size w1 wr) ∧ Hid (m' = false → ∀ p ∈ b.l, QP k most (X.map (·.2)) p)) (fun mv wr => match mv with | .bool true => restW most wr g m + 1 | _ => 0)
      case atStart => exact ⟨true, _, rfl, HD0, HI0, HB, Lib.hid (fun h => by cases h)⟩
      case round =>
        clear HD0 HI0 HB
        obtain ⟨m', X0, rfl, HD, HI, HB, HQ⟩ := hrel
        cases m' with
        | false =>
          obtain ⟨hcl, hno⟩ := qp_closed (HQ.out rfl)
          have HE : Hid (GrownP w b k most (.returned (.tuple #[.slice (some ⟨g, 0, none⟩) m xc, .bool true])) wr) := Lib.hid ⟨.inl ⟨g, xc, _, by rw [Hol.out], HI.out, hcl, hno, by rw [← Hol.out]; exact HD.out.sets ho1'⟩, Hb1.out.trans (HB.out.mono Hb1.out.size)⟩
          clear hcl hno
          go_wp2_with fail
          go_ret2
          exact HE.out
        | true =>
          obtain ⟨wo, rfl⟩ : ∃ wo : World, wo = wr := ⟨_, rfl⟩
          have Hrest := Lib.hid (HD.out.rest (most := most) ho1')
          go_wp2_with fail
          go_loopw [10, 11] (fun mv iv wx => ∃ (m' : Bool) (X : List (Value × List Tx)) (i : Nat), i ≤ ll ∧ mv = .bool m' ∧ iv = .int .i64 (i : Nat) ∧ Hid (DSt wx w1.heap.size g m xc X) ∧ Hid (InvS b k most (X.map (·.2))) ∧ Hid (Below w1.heap.size w1 wx) ∧ Hid (m' = false → X.map (·.2) = X0.map (·.2) ∧ ∀ j (hj : j < b.l.length), j < i → QP k most (X0.map (·.2)) b.l[j]) ∧ Hid (m' = true → muG most (some (X.map (·.2))) < muG most (some (X0.map (·.2))))) (fun _ iv _ => ll - (intOf iv).toNat)
          case atStart => exact ⟨false, X0, 0, Nat.zero_le _, rfl, rfl, HD, HI, HB, Lib.hid (fun _ => ⟨rfl, fun j _ hj => by omega⟩), Lib.hid (fun h => by cases h)⟩
          case round =>
            obtain ⟨m', X, i, hi, rfl, rfl, HD2, HI2, HB2, HQ2, HC2⟩ := hrel
            obtain ⟨c2, c3⟩ := Hc.out _ HB2.out
            by_cases hlt : i < ll
            · have hlt' : i < b.l.length := by have := Hll.out; omega
              obtain ⟨b1, o1, a1, d1, hao, hbb, e0, e1, rk, m1, m2⟩ := Hbox.out.r.l.get i hlt'
              subst hao
              have hpm := List.getElem_mem hlt'
              obtain ⟨p, hp⟩ : ∃ p, p = b.l[i] := ⟨_, rfl⟩
              rw [← hp] at e0 e1 rk m1 hpm
              have Hp : Hid (∀ h : i < b.l.length, p = b.l[i]'h) := Lib.hid (fun h => hp)
              obtain ⟨x, rt⟩ := p
              simp only at e0 e1 rk m1
              have hpo := Hok.out _ hpm
              obtain ⟨hp1, hp2⟩ := prOk_left hpo
              simp only at hp1 hp2
              have hps : ∀ s ∈ rt, (s.tok = true → 0 ≤ s.n ∧ s.n ≤ 255) ∧ (s.tok = false → 0 ≤ s.n ∧ s.n < m) := fun s hs => ⟨fun ht => by have := prOk_tok hpo hs ht; have := HL.out.tk; omega, fun ht => by have := prOk_sym hpo hs ht; have := Hol.out; omega⟩
              obtain ⟨q, rfl⟩ : ∃ q : Nat, x = (q : Int) := ⟨x.toNat, by omega⟩
              have hq : q < m := by have := Hol.out; omega
              have hb1l : b1 < w1.heap.size := Nat.lt_of_lt_of_le hbb Hbox.out.le
              have Hg := Lib.hid (fun W (hW : Below w1.heap.size w1 W) => And.intro ((hW.cell (p := ⟨b1, o1 + i * 2, none⟩) hb1l).trans e0) ((hW.cell (p := ⟨b1, o1 + i * 2 + 1, none⟩) hb1l).trans e1))
              have hrk := Row.below rk (HB2.out.mono Hbox.out.le)
              have hSO : SOk k (X.map (·.2)) := fun a ha => ⟨HI2.out.sound.set a ha, HI2.out.le a ha, Nat.le_trans (HI2.out.few a ha) HL.out.m1⟩
              have Hrow := Lib.hid (refRow14_any rt (.slice a1 rt.length d1) k g m xc most (X.map (·.2)) B wr hrk (Nat.le_trans Hbox.out.le HB2.out.size) (HD2.out.sets ho1') HL.out.k1 HL.out.m1 hSO hps (by omega))
              obtain ⟨f0, f1⟩ := Hg.out _ HB2.out
              have Hpm := Lib.hid hpm; have Hq := Lib.hid hq
              have hi1 : (i : Int) < (ll : Int) := by omega
              have hi2 : (0 : Int) ≤ (i : Int) := by omega
              have hi3 : (i : Int) ≤ 10000 := by omega
              have Hlt := Lib.hid hlt
              obtain ⟨rn, hrn⟩ : ∃ rn, rn = rt.length := ⟨_, rfl⟩
              rw [← hrn] at Hrow Hg f1
              clear e0 e1 rk m1 m2 hpo hps hb1l hrk hSO hpm hp hlt hlt' hi hrn hp1 hp2 hq
              go_wp2_with fail
              refine (Hrow.out).mono ?_
              rintro e W2 ⟨hor, hb2⟩
              have HB3 := Lib.hid (HB2.out.trans (hb2.mono HB2.out.size))
              have HD3 := Lib.hid (HD2.out.below hb2)
              obtain ⟨g0, g1⟩ := Hg.out _ HB3.out
              obtain ⟨c22, c32⟩ := Hc.out _ HB3.out
              clear hb2 Hrow f0 f1 c2 c3
              rcases hor with ⟨hno, v2, rfl, hr2⟩ | ⟨hov, rfl⟩
              rotate_left
              · have HE : Hid (GrownP w b k most (.returned (.tuple #[.slice none 0 0, .bool false])) W2) := Lib.hid ⟨.inr ⟨rfl, _, HI2.out.sound, _, Hpm.out, .inl hov⟩, Hb1.out.trans (HB3.out.mono Hb1.out.size)⟩
                clear hov
                go_wp2_with fail
                go_ret2
                exact HE.out
              · obtain ⟨a2, d2, rfl, _, _⟩ := hr2.val
                have hrn2 : (rowS k (X.map (·.2)) rt).length ≤ 1000 := by
                  rcases List.eq_nil_or_concat rt with rfl | ⟨r', s', rfl⟩
                  · show ([[]] : List Tx).length ≤ 1000; simp
                  · have h1 : ¬ most < (rowS k (X.map (·.2)) ((r'.concat s').take (r'.length + 1))).length := fun h => hno ⟨r'.length, by simp, h⟩
                    rw [List.take_of_length_le (by simp)] at h1
                    have := HL.out.m1; omega
                have hqX : q < X.length := by rw [HD3.out.len]; exact Hq.out
                obtain ⟨g', hv, _, _, hcl, hfr⟩ := owns_cellN HD3.out.out (by omega)
                simp only [Option.some.injEq, Addr.mk.injEq, and_true] at hv
                subst hv
                have hcq : W2.cell? ⟨g, q, none⟩ = some X[q].1 := hcl q _ (by rw [List.getElem?_map, List.getElem?_eq_getElem hqX]; rfl)
                have hrq := Row.of_owns (HD3.out.each _ (List.getElem_mem hqX))
                have hqS : q < (X.map (·.2)).length := by rw [List.length_map]; exact hqX
                have hst : stAt (X.map (·.2)) (q : Int) = X[q].2 := by rw [stAt_nat _ q hqS, List.getElem_map]
                obtain ⟨xa2, xc2, hxv, hz1, hz2⟩ := hrq.val
                rw [hxv] at hcq hrq
                have hfew : X[q].2.length ≤ 1000 := by
                  have h1 := HI2.out.few X[q].2 (List.mem_map.2 ⟨_, List.getElem_mem hqX, rfl⟩)
                  have := HL.out.m1; omega
                have Hj := Lib.hid (refJoin_any _ _ _ _ W2.heap.size W2.heap.size W2 (Nat.le_refl _) (Nat.le_refl _) hrq hr2 hfew hrn2)
                have HPut := Lib.hid (fun h => HI2.out.put Hok.out (by have := HL.out.k1; omega) ⟨(q : Int), rt⟩ Hpm.out h)
                have HOv : Hid (most < (joinL X[q].2 (rowS k (X.map (·.2)) rt)).length → Over b k most (X.map (·.2))) := Lib.hid fun h => ⟨_, Hpm.out, .inr (by rw [hst]; exact h)⟩
                have HQp : Hid ((joinL X[q].2 (rowS k (X.map (·.2)) rt)).length = X[q].2.length → QP k most (X.map (·.2)) ⟨(q : Int), rt⟩) := Lib.hid fun h => ⟨hno, fun y hy => by
                  show y ∈ stAt (X.map (·.2)) (q : Int)
                  rw [hst]
                  exact (join_same (by rw [← hst]; exact stAt_isSet HI2.out _) h).2 y hy⟩
                have Hle : Hid (X[q].2.length ≤ (joinL X[q].2 (rowS k (X.map (·.2)) rt)).length) := Lib.hid (join_le (by rw [← hst]; exact stAt_isSet HI2.out _))
                have Hmu := Lib.hid (fun a h1 h2 => mu_put HI2.out q hqS a (by rw [List.getElem_map]; exact h1) h2)
                simp only [Int.toNat_natCast] at HPut
                rw [hst] at HPut
                obtain ⟨A, hA⟩ : ∃ A, A = joinL X[q].2 (rowS k (X.map (·.2)) rt) := ⟨_, rfl⟩
                rw [← hA] at Hj HPut HOv HQp Hle
                obtain ⟨an, han⟩ : ∃ an, an = X[q].2.length := ⟨_, rfl⟩
                rw [← han] at Hj HQp Hle Hmu hcq
                generalize (rowS k (X.map (·.2)) rt).length = r2n at *
                have hq1 : (q : Int) < (m : Int) := by have := Hq.out; omega
                have hq2 : (0 : Int) ≤ (q : Int) := by omega
                clear hr2 hno hrn2 hz1 hz2 hcl hfr hrq hst hxv hfew hA han
                go_wp2_with fail
                refine (Hj.out).mono ?_
                rintro e W3 ⟨v3, rfl, own3, hb3⟩
                obtain ⟨a3, d3, rfl, _, _⟩ := owns_valPK own3
                have HB4 := Lib.hid (HB3.out.trans (hb3.mono HB3.out.size))
                have HD4 := Lib.hid (HD3.out.below hb3)
                have Hown3 := Lib.hid own3
                have hcq3 := (hb3.cell (p := ⟨g, q, none⟩) HD3.out.lt.2).trans hcq
                have hfq3 : W3.frozen? ⟨g, q, none⟩ = false := by
                  obtain ⟨g', hv, _, _, _, hf⟩ := owns_cellN HD4.out.out (by omega)
                  simp only [Option.some.injEq, Addr.mk.injEq, and_true] at hv
                  subst hv; exact hf q
                have hgl : g < W3.heap.size := HD4.out.lt.2
                obtain ⟨gn, hgn⟩ : ∃ gn, gn = A.length := ⟨_, rfl⟩
                rw [← hgn] at Hown3 HOv HPut HQp Hle ⊢
                have Hgn := Lib.hid hgn
                have Hg3 := Lib.hid (HD3.out.lt.2)
                clear own3 hb3 Hj hgn hcq g0 g1 c22 c32 HD2
                by_cases hov : most < gn
                · have q1 : decide (most < gn) = true := decide_eq_true hov
                  have q2 : decide ((most : Int) < (gn : Int)) = true := decide_eq_true (by omega)
                  have HE : Hid (GrownP w b k most (.returned (.tuple #[.slice none 0 0, .bool false])) W3) := Lib.hid ⟨.inr ⟨rfl, _, HI2.out.sound, HOv.out hov⟩, Hb1.out.trans (HB4.out.mono Hb1.out.size)⟩
                  clear hov
                  go_wp2_with fail
                  go_ret2
                  exact HE.out
                · have q1 : decide (most < gn) = false := decide_eq_false hov
                  have q2 : decide ((most : Int) < (gn : Int)) = false := decide_eq_false (by omega)
                  by_cases hgt : an < gn
                  · have q3 : decide (an < gn) = true := decide_eq_true hgt
                    have q4 : decide ((an : Int) < (gn : Int)) = true := decide_eq_true (by omega)
                    have HI5 := HPut.out hov
                    have hput := HD4.out.put q Hq.out (.slice a3 gn d3) A W2.heap.size (by rw [← Hgn.out]; exact Hown3.out) Hg3.out
                    have e5 : (X.map (·.2)).set q A = (X.set q ((.slice a3 gn d3 : Value), A)).map (·.2) := by rw [List.map_set]
                    rw [e5] at HI5
                    have HI6 := Lib.hid HI5
                    have HD6 := Lib.hid hput
                    have HB6 := Lib.hid (HB4.out.setCell (p := ⟨g, q, none⟩) HD4.out.lt.1 (.slice a3 gn d3))
                    have Hm6 : Hid (muG most (some ((X.set q ((.slice a3 gn d3 : Value), A)).map (·.2))) < muG most (some (X0.map (·.2)))) := Lib.hid (by
                      have h1 := Hmu.out A (by rw [← Hgn.out]; exact hgt) (by rw [← Hgn.out]; omega)
                      rw [e5] at h1
                      cases m' with
                      | true => exact Nat.lt_trans h1 (HC2.out rfl)
                      | false => rw [(HQ2.out rfl).1] at h1; exact h1)
                    clear hov hgt HI5 hput e5
                    go_wp2_with fail
                    go_roundw
                    case rel => exact ⟨true, _, i + 1, Hlt.out, rfl, by go_num, HD6, HI6, HB6, Lib.hid (fun h => by cases h), Lib.hid (fun _ => Hm6.out)⟩
                    case measure => have := Hlt.out; simp [intOf]; omega
                  · have q3 : decide (an < gn) = false := decide_eq_false hgt
                    have q4 : decide ((an : Int) < (gn : Int)) = false := decide_eq_false (by omega)
                    have Hqp := Lib.hid (HQp.out (by have := Hle.out; omega))
                    have HQ5 : Hid (m' = false → X.map (·.2) = X0.map (·.2) ∧ ∀ j (hj : j < b.l.length), j < i + 1 → QP k most (X0.map (·.2)) b.l[j]) := Lib.hid fun hm => ⟨(HQ2.out hm).1, fun j hj hji => by
                      rcases Nat.lt_or_ge j i with h1 | h1
                      · exact (HQ2.out hm).2 j hj h1
                      · obtain rfl : j = i := by omega
                        rw [← Hp.out hj, ← (HQ2.out hm).1]; exact Hqp.out⟩
                    clear hov hgt
                    go_wp2_with fail
                    go_roundw
                    case rel => exact ⟨m', X, i + 1, Hlt.out, rfl, by go_num, HD4, HI2, HB4, HQ5, HC2⟩
                    case measure => have := Hlt.out; simp [intOf]; omega
            · obtain rfl : i = ll := by omega
              have HQ5 : Hid (m' = false → ∀ p ∈ b.l, QP k most (X.map (·.2)) p) := Lib.hid fun hm p hp => by
                obtain ⟨j, hj, rfl⟩ := List.getElem_of_mem hp
                rw [(HQ2.out hm).1]
                exact (HQ2.out hm).2 j hj (by have := Hll.out; omega)
              have Hrest2 := Lib.hid (HD2.out.rest (most := most) ho1')
              have hi0 : decide (i < i) = false := by simp
              clear hlt hi
              go_wp2_with fail
              go_roundw
              case rel => exact ⟨m', X, rfl, HD2, HI2, HB2, HQ5⟩
              case measure =>
                cases m' with
                | false => simp
                | true => have := HC2.out rfl; have := Hrest.out; have := Hrest2.out; simp; omega
end Go.Proofs.Ytimgnbacgdmiiaa
