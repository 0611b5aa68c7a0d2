/-
  again.Asks: its walk.
-/
import Derived.Test.YtimgnbacgdmiiaaAskA
import Derived.Deep.DeepCutAuto
namespace Go.Proofs.Ytimgnbacgdmiiaa
open Go.RowKit Go.Maps Go.WideMaps
set_option linter.unusedVariables false
set_option linter.unusedSimpArgs false
attribute [local go_sem ↓] append_appM

set_option maxHeartbeats 4000000 in
set_option maxRecDepth 100000 in
theorem asks_any (b : Bn) (tk lk : Int) (ov lv : Value) (B : Nat) (w : World) (hB : B ≤ w.heap.size) (r : BR w B ov lv b) (hl : b.l.length ≤ 2000) (hr : ∀ p ∈ b.l, p.right.length ≤ 500) (hw : ∀ p ∈ b.l, ∀ s ∈ p.right, In64 s.n) :
    Calls Try.prog 64 #[.agg #[.int .i64 tk, .int .i64 lk, ov, lv]] w (AskPost w b.l) := by
  obtain ⟨oa, oc, rfl, ho1, ho2⟩ := r.of.val
  obtain ⟨la, lc, rfl, hl1, hl2⟩ := r.l.val
  have hbox := BoxB.new tk lk 25 hB r
  have hbel := (Below.refl w.heap.size w).alloc (Nat.le_refl _) (.cells #[.int .i64 tk, .int .i64 lk, .slice oa b.of.length oc, .slice la b.l.length lc] 25)
  obtain ⟨ol, hol⟩ : ∃ ol, ol = b.of.length := ⟨_, rfl⟩
  obtain ⟨ll, hll⟩ : ∃ ll, ll = b.l.length := ⟨_, rfl⟩
  rw [← hol, ← hll] at hbox hbel ⊢
  have Hbox := Lib.hid hbox; have Hbel := Lib.hid hbel; have Hll := Lib.hid hll; have Hr := Lib.hid hr; have Hw := Lib.hid hw
  have hl63 : ll ≤ 2000 := by omega
  clear r hbox hbel hol hll ho1 ho2 hl1 hl2 hB hr hw hl
  have hmm := @run_makeMap Try.prog
  go_enter Try.func64, Try.ntmps64
  go_upto_region 1 with fail
  generalize w.alloc (.cells #[.int .i64 tk, .int .i64 lk, .slice oa ol oc, .slice la ll lc] 25) = w1 at *
  have HA0 := Lib.hid (AskI.made w1)
  have hb2 := Hbox.out.keep ((Below.refl _ w1).alloc (Nat.le_refl _) (.map #[] 0))
  have c3 := hb2.c3
  clear hb2
  go_wp2_with fail
  clear c3
  go_loopw [13] (fun iv wr => ∃ (k : Nat) (F : Int → Option (Value × List Int)) (cc : Nat), k ≤ ll ∧ iv = .int .i64 k ∧ Hid (cc ≤ k * 500) ∧ Hid (AskI w1 wr cc F) ∧ Hid (AskS b.l F) ∧ Hid (AskC b.l F k)) (fun iv _ => ll - (intOf iv).toNat)
  case atStart => exact ⟨0, _, 0, Nat.zero_le _, rfl, Lib.hid (Nat.zero_le _), HA0, Lib.hid (fun k v l h => by cases h), Lib.hid (fun p hp => by omega)⟩
  case round =>
    obtain ⟨k, F0, cc0, hk, rfl, Hc0, HA, HS, HC⟩ := hrel
    have Hboxr := Lib.hid (Hbox.out.keep HA.out.bel)
    by_cases hlt : k < ll
    · have hlt' : k < b.l.length := by have := Hll.out; omega
      obtain ⟨b1, o1, a1, d1, hao, hb1, e0, e1, rk, m1, m2⟩ := Hbox.out.r.l.get k hlt'
      subst hao
      have hb1' := Nat.lt_of_lt_of_le hb1 Hbox.out.le
      replace e0 := (HA.out.bel.cell (p := ⟨b1, o1 + k * 2, none⟩) hb1').trans e0
      replace e1 := (HA.out.bel.cell (p := ⟨b1, o1 + k * 2 + 1, none⟩) hb1').trans e1
      have hrl := Hr.out _ (List.getElem_mem hlt')
      have Hrw := Lib.hid (Hw.out _ (List.getElem_mem hlt'))
      have Hat : Hid (b.l[k]? = some b.l[k]) := Lib.hid (List.getElem?_eq_getElem hlt')
      have hk0 : (k : Int) < (ll : Int) := by omega
      have hk1 : (0 : Int) ≤ (k : Int) := by omega
      have Hlt := Lib.hid hlt; have Hlk := Lib.hid hlt'
      generalize b.l[k] = p at *
      obtain ⟨x, rt⟩ := p
      simp only at e0 e1 rk m1 hrl
      have Hrk : Hid (∀ W, Below w1.heap.size w1 W → SR W B (.slice a1 rt.length d1) rt) := Lib.hid fun W hW => Row.below rk (hW.mono Hbox.out.le)
      obtain ⟨rn, hrn⟩ : ∃ rn, rn = rt.length := ⟨_, rfl⟩
      rw [← hrn] at e1 hrl m1
      rw [← hrn] at Hrk
      have Hrn := Lib.hid hrn
      clear hrn
      have hr63 : rn ≤ 500 := hrl
      have hA1 := HA.out.keep ((Below.refl _ wr).alloc (Nat.le_refl _) (.cells #[.int .i64 x, .slice a1 rn d1] 57))
      have HA1 := Lib.hid hA1
      obtain ⟨wo, rfl⟩ : ∃ wo : World, wo = wr := ⟨_, rfl⟩
      clear rk m1 m2 hlt hk hlt' hb1 hb1' hrl hA1
      go_upto_region 6 with fail
      go_loopw [21] (fun iv wx => ∃ (j : Nat) (F : Int → Option (Value × List Int)) (cc : Nat), j ≤ rn ∧ iv = .int .i64 j ∧ Hid (cc ≤ k * 500 + j) ∧ Hid (AskI w1 wx cc F) ∧ Hid (AskS b.l F) ∧ Hid (AskC b.l F k) ∧ Hid (AskP F k (rt.take j))) (fun iv _ => rn - (intOf iv).toNat)
      case atStart => exact ⟨0, F0, cc0, Nat.zero_le _, rfl, Hc0, HA1, HS, HC, Lib.hid (fun s hs => by cases hs)⟩
      case round =>
        clear HA HS HC Hc0 HA1 e0 e1
        obtain ⟨j, F, cc, hj, rfl, Hcj, HA, HS, HC, HP⟩ := hrel
        by_cases hjn : j < rn
        · have hjr : j < rt.length := by have := Hrn.out; omega
          obtain ⟨b6, o6, hao, hb6, f0, f1⟩ := SR.get (Hrk.out wr HA.out.bel) j hjr
          subst hao
          have Htk := Lib.hid (List.take_succ_eq_append_getElem hjr)
          have hin := Hrw.out _ (List.getElem_mem hjr)
          have hk2 : (j : Int) < (rn : Int) := by omega
          have hk3 : (0 : Int) ≤ (j : Int) := by omega
          have Hjn := Lib.hid hjn
          generalize rt[j] = s at *
          obtain ⟨t, n⟩ := s
          simp only at f0 f1 hin
          have Hin := Lib.hid hin
          obtain ⟨v, l, hr⟩ := hasRow F n
          have Hr2 := Lib.hid hr
          have hb8 := (Below.refl wr.heap.size wr).alloc (Nat.le_refl _) (.cells #[.bool t, .int .i64 n] 39)
          have hA8 := HA.out.keep hb8
          have hlook := hA8.look hin hr
          obtain ⟨hown, hlc⟩ := hA8.row hr
          have hown0 := (HA.out.row hr).1
          have Hoff : Hid (v.ownBlock ≠ some wr.heap.size) := Lib.hid fun e => by have := (hown0.lt _ e).2; omega
          obtain ⟨va, vc, rfl, hv1, hv2⟩ := owns_valP hown
          unfold maxLen at hv2
          have hsc0 : (wr.alloc (.cells #[.bool t, .int .i64 n] 39)).cell? ⟨wr.heap.size, 0, none⟩ = some (.bool t) := cell_new wr _ _ 0 _ rfl
          have hsc1 : (wr.alloc (.cells #[.bool t, .int .i64 n] 39)).cell? ⟨wr.heap.size, 1, none⟩ = some (.int .i64 n) := cell_new wr _ _ 1 _ rfl
          have hz8 : wr.heap.size < (wr.alloc (.cells #[.bool t, .int .i64 n] 39)).heap.size := by simp
          have HA8 := Lib.hid hA8
          have Hown := Lib.hid (Row.of_owns hown)
          obtain ⟨ln, hln⟩ : ∃ ln, ln = l.length := ⟨_, rfl⟩
          rw [← hln] at hlook hv1 hlc
          have hl63' : ln ≤ 9223372036854775807 := by omega
          have Hln := Lib.hid hln
          clear hln
          clear hjn hj hjr hb6 hin hr hb8 hA8 hown hown0 hlc hv1 hv2
          go_upto_region 8 with fail
          clear f0 f1
          generalize wr.alloc (.cells #[.bool t, .int .i64 n] 39) = w8 at *
          obtain ⟨wz, rfl⟩ : ∃ wz : World, wz = wr := ⟨_, rfl⟩
          have Hsc := Lib.hid hsc1; have Hz8 := Lib.hid hz8
          have hccb : cc ≤ 10000000 := by have := Hcj.out; have := Hjn.out; have := Hlt.out; omega
          have Hcc := Lib.hid hccb
          clear hccb hz8
          cases t with
          | true =>
            have HP4 : Hid (AskP F k (rt.take (j + 1))) := Lib.hid fun s hs ht => by
              rw [Htk.out, List.mem_append] at hs
              rcases hs with hs | hs
              · exact HP.out s hs ht
              · rw [List.mem_singleton.1 hs] at ht; cases ht
            have Hc4 : Hid (cc ≤ k * 500 + (j + 1)) := Lib.hid (by have := Hcj.out; omega)
            go_wp2_with fail
            go_roundw
            case rel => exact ⟨j + 1, F, cc, Hjn.out, by go_num, Hc4, HA8, HS, HC, HP4⟩
            case measure => have := Hjn.out; simp [intOf]; omega
          | false =>
            have Hc4 : Hid (cc + 1 ≤ k * 500 + (j + 1)) := Lib.hid (by have := Hcj.out; omega)
            rcases Nat.eq_zero_or_pos ln with h0 | h0
            · have q1 : ((ln : Int) == 0) = true := by rw [beq_iff_eq]; omega
              clear h0
              obtain ⟨a9, c9, w9, w10, happ, hkept, hup, ha4⟩ := HA8.out.push (by have := Hcc.out; omega) Hin.out Hr2.out (k : Int)
              rw [← Hln.out] at happ hup
              have HA4 := Lib.hid ha4
              have HS4 := Lib.hid (HS.out.push Hr2.out (.slice a9 (l.length + 1) c9) k Hlk.out)
              have HC4 : Hid (AskC b.l (fun j => if j = n then some (.slice a9 (l.length + 1) c9, l ++ [(k : Int)]) else F j) k) := Lib.hid fun p hp x hx s hs ht => (HC.out p hp x hx s hs ht).push Hr2.out _ _
              have HP4 : Hid (AskP (fun j => if j = n then some (.slice a9 (l.length + 1) c9, l ++ [(k : Int)]) else F j) k (rt.take (j + 1))) := Lib.hid fun s hs ht => by
                rw [Htk.out, List.mem_append] at hs
                rcases hs with hs | hs
                · exact (HP.out s hs ht).push Hr2.out _ _
                · rw [List.mem_singleton.1 hs]; exact AskG.new _ _
              have Hs3 : Hid (w9.cell? ⟨wz.heap.size, 1, none⟩ = some (.int .i64 n)) := Lib.hid ((cell_eq (p := ⟨wz.heap.size, 1, none⟩) (hkept wz.heap.size Hz8.out Hoff.out)).trans Hsc.out)
              have Hsa : Hid ((w8.alloc (.cells #[.int .i64 (k : Int)] 3)).cell? ⟨wz.heap.size, 1, none⟩ = some (.int .i64 n)) := Lib.hid ((((Below.refl w8.heap.size w8).alloc (Nat.le_refl _) _).cell (p := ⟨wz.heap.size, 1, none⟩) Hz8.out).trans Hsc.out)
              have hsc : w8.drew.cell? ⟨wz.heap.size, 1, none⟩ = some (.int .i64 n) := Hsc.out
              clear ha4 hkept
              go_upto_region 10 with fail
              refine wp_region_ord 7 [(0, true), (1, true), (2, true), (3, true), (4, true), (5, false), (6, false), (7, false)] (fun w' => w'.cell? ⟨wz.heap.size, 1, none⟩ = some (.int .i64 n)) (by kernel_rfl) (by kernel_rfl) hsc ?_
              simp only [ordL, List.getElem?_toArray, List.getElem?_cons_succ, List.getElem?_cons_zero]
              clear hsc
              iterate 5 (
                refine ordW_read (v := ?_) (by rfl) ?_ (fun _ _ _ h => h) ?_
                rotate_left
                focus (intro w' s0; go_simp; (try with_reducible rfl); done)
                try simp only [Act.put, List.setIfInBounds_toArray, List.set_cons_zero, List.set_cons_succ])
              refine ordW_do (by rfl) (fun K' HK => ?_)
              go_simp
              refine HK.out _ _ (fun _ => Hsa.out) ?_
              clear HK K'
              try simp only [Act.put, List.setIfInBounds_toArray, List.set_cons_zero, List.set_cons_succ]
              refine ordW_do (by rfl) (fun K' HK => ?_)
              go_simp
              refine HK.out _ _ (fun _ => Hs3.out) ?_
              clear HK K'
              try simp only [Act.put, List.setIfInBounds_toArray, List.set_cons_zero, List.set_cons_succ]
              refine ordW_do (by rfl) (fun K' HK => ?_)
              go_simp
              refine HK.out _ _ (fun h => absurd rfl h) (ordW_nil ?_)
              clear HK K'
              go_wp2_with fail
              go_roundw
              case rel => exact ⟨j + 1, _, cc + 1, Hjn.out, by go_num, by omega, HA4, HS4, HC4, HP4⟩
              case measure => have := Hjn.out; simp [intOf]; omega
            · obtain ⟨m, hm⟩ : ∃ m, ln = m + 1 := ⟨ln - 1, by omega⟩
              have hml : m < l.length := by have := Hln.out; omega
              have q1 : ((ln : Int) == 0) = false := by rw [beq_eq_false_iff_ne]; omega
              obtain ⟨b7, o7, hva, hb7, _⟩ := Row.at Hown.out (by rw [ints_length]; omega)
              subst hva
              have c7 := Row.cell Hown.out m _ (ints_at l m hml)
              have hmem := List.getElem_mem hml
              have hm0 : (m : Int) < (ln : Int) := by omega
              have hsub : (ln : Int) - 1 = (m : Int) := by omega
              have hm1 : (0 : Int) ≤ (m : Int) := by omega
              have Hm := Lib.hid hm
              have Hmem := Lib.hid hmem
              generalize l[m] = y at *
              clear hm hml hmem h0 hb7
              by_cases hy : y = (k : Int)
              · subst hy
                have HP4 : Hid (AskP F k (rt.take (j + 1))) := Lib.hid fun s hs ht => by
                  rw [Htk.out, List.mem_append] at hs
                  rcases hs with hs | hs
                  · exact HP.out s hs ht
                  · rw [List.mem_singleton.1 hs]
                    rcases Hr2.out with h1 | ⟨_, _, h3⟩
                    · exact ⟨_, _, h1, Hmem.out⟩
                    · have := Hmem.out; rw [h3] at this; cases this
                have Hc5 : Hid (cc ≤ k * 500 + (j + 1)) := Lib.hid (by have := Hcj.out; omega)
                go_wp2_with fail
                go_roundw
                case rel => exact ⟨j + 1, F, cc, Hjn.out, by go_num, Hc5, HA8, HS, HC, HP4⟩
                case measure => have := Hjn.out; simp [intOf]; omega
              · have hyk : ((y : Int) == (k : Int)) = false := by rw [beq_eq_false_iff_ne]; exact hy
                clear hy
                obtain ⟨a9, c9, w9, w10, happ, hkept, hup, ha4⟩ := HA8.out.push (by have := Hcc.out; omega) Hin.out Hr2.out (k : Int)
                rw [← Hln.out] at happ hup
                have HA4 := Lib.hid ha4
                have HS4 := Lib.hid (HS.out.push Hr2.out (.slice a9 (l.length + 1) c9) k Hlk.out)
                have HC4 : Hid (AskC b.l (fun j => if j = n then some (.slice a9 (l.length + 1) c9, l ++ [(k : Int)]) else F j) k) := Lib.hid fun p hp x hx s hs ht => (HC.out p hp x hx s hs ht).push Hr2.out _ _
                have HP4 : Hid (AskP (fun j => if j = n then some (.slice a9 (l.length + 1) c9, l ++ [(k : Int)]) else F j) k (rt.take (j + 1))) := Lib.hid fun s hs ht => by
                  rw [Htk.out, List.mem_append] at hs
                  rcases hs with hs | hs
                  · exact (HP.out s hs ht).push Hr2.out _ _
                  · rw [List.mem_singleton.1 hs]; exact AskG.new _ _
                have Hs3 : Hid (w9.cell? ⟨wz.heap.size, 1, none⟩ = some (.int .i64 n)) := Lib.hid ((cell_eq (p := ⟨wz.heap.size, 1, none⟩) (hkept wz.heap.size Hz8.out Hoff.out)).trans Hsc.out)
                have Hsa : Hid ((w8.alloc (.cells #[.int .i64 (k : Int)] 3)).cell? ⟨wz.heap.size, 1, none⟩ = some (.int .i64 n)) := Lib.hid ((((Below.refl w8.heap.size w8).alloc (Nat.le_refl _) _).cell (p := ⟨wz.heap.size, 1, none⟩) Hz8.out).trans Hsc.out)
                have hsc : w8.drew.cell? ⟨wz.heap.size, 1, none⟩ = some (.int .i64 n) := Hsc.out
                clear ha4 hkept
                go_upto_region 10 with fail
                refine wp_region_ord 7 [(0, true), (1, true), (2, true), (3, true), (4, true), (5, false), (6, false), (7, false)] (fun w' => w'.cell? ⟨wz.heap.size, 1, none⟩ = some (.int .i64 n)) (by kernel_rfl) (by kernel_rfl) hsc ?_
                simp only [ordL, List.getElem?_toArray, List.getElem?_cons_succ, List.getElem?_cons_zero]
                clear hsc
                iterate 5 (
                  refine ordW_read (v := ?_) (by rfl) ?_ (fun _ _ _ h => h) ?_
                  rotate_left
                  focus (intro w' s0; go_simp; (try with_reducible rfl); done)
                  try simp only [Act.put, List.setIfInBounds_toArray, List.set_cons_zero, List.set_cons_succ])
                refine ordW_do (by rfl) (fun K' HK => ?_)
                go_simp
                refine HK.out _ _ (fun _ => Hsa.out) ?_
                clear HK K'
                try simp only [Act.put, List.setIfInBounds_toArray, List.set_cons_zero, List.set_cons_succ]
                refine ordW_do (by rfl) (fun K' HK => ?_)
                go_simp
                refine HK.out _ _ (fun _ => Hs3.out) ?_
                clear HK K'
                try simp only [Act.put, List.setIfInBounds_toArray, List.set_cons_zero, List.set_cons_succ]
                refine ordW_do (by rfl) (fun K' HK => ?_)
                go_simp
                refine HK.out _ _ (fun h => absurd rfl h) (ordW_nil ?_)
                clear HK K'
                go_wp2_with fail
                go_roundw
                case rel => exact ⟨j + 1, _, cc + 1, Hjn.out, by go_num, by omega, HA4, HS4, HC4, HP4⟩
                case measure => have := Hjn.out; simp [intOf]; omega
        · obtain rfl : j = rn := by omega
          have HCn : Hid (AskC b.l F (k + 1)) := Lib.hid fun p hp x' hx' s hs ht => by
            rcases Nat.lt_or_ge p k with h1 | h1
            · exact HC.out p h1 x' hx' s hs ht
            · obtain rfl : p = k := by omega
              rw [Hat.out] at hx'
              cases hx'
              have := HP.out
              rw [Hrn.out, List.take_length] at this
              exact this s hs ht
          have Hcn : Hid (cc ≤ (k + 1) * 500) := Lib.hid (by have := Hcj.out; omega)
          have hkl := Hlt.out
          go_wp2_with fail
          go_roundw
          case rel => exact ⟨k + 1, F, cc, Hlt.out, by go_num, Hcn, HA, HS, HCn⟩
          case measure => simp [intOf]; omega
    · obtain rfl : k = ll := by omega
      have HC' : Hid (AskC b.l F0 b.l.length) := Lib.hid (by rw [← Hll.out]; exact HC.out)
      go_wp2_with fail
      go_ret
      exact ⟨w1, cc0, F0, rfl, Hbel.out, HA.out, HS.out, HC'.out⟩
end Go.Proofs.Ytimgnbacgdmiiaa
