/-
  The statements' few of lists of lists (layer 18).
-/
import Derived.Test.YtbmaappambmhoaaTriB
import Derived.Test.YtbmaappambmhoaaPackJ
namespace Go.Proofs.Ytbmaappambmhoaa
open Go.RowKit PK
set_option linter.unusedVariables false
attribute [local go_sem ↓] append_appM

theorem info_strs : (Try.prog.info? 22).map (fun i => (i.zero, i.size, i.bytes)) = some (some (.slice none 0 0), 1, 24) := by kernel_rfl
/-- A row of rows that is being made. -/
structure FInv (w wr : World) (o : Value) (F : List (List Tx)) : Prop where
  own : ∃ vs : List Value, wr.ownsRow w.heap.size 22 1 o F.length vs ∧ ∀ i (hi : i < F.length), ∃ u, vs[i]? = some u ∧ Row wr wr.heap.size 1 u F[i].length (svt F[i]) ∧ ∀ g, u.ownBlock = some g → g < wr.heap.size ∧ o.ownBlock ≠ some g
  bel : Below w.heap.size w wr
theorem FInv.start (w : World) : FInv w (w.alloc (.cells #[] 22)) (.slice (some ⟨w.heap.size, 0, none⟩) 0 0) [] :=
  ⟨⟨[], World.ownsRow_made (base := w.heap.size) (e := 22) (size := 1) w #[] 0 (Nat.le_refl _) (Nat.zero_le _) rfl, fun i hi => by simp at hi⟩, (Below.refl _ w).alloc (Nat.le_refl _) _⟩
theorem FInv.val {w wr : World} {o : Value} {F : List (List Tx)} (h : FInv w wr o F) : ∃ ao c, o = .slice ao F.length c ∧ F.length ≤ c ∧ c ≤ maxLen := by
  obtain ⟨vs, h1, _⟩ := h.own; exact owns_valP h1
theorem FInv.rr {w wr : World} {o : Value} {F : List (List Tx)} (h : FInv w wr o F) : RR wr wr.heap.size o F := by
  obtain ⟨vs, h1, h2⟩ := h.own
  exact ⟨vs, Row.of_owns h1, fun i hi => by obtain ⟨u, h3, h4, _⟩ := h2 i hi; exact ⟨u, h3, h4⟩⟩
theorem FInv.push {w wo wx : World} {o x : Value} {F : List (List Tx)} {l : List Tx} (h : FInv w wo o F) (hb : Below wo.heap.size wo wx) (hx : wx.ownsRow wo.heap.size 9 1 x l.length (svt l)) (hm : F.length + 1 ≤ 1000) (h1x : x.oneCell' = true) :
    ∃ ao c w3, Sem.run Try.prog (appM #[37, 37] 37 #[o, .slice (some ⟨wx.heap.size, 0, none⟩) 1 1]) (wx.alloc (.cells #[x] 22)) = .ok (.slice ao (F.length + 1) c) w3 ∧ FInv w w3 (.slice ao (F.length + 1) c) (F ++ [l]) ∧ F.length + 1 ≤ c ∧ c ≤ maxLen := by
  obtain ⟨i0, hi, hz0, hz1, hz2⟩ := info_parts info_strs
  obtain ⟨vs, own, rows⟩ := h.own
  have hsz := hb.size
  have hsw := h.bel.size
  have own2 := (owns_belowP own hb).alloc (.cells #[x] 22)
  have hr : Row (wx.alloc (.cells #[x] 22)) (wx.heap.size + 1) 1 (.slice (some ⟨wx.heap.size, 0, none⟩) 1 1) 1 [x] := row_cellsB wx [x] 1 1 1 _ rfl (Nat.le_refl _) (by unfold maxLen; omega)
  obtain ⟨v', w', h1, h2, h3, h4⟩ := run_append_row (P := Try.prog) (wx.alloc (.cells #[x] 22)) 37 37 w.heap.size 22 i0 (.slice none 0 0) 1 24 Try.underlying37 hi hz0 hz1 hz2 rfl (by decide) o F.length vs own2 (wx.heap.size + 1) _ 1 [x] hr (by intro u hu; rw [List.mem_singleton.1 hu]; exact h1x) (by unfold maxLen; omega) (by omega) (by simp; omega)
  obtain ⟨ao, c, rfl, hc1, hc2⟩ := owns_valP h2
  rw [World.size_alloc] at h4
  have hs3 := h3.size
  rw [World.size_alloc] at hs3
  have holt := fun g hg => (own.lt g hg).2
  refine ⟨ao, c, w', h1, ⟨⟨vs ++ [x], by rw [List.length_append]; exact h2, fun i hi => ?_⟩, ?_⟩, hc1, hc2⟩
  · have hvl : vs.length = F.length := by have := own.1; omega
    rcases Nat.lt_or_ge i F.length with hlt | hge
    · obtain ⟨u, hu, hru, hou⟩ := rows i hlt
      rw [List.getElem_append_left hlt]
      refine ⟨u, by rw [List.getElem?_append_left (by omega)]; exact hu, rowKept (rowKept (rowKept hru (grown_of_below hb) fun g _ => by simp) (World.grownBy_alloc wx _ none) fun g _ => by simp) h3 fun g hg e => (hou g hg).2 e.symm, fun g hg => ⟨by have := (hou g hg).1; omega, ?_⟩⟩
      rcases h4 with e | e
      · rw [e]; exact (hou g hg).2
      · rw [e]; intro e2; injection e2 with e2; have := (hou g hg).1; omega
    · have hil : i = F.length := by simp at hi; omega
      subst hil
      rw [List.getElem_append_right (Nat.le_refl _)]
      simp only [Nat.sub_self, List.getElem_cons_zero]
      refine ⟨x, by rw [List.getElem?_append_right (by omega)]; simp [hvl], rowKept (rowKept (Row.of_owns hx) (World.grownBy_alloc wx _ none) fun g _ => by simp) h3 fun g hg e => ?_, fun g hg => ⟨by have := (hx.lt g hg).2; omega, ?_⟩⟩
      · have h5 := (hx.lt g hg).1
        have h6 := holt g e.symm
        omega
      · have h5 := (hx.lt g hg)
        rcases h4 with e | e
        · rw [e]; intro e2; have := holt g e2; omega
        · rw [e]; intro e2; injection e2 with e2; omega
  · exact ((h.bel.trans (hb.mono hsw)).alloc (by omega) _).grown h3 (by simp; omega) (fun k hk => (own.lt k hk).1)

def few18L (l : List Tx) : List Tx := (l.take 12).map (·.take 5)
def few18S (S : List (List Tx)) : List (List Tx) := (S.take 5).map few18L
theorem few18L_succ (l : List Tx) (k : Nat) (hk : k < l.length) : ((l.take k).map (·.take 5)) ++ [l[k].take 5] = (l.take (k + 1)).map (·.take 5) := by
  rw [List.take_succ_eq_append_getElem hk, List.map_append]; rfl
theorem few18S_succ (S : List (List Tx)) (k : Nat) (hk : k < S.length) : ((S.take k).map few18L) ++ [few18L S[k]] = (S.take (k + 1)).map few18L := by
  rw [List.take_succ_eq_append_getElem hk, List.map_append]; rfl

set_option maxHeartbeats 4000000 in
set_option maxRecDepth 100000 in
theorem few18_any (v : Value) (S : List (List Tx)) (w : World) (r : RR w w.heap.size v S) (hx : ∀ l ∈ S, ∀ x ∈ l, x.length ≤ maxLen) :
    Calls Try.prog 27 #[v] w fun e w' => ∃ v', e = .returned v' ∧ RR w' w'.heap.size v' (few18S S) ∧ Below w.heap.size w w' := by
  obtain ⟨ao, c, rfl, hc1, hc2⟩ := r.val
  unfold maxLen at hc2
  have hl63 : S.length ≤ 9223372036854775807 := by omega
  have R := Lib.hid r; have Hx := Lib.hid hx
  clear r hx
  have HF0 := Lib.hid (FInv.start w)
  go_enter Try.func27, Try.ntmps27
  go_wp2_with fail
  go_loopw [3, 4] (fun o i wr => ∃ k : Nat, k ≤ S.length ∧ k ≤ 5 ∧ i = .int .i64 k ∧ Hid (FInv w wr o ((S.take k).map few18L))) (fun _ i _ => S.length - (intOf i).toNat)
  case atStart => exact ⟨0, Nat.zero_le _, Nat.zero_le _, rfl, HF0⟩
  case round =>
    obtain ⟨k, hk, hk5, rfl, HF⟩ := hrel
    obtain ⟨oo, oc, rfl, ho1, ho2⟩ := HF.out.val
    have hFl : ((S.take k).map few18L).length = k := by rw [List.length_map, List.length_take]; omega
    rw [hFl] at HF ho1
    rw [hFl]
    have HFl := Lib.hid hFl
    clear hFl
    unfold maxLen at ho2
    by_cases hlt : k < S.length ∧ k < 5
    · obtain ⟨hlt, h5⟩ := hlt
      have hk0 : (k : Int) < (S.length : Int) := by omega
      have hk1 : (0 : Int) ≤ (k : Int) := by omega
      have hk2 : (k : Int) < 5 := by omega
      have Hxk := Lib.hid (Hx.out _ (List.getElem_mem hlt))
      have Hst := Lib.hid (few18S_succ S k hlt)
      have Hget := Lib.hid (fun (W : World) (h : Below w.heap.size w W) => (R.out.below h).get k hlt)
      have hin0 := World.ownsRow_made (base := wr.heap.size) (e := 9) (size := 1) wr #[] 0 (Nat.le_refl _) (Nat.zero_le _) rfl
      have Hin0 := Lib.hid hin0
      clear hin0
      have hfl : few18L S[k] = (S[k].take 12).map (·.take 5) := rfl
      have Hfl := Lib.hid hfl
      clear hfl
      generalize few18L S[k] = fl at *
      generalize S[k] = l at *
      obtain ⟨wo, rfl⟩ : ∃ wo : World, wo = wr := ⟨_, rfl⟩
      go_wp2_with fail
      go_loopw [5, 6] (fun x i wx => ∃ j : Nat, j ≤ l.length ∧ j ≤ 12 ∧ i = .int .i64 j ∧ Hid (wx.ownsRow wo.heap.size 9 1 x j (svt ((l.take j).map (·.take 5)))) ∧ Hid (Below wo.heap.size wo wx)) (fun _ i _ => l.length - (intOf i).toNat)
      case atStart => exact ⟨0, Nat.zero_le _, Nat.zero_le _, rfl, Hin0, Lib.hid ((Below.refl _ wo).alloc (Nat.le_refl _) _)⟩
      case round =>
        obtain ⟨j, hj, hj12, rfl, Hown, Hb⟩ := hrel
        obtain ⟨po, pc, rfl, hpc, hpc'⟩ := owns_valP Hown.out
        unfold maxLen at hpc'
        obtain ⟨b1, o1, a1, c1, hao, hb1, c10, rk, hk3, hk4⟩ := Hget.out _ (HF.out.bel.trans (Hb.out.mono HF.out.bel.size))
        subst hao
        unfold maxLen at hk4
        have hws : w.heap.size ≤ wr.heap.size := Nat.le_trans HF.out.bel.size Hb.out.size
        have hb1' : b1 < wr.heap.size := by omega
        have hll : l.length ≤ 9223372036854775807 := by omega
        by_cases hjj : j < l.length ∧ j < 12
        · obtain ⟨hjl, hj12'⟩ := hjj
          obtain ⟨b2, o2, rfl, hb2, _⟩ := rk.at (by rw [svt_length]; omega)
          have c20 := rk.cell j _ (svt_at l j hjl)
          have hj0 : (j : Int) < (l.length : Int) := by omega
          have hj1 : (0 : Int) ≤ (j : Int) := by omega
          have hj2 : (j : Int) < 12 := by omega
          have hb2' : b2 < wr.heap.size := by omega
          have hxl := Hxk.out _ (List.getElem_mem hjl)
          unfold maxLen at hxl
          have Hn := Lib.hid (few18L_succ l j hjl)
          clear rk hws
          generalize l[j] = x at *
          have hsz := tx_size x
          have hex := tx_cut x 5
          obtain ⟨s, hsx⟩ : ∃ s : ByteArray, s = ⟨x.toArray⟩ := ⟨_, rfl⟩
          rw [← hsx] at c20 hsz hex
          have hs63 : s.size ≤ 9223372036854775807 := by omega
          have Hsx := Lib.hid hsx; have Hex := Lib.hid hex; have Hsz := Lib.hid hsz
          clear hsx hex hsz hxl
          by_cases h10 : s.size ≤ 5
          · obtain ⟨vo, vc, w2, happ, hown2, hbel2, hv1, hv2⟩ := pushT wr wo.heap.size j (.slice po j pc) _ (x.take 5) Hb.out.size (by simp; omega) Hown.out (by omega) s (by rw [List.take_of_length_le (by have := Hsz.out; omega)]; exact Hsx.out)
            have Hown2 : Hid (w2.ownsRow wo.heap.size 9 1 (.slice vo (j + 1) vc) (j + 1) (svt ((l.take (j + 1)).map (·.take 5)))) := Lib.hid (by have h := hown2; rw [Hn.out] at h; exact h)
            have Hbel2 := Lib.hid (Hb.out.trans hbel2)
            have cc : (wr.alloc (.cells #[.string s] 9)).cell? ⟨b2, o2 + j, none⟩ = some (.string s) := (((Below.refl _ wr).alloc (Nat.le_refl _) _).cell hb2').trans c20
            have cd : (wr.alloc (.cells #[.string s] 9)).cell? ⟨b1, o1 + k, none⟩ = some (.slice (some ⟨b2, o2, none⟩) l.length c1) := (((Below.refl _ wr).alloc (Nat.le_refl _) _).cell hb1').trans c10
            have hmin : min (s.size : Int) 5 = (s.size : Int) := by omega
            unfold maxLen at hv2
            clear hown2 hbel2
            go_wp2_with fail
            go_region
            all_goals
              go_wp2_with fail
              go_roundw
              case rel => exact ⟨j + 1, hjl, by omega, by go_num, Hown2, Hbel2⟩
              case measure => simp [intOf]; omega
          · obtain ⟨vo, vc, w2, happ, hown2, hbel2, hv1, hv2⟩ := pushT wr wo.heap.size j (.slice po j pc) _ (x.take 5) Hb.out.size (by simp; omega) Hown.out (by omega) (s.extract 0 5) Hex.out
            have Hown2 : Hid (w2.ownsRow wo.heap.size 9 1 (.slice vo (j + 1) vc) (j + 1) (svt ((l.take (j + 1)).map (·.take 5)))) := Lib.hid (by have h := hown2; rw [Hn.out] at h; exact h)
            have Hbel2 := Lib.hid (Hb.out.trans hbel2)
            have cc : (wr.alloc (.cells #[.string (s.extract 0 5)] 9)).cell? ⟨b2, o2 + j, none⟩ = some (.string s) := (((Below.refl _ wr).alloc (Nat.le_refl _) _).cell hb2').trans c20
            have cd : (wr.alloc (.cells #[.string (s.extract 0 5)] 9)).cell? ⟨b1, o1 + k, none⟩ = some (.slice (some ⟨b2, o2, none⟩) l.length c1) := (((Below.refl _ wr).alloc (Nat.le_refl _) _).cell hb1').trans c10
            have hmin : min (s.size : Int) 5 = 5 := by omega
            have hge : (5 : Int) ≤ (s.size : Int) := by omega
            unfold maxLen at hv2
            clear hown2 hbel2
            go_wp2_with fail
            go_region
            all_goals
              go_wp2_with fail
              go_roundw
              case rel => exact ⟨j + 1, hjl, by omega, by go_num, Hown2, Hbel2⟩
              case measure => simp [intOf]; omega
        · have hfl : fl = (l.take j).map (·.take 5) := by
            rw [Hfl.out]
            congr 1
            rcases Nat.lt_or_ge j l.length with h1 | h1
            · obtain rfl : j = 12 := by omega
              rfl
            · rw [List.take_of_length_le h1, List.take_of_length_le (by omega)]
          have hfj : fl.length = j := by rw [hfl]; simp; omega
          obtain ⟨ap, cp, w3, happ, hF3, hcp, hcp'⟩ := HF.out.push (l := fl) (x := .slice po j pc) Hb.out (by rw [hfj, hfl]; exact Hown.out) (by rw [HFl.out]; omega) rfl
          rw [HFl.out] at happ hF3 hcp
          rw [Hst.out] at hF3
          have HF3 := Lib.hid hF3
          unfold maxLen at hcp'
          have Hfj := Lib.hid hfj
          clear hF3 hfl hfj rk hws
          rcases Nat.lt_or_ge j l.length with h1 | h1
          · have h2 : ¬ j < 12 := fun h => hjj ⟨h1, h⟩
            clear hjj
            have h5' : decide ((j : Int) < 12) = false := decide_eq_false (by omega)
            have h6' : decide ((j : Int) < (l.length : Int)) = true := decide_eq_true (by omega)
            go_wp2_with fail
            go_roundw
            case rel => exact ⟨k + 1, hlt, by omega, by go_num, HF3⟩
            case measure => simp [intOf]; omega
          · have h6' : decide ((j : Int) < (l.length : Int)) = false := decide_eq_false (by omega)
            clear hjj
            go_wp2_with fail
            go_roundw
            case rel => exact ⟨k + 1, hlt, by omega, by go_num, HF3⟩
            case measure => simp [intOf]; omega
    · have hk' : few18S S = (S.take k).map few18L := by
        unfold few18S
        congr 1
        rcases Nat.lt_or_ge k S.length with h1 | h1
        · obtain rfl : k = 5 := by omega
          rfl
        · rw [List.take_of_length_le h1, List.take_of_length_le (by omega)]
      have Hk := Lib.hid hk'
      have HRR : Hid (RR wr wr.heap.size (.slice oo k oc) (few18S S)) := Lib.hid (by rw [hk']; exact HF.out.rr)
      clear hk'
      rcases Nat.lt_or_ge k S.length with h1 | h1
      · have h2 : ¬ k < 5 := fun h => hlt ⟨h1, h⟩
        clear hlt
        have h5 : decide ((k : Int) < 5) = false := decide_eq_false (by omega)
        have h6 : decide ((k : Int) < (S.length : Int)) = true := decide_eq_true (by omega)
        go_wp2_with fail
        go_ret
        exact ⟨_, rfl, HRR.out, HF.out.bel⟩
      · have h6 : decide ((k : Int) < (S.length : Int)) = false := decide_eq_false (by omega)
        clear hlt
        go_wp2_with fail
        go_ret
        exact ⟨_, rfl, HRR.out, HF.out.bel⟩
end Go.Proofs.Ytbmaappambmhoaa
