/-
  (trie.Trie).Sets: its inner function, whole.
-/
import Derived.Test.YtbmaappambmhoaaTrjB
import Derived.Test.YtbmaappambmhoaaTriW
namespace Go.Proofs.Ytbmaappambmhoaa
open Go.RowKit PK
set_option linter.unusedVariables false
set_option linter.unusedSimpArgs false
attribute [local go_sem ↓] append_appM

theorem ents_small (n : Nat) : ∀ (p : Tx) (T : Tr n), Up n T → ∀ e ∈ ents n p T, e.2 < 20000 := by
  induction n with
  | zero => intro p T hu e he; simp only [ents, List.mem_singleton] at he; subst he; exact hu
  | succ n ih =>
    intro p T hu e he
    obtain ⟨q, hq, he⟩ := List.mem_flatMap.1 he
    exact ih _ _ (hu.2 q hq).1 e he
theorem addAll_len (E : List (Tx × Nat)) : ∀ (C : List (List Tx)), C.length ≤ 20000 → (∀ e ∈ E, e.2 < 20000) → (addAll C E).length ≤ 20000 := by
  induction E with
  | nil => intro C h _; exact h
  | cons e E ih =>
    intro C h hE
    exact ih (addE C e) (by rw [addE_len]; have := hE e List.mem_cons_self; omega) fun x hx => hE x (List.mem_cons_of_mem _ hx)
theorem addE_rows (C : List (List Tx)) (e : Tx × Nat) (m : Nat) (h : ∀ l ∈ C, l.length ≤ m) : ∀ l ∈ addE C e, l.length ≤ m + 1 := by
  intro l hl
  unfold addE at hl
  obtain ⟨j, hj, rfl⟩ := List.getElem_of_mem hl
  rw [List.getElem_modify]
  have hx : ∀ z ∈ extE C e.2, z.length ≤ m := fun z hz => by
    unfold extE at hz
    rcases List.mem_append.1 hz with hz | hz
    · exact h z hz
    · rw [(List.mem_replicate.1 hz).2]; simp
  have hj' : j < (extE C e.2).length := by rw [List.length_modify] at hj; exact hj
  have := hx _ (List.getElem_mem hj')
  split
  · rw [List.length_append]; simp; omega
  · omega
theorem addAll_rows (E : List (Tx × Nat)) : ∀ (C : List (List Tx)) (m : Nat), (∀ l ∈ C, l.length ≤ m) → ∀ l ∈ addAll C E, l.length ≤ m + E.length := by
  induction E with
  | nil => intro C m h l hl; exact h l hl
  | cons e E ih =>
    intro C m h l hl
    have := ih (addE C e) (m + 1) (addE_rows C e m h) l hl
    rw [List.length_cons]; omega
theorem flatMap_take {α β : Type} (l : List α) (f : α → List β) (j : Nat) (hj : j < l.length) : (l.take (j + 1)).flatMap f = (l.take j).flatMap f ++ f l[j] := by
  rw [List.take_succ_eq_append_getElem hj, List.flatMap_append]; simp
theorem flatMap_le {α β : Type} (l : List α) (f : α → List β) (j : Nat) (hj : j < l.length) : ((l.take j).flatMap f).length + (f l[j]).length ≤ (l.flatMap f).length := by
  have h := congrArg (fun x => (x.flatMap f).length) (take_split l j hj)
  simp only [List.flatMap_append, List.flatMap_cons, List.length_append] at h
  omega

set_option maxHeartbeats 4000000 in
set_option maxRecDepth 100000 in
theorem gather_any (B n bT bS bF : Nat) (K : Int) (v : Value) (N : List Nd) (hN : N.length ≤ 20000) (d : Nat) : ∀ (i : Nat) (p : Tx) (T : Tr d) (w : World) (vo : Value) (X : List (Value × List Tx)) (m : Nat), SubN N i d T → Up d T → GEnv w B n bT bS bF K v N → SBox w n bS vo X → X.length ≤ 20000 → (∀ y ∈ X, y.2.length ≤ m) → m + (ents d p T).length ≤ 100000 → p.length + d ≤ 4 →
    Calls Try.prog 58 #[.int .i64 i, .string ⟨p.toArray⟩, .pointer (some ⟨bT, 0, none⟩), .pointer (some ⟨bS, 0, none⟩), .pointer (some ⟨bF, 0, none⟩)] w (GPost n bS w vo X (ents d p T)) := by
  induction d with
  | zero =>
    intro i p T w vo X m hsn hu hg hs hX hr hm hp
    obtain ⟨x, hx⟩ : ∃ x : Nat, x = T := ⟨T, rfl⟩
    subst hx
    exact gather_leaf B n bT bS bF K v N i x p w vo X hu (sub_leaf hsn) hN hg hs hX fun y hy => by have := hr y hy; omega
  | succ d ih =>
    intro i p T w vo X m hsn hu h hs hX hr hm hp
    obtain ⟨ks, hks⟩ : ∃ ks : List (UInt8 × Tr d), ks = T := ⟨T, rfl⟩
    subst hks
    have hsl := sub_le hsn
    have hkl := ups_len d ks
    have hts : tsize (d + 1) ks = 1 + sizes (tsize d) ks := rfl
    have hn := sub_node hsn
    obtain ⟨hi, hn2⟩ := List.getElem?_eq_some_iff.1 hn
    obtain ⟨ao, c, rfl, hc1, hc2⟩ := h.nr.val
    obtain ⟨b, off, a1, c1, a2, c2, rfl, hb, e0, e1, e2, r1, r2, k1, k2, k3, k4⟩ := h.nr.get i hi
    rw [hn2] at e0 e1 e2 r1 r2
    simp only [starts_len, tokL_len] at e0 e1 e2 r1 r2
    have t1 := h.t1
    have hii : (i : Int) < (N.length : Int) := by omega
    have hi0 : (0 : Int) ≤ (i : Int) := by omega
    obtain ⟨lt, hlt⟩ : ∃ lt, lt = ks.length := ⟨_, rfl⟩
    rw [← hlt] at e1 e2 r1 r2
    have Hs := Lib.hid hs; have HX := Lib.hid hX; have Hr := Lib.hid hr; have Hm := Lib.hid hm; have Hpl := Lib.hid hp; have Hsn := Lib.hid hsn; have Hu := Lib.hid hu; have Hg := Lib.hid h; have Hlt := Lib.hid hlt
    have Hr1 := Lib.hid r1; have Hr2 := Lib.hid r2
    have Hih : Hid (∀ (i : Nat) (p : Tx) (T : Tr d) (w : World) (vo : Value) (X : List (Value × List Tx)) (m : Nat), SubN N i d T → Up d T → GEnv w B n bT bS bF K (.slice (some ⟨b, off, none⟩) N.length c) N → SBox w n bS vo X → X.length ≤ 20000 → (∀ y ∈ X, y.2.length ≤ m) → m + (ents d p T).length ≤ 100000 → p.length + d ≤ 4 →
      Calls Try.prog 58 #[.int .i64 i, .string ⟨p.toArray⟩, .pointer (some ⟨bT, 0, none⟩), .pointer (some ⟨bS, 0, none⟩), .pointer (some ⟨bF, 0, none⟩)] w (GPost n bS w vo X (ents d p T))) := Lib.hid ih
    have hps := tx_size p
    obtain ⟨s, hsp⟩ : ∃ s : ByteArray, s = ⟨p.toArray⟩ := ⟨_, rfl⟩
    rw [← hsp] at hps ⊢
    have Hsp := Lib.hid hsp
    have Hss : Hid (s.size ≤ 4) := Lib.hid (by omega)
    have hn0 := cell_new w #[.int .i64 (-1), .slice a1 lt c1, .slice a2 lt c2] 59 0 _ rfl
    have hn1 := cell_new w #[.int .i64 (-1), .slice a1 lt c1, .slice a2 lt c2] 59 1 _ rfl
    have hn2' := cell_new w #[.int .i64 (-1), .slice a1 lt c1, .slice a2 lt c2] 59 2 _ rfl
    have hbw : Below w.heap.size w (w.alloc (.cells #[.int .i64 (-1), .slice a1 lt c1, .slice a2 lt c2] 59)) := (Below.refl _ w).alloc (Nat.le_refl _) _
    have Hs1 := Lib.hid (hs.keep hbw)
    have hszw : (w.alloc (.cells #[.int .i64 (-1), .slice a1 lt c1, .slice a2 lt c2] 59)).heap.size = w.heap.size + 1 := by simp
    have Hks0 : Hid (KS bS w (w.alloc (.cells #[.int .i64 (-1), .slice a1 lt c1, .slice a2 lt c2] 59)) vo X vo X) := Lib.hid (KS.of_below vo X hbw)
    have hfoot : ∀ u ∈ vo :: X.map (·.1), u.ownBlock ≠ some w.heap.size := fun u hu e => by have := (hs.rows.lt hu e).2; omega
    have hbSw : bS ≠ w.heap.size := by have := hs.lo; have := hs.hi; omega
    have HK : Hid (∀ W vo' X', KS bS (w.alloc (.cells #[.int .i64 (-1), .slice a1 lt c1, .slice a2 lt c2] 59)) W vo X vo' X' → W.cell? ⟨w.heap.size, 1, none⟩ = some (.slice a1 lt c1) ∧ W.cell? ⟨w.heap.size, 2, none⟩ = some (.slice a2 lt c2) ∧ w.heap.size < W.heap.size ∧ KB n bS w W ∧ W.cell? ⟨w.heap.size, 0, none⟩ = some (.int .i64 (-1))) := Lib.hid fun W vo' X' hW => by
      have h1 := hW.block w.heap.size (by rw [hszw]; omega) (Ne.symm hbSw) hfoot
      exact ⟨(cell_eq (p := ⟨w.heap.size, 1, none⟩) h1).trans hn1, (cell_eq (p := ⟨w.heap.size, 2, none⟩) h1).trans hn2', by have := hW.size; rw [hszw] at this; omega, ((KS.of_below vo X hbw).trans hW).kb hs.rows hs.hi, (cell_eq (p := ⟨w.heap.size, 0, none⟩) h1).trans hn0⟩
    obtain ⟨k0, g0, _⟩ := (hs.keep hbw).cell
    obtain ⟨vao, vc, rfl, _, _⟩ := owns_valP hs.rows.out
    have hXn : ¬ ((X.length : Int) ≤ -1) := by omega
    have hXn2 : decide ((X.length : Int) ≤ -1) = false := decide_eq_false hXn
    have hX63 : X.length ≤ 9223372036854775807 := by omega
    have hlt20 : lt ≤ 20000 := by omega
    have Hk2 := Lib.hid (And.intro k2 k4)
    clear hn hn2 h hs hX hr hm hp hsp r1 r2 k1 k2 k3 k4 hc1 hc2 hb hn0 hn1 hn2' hbw hszw hfoot hbSw hps hsl hkl hts hsn hu ih hlt
    go_enter Try.func58, Try.ntmps58
    go_wp2_with fail
    generalize w.alloc (.cells #[.int .i64 (-1), .slice a1 lt c1, .slice a2 lt c2] 59) = w1 at *
    obtain ⟨l1, l2, l3, l4, l5⟩ := HK.out w1 _ _ (KS.refl _ _ _ _)
    clear l4
    go_loopw [15] (fun _ wr => wr = w1) (fun _ _ => 0)
    case atStart => rfl
    case round =>
      subst hrel
      obtain ⟨w1, hw1⟩ : ∃ w1, w1 = wr := ⟨_, rfl⟩
      subst hw1
      go_wp2_with fail
      clear hXn hXn2 k0 g0 t1 e0 e1 e2 hii hi0 hX63 hi
      go_loopw [41] (fun kx wy => ∃ (j : Nat) (vr : Value) (Xr : List (Value × List Tx)), j ≤ lt ∧ kx = .int .i64 j ∧ Hid (SBox wy n bS vr Xr) ∧ Hid (Xr.map (·.2) = addAll (X.map (·.2)) ((ks.take j).flatMap fun q => ents d (p ++ [q.1]) q.2)) ∧ Hid (KS bS w1 wy (.slice vao X.length vc) X vr Xr)) (fun kx _ => lt - (intOf kx).toNat)
      case atStart => exact ⟨0, _, _, Nat.zero_le _, rfl, Hs1, Lib.hid (by simp [addAll]), Lib.hid (KS.refl _ _ _ _)⟩
      case round =>
        clear l1 l2 l3 l5
        obtain ⟨j, vr, Xr, hj, rfl, HS, HC, HKr⟩ := hrel
        obtain ⟨l1, l2, l3, l4, l5⟩ := HK.out wr vr Xr HKr.out
        have Hl4 := Lib.hid l4
        have HG := Lib.hid (Hg.out.kb l4)
        clear l4 l5
        by_cases hjl : j < lt
        · have hjk : j < ks.length := by have := Hlt.out; omega
          have hsplit := take_split ks j hjk
          have hsub := sub_kid Hsn.out (ks.take j) (ks.drop (j + 1)) ks[j] hsplit
          have hupk := (Hu.out.2 ks[j] (List.getElem_mem hjk)).1
          have hle := flatMap_le ks (fun q => ents d (p ++ [q.1]) q.2) j hjk
          have htk := flatMap_take ks (fun q => ents d (p ++ [q.1]) q.2) j hjk
          have hmE : m + (ks.flatMap fun q => ents d (p ++ [q.1]) q.2).length ≤ 100000 := Hm.out
          have hsub_le := sub_le hsub
          have hsmall : ∀ e ∈ ((ks.take j).flatMap fun q => ents d (p ++ [q.1]) q.2), e.2 < 20000 := fun e he => by
            obtain ⟨q, hq, he⟩ := List.mem_flatMap.1 he
            exact ents_small d _ _ (Hu.out.2 q (List.mem_of_mem_take hq)).1 e he
          have hXl : Xr.length ≤ 20000 := by
            have h1 := addAll_len ((ks.take j).flatMap fun q => ents d (p ++ [q.1]) q.2) (X.map (·.2)) (by rw [List.length_map]; exact HX.out) hsmall
            rw [← HC.out, List.length_map] at h1; exact h1
          have hXr : ∀ y ∈ Xr, y.2.length ≤ m + ((ks.take j).flatMap fun q => ents d (p ++ [q.1]) q.2).length := fun y hy => by
            have h1 := addAll_rows ((ks.take j).flatMap fun q => ents d (p ++ [q.1]) q.2) (X.map (·.2)) m (fun l hl => by obtain ⟨z, hz, rfl⟩ := List.mem_map.1 hl; exact Hr.out z hz)
            rw [← HC.out] at h1
            exact h1 _ (List.mem_map.2 ⟨y, hy, rfl⟩)
          have hr1 := Hr1.out.below (Hl4.out.below Hg.out.hB Hg.out.hn)
          have hr2 := Hr2.out.below (Hl4.out.below Hg.out.hB Hg.out.hn)
          obtain ⟨b1, s1, rfl, hbb1, _⟩ := hr1.at (by rw [ints_length, tokL_len]; omega)
          obtain ⟨b2, s2, rfl, hbb2, _⟩ := hr2.at (by rw [ints_length, starts_len]; omega)
          have t1 := hr1.cell j _ (ints_at (tokL ks) j (by rw [tokL_len]; exact hjk))
          have t2 := hr2.cell j _ (ints_at (starts (tsize d) (i + 1) ks) j (by rw [starts_len]; exact hjk))
          have hk2 : (starts (tsize d) (i + 1) ks)[j]'(by rw [starts_len]; exact hjk) = ((i + 1 + sizes (tsize d) (ks.take j) : Nat) : Int) := by
            have h := starts_at (tsize d) ks (i + 1) j hjk
            rw [List.getElem?_eq_getElem (by rw [starts_len]; exact hjk)] at h
            exact Option.some.inj h
          have ht2 : (tokL ks)[j]'(by rw [tokL_len]; exact hjk) = ((ks[j].1.toNat : Nat) : Int) := by simp [tokL]
          rw [hk2] at t2
          rw [ht2] at t1
          have hwr := HS.out.hi
          have hbl1 : b1 < wr.heap.size := by have := Hg.out.hn; omega
          have hbl2 : b2 < wr.heap.size := by have := Hg.out.hn; omega
          have hbl3 : bF < wr.heap.size := by have := Hg.out.fl.1; omega
          have o3 := HG.out.f0
          generalize hnx : i + 1 + sizes (tsize d) (ks.take j) = nx at *
          have Hsub := Lib.hid hsub; have Hupk := Lib.hid hupk
          have Hbd := Lib.hid (And.intro hle (And.intro hmE (And.intro hXl (And.intro hXr hsub_le))))
          have Htk := Lib.hid htk
          clear hsub hupk hle hmE hXl hXr htk hsmall hsub_le hsplit hr1 hr2 hk2 ht2 hnx
          generalize ((ks.take j).flatMap fun q => ents d (p ++ [q.1]) q.2) = E0 at *
          generalize ks[j] = q at *
          obtain ⟨y, sub⟩ := q
          simp only at t1
          have hst := tx_size (p ++ [y])
          have hcat : s ++ ⟨[y].toArray⟩ = (⟨(p ++ [y]).toArray⟩ : ByteArray) := by rw [Hsp.out]; exact strCatW p [y]
          obtain ⟨st, hste⟩ : ∃ st : ByteArray, st = ⟨(p ++ [y]).toArray⟩ := ⟨_, rfl⟩
          rw [← hste] at hcat hst
          have Hste := Lib.hid hste
          have hrow := row_byteW wr y 5
          have hcv := run_bytes_row (P := Try.prog) (src := 75) (dst := 9) (l := [y]) Try.underlying75 Try.underlying5 Try.underlying9 (show Row (wr.alloc (.cells #[.int .u8 (y.toNat : Int)] 5)).drew _ _ _ _ _ from row_heap rfl hrow)
          have hcs : (⟨[y].toArray⟩ : ByteArray).size = 1 := rfl
          generalize hcb : (⟨[y].toArray⟩ : ByteArray) = cb at hcv hcat hcs
          have hsum : s.size + cb.size ≤ 9223372036854775807 := by have := Hss.out; omega
          have hsum2 : (s.size : Int) + (cb.size : Int) ≤ 9223372036854775807 := by omega
          have hsum3 : ¬ (9223372036854775807 < (s.size : Int) + (cb.size : Int)) := by omega
          have hsum4 : ¬ (9223372036854775807 < s.size + cb.size) := by omega
          have hy := y.toNat_lt
          have hwb : IntKind.u8.wrap (y.toNat : Int) = (y.toNat : Int) := by simp [IntKind.wrap, IntKind.bits, IntKind.signed]; omega
          have Bb := (Below.refl wr.heap.size wr).alloc (Nat.le_refl _) (.cells #[.int .u8 (y.toNat : Int)] 5)
          have u2 := (Bb.cell (p := ⟨b2, s2 + j, none⟩) hbl2).trans t2
          have u4 := (Bb.cell (p := ⟨w.heap.size, 2, none⟩) l3).trans l2
          have u5 := (Bb.cell (p := ⟨bF, 0, none⟩) hbl3).trans o3
          have hB3 : Below wr.heap.size wr (wr.alloc (.cells #[.int .u8 (y.toNat : Int)] 5)).drew := Bb.drew
          have hcall := Hih.out nx (p ++ [y]) sub (wr.alloc (.cells #[.int .u8 (y.toNat : Int)] 5)).drew vr Xr (m + E0.length) Hsub.out Hupk.out (HG.out.kb (KB.of_below (hB3.mono hwr))) (HS.out.keep hB3) Hbd.out.2.2.1 Hbd.out.2.2.2.1 (by have h1 := Hbd.out.1; have h2 := Hbd.out.2.1; simp only at h1; omega) (by rw [List.length_append]; have := Hpl.out; simp only [List.length_cons, List.length_nil]; omega)
          rw [← hste] at hcall
          have Hcall := Lib.hid hcall
          have HKb := Lib.hid (HKr.out.trans (KS.of_below vr Xr hB3))
          have HCn : Hid (∀ X5 : List (Value × List Tx), X5.map (·.2) = addAll (Xr.map (·.2)) (ents d (p ++ [y]) sub) → X5.map (·.2) = addAll (X.map (·.2)) ((ks.take (j + 1)).flatMap fun q => ents d (p ++ [q.1]) q.2)) := Lib.hid fun X5 h5 => by
            rw [h5, Htk.out, addAll_app, HC.out]
          have hji : (j : Int) < (lt : Int) := by omega
          have hj0 : (0 : Int) ≤ (j : Int) := by omega
          have Hjl := Lib.hid hjl
          have eg := enters_of Try.func58 (by kernel_rfl) rfl
          clear hst hste hrow hcs hcb hy Bb hB3 hcall hwr hbl1 hbl2 hbl3 hjk hbb1 hbb2 hjl hj Hih
          go_upto_region 8 with fail
          go_region_with (go_at_call 58; refine (Hcall.out).mono ?_; rintro e w5 ⟨rfl, v5, X5, hs5, hc5, hk5⟩; have HS5 := Lib.hid hs5; have HC5 := Lib.hid (HCn.out X5 hc5); have HK5 := Lib.hid (HKb.out.trans hk5); clear hs5 hc5 hk5)
          all_goals
            have hjl := Hjl.out
            go_wp2_with fail
            go_roundw
            case rel => exact ⟨j + 1, v5, X5, hjl, by go_num, HS5, HC5, HK5⟩
            case measure => simp [intOf]; omega
        · obtain rfl : j = lt := by omega
          have HCe : Hid (Xr.map (·.2) = addAll (X.map (·.2)) (ents (d + 1) p ks)) := Lib.hid (by have h := HC.out; rw [Hlt.out, List.take_length] at h; exact h)
          go_wp2_with fail
          refine bodyPost_end (v := .tuple #[]) (by first | rfl | simp [results, Try.results58, go_sem]) rfl ⟨rfl, _, _, HS.out, HCe.out, Hks0.out.trans HKr.out⟩
end Go.Proofs.Ytbmaappambmhoaa
