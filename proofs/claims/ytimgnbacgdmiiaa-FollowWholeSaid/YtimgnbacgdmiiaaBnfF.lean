/-
  The document's Few of plain rules: its walk.
-/
import Derived.Test.YtimgnbacgdmiiaaBnfD
import Derived.Deep.RegionHeld3
namespace Go.Proofs.Ytimgnbacgdmiiaa
open Go.RowKit
set_option linter.unusedVariables false
set_option linter.unusedSimpArgs false
attribute [local go_sem ↓] append_appM

/-- What Few made: its own rows, apart. -/
structure FewO (w : World) (n : Nat) (o l : Value) (X : List Cp) (ofs : List Int) : Prop where
  prs : Prs w n l X
  of : w.ownsRow n 3 1 o ofs.length (ints ofs)
  ofa : ∀ u ∈ l :: blkP X, ∀ k, u.ownBlock = some k → o.ownBlock ≠ some k
theorem Prs.base {w : World} {B B' : Nat} {vo : Value} {X : List Cp} (h : Prs w B vo X) (hb : B' ≤ B) : Prs w B' vo X := ⟨owns_baseP h.out hb, fun x hx => owns_baseP (h.each x hx) hb, h.apart⟩
theorem PSt.fin3 {w wr W' : World} {n0 m : Nat} {tk lk : Int} {ov vo : Value} {X : List Cp} {ofs : List Int} (h : PSt w wr n0 tk lk ov vo X ofs) (hm : m ≤ n0) (hn : n0 ≤ w.heap.size) (hk : ∀ k, m ≤ k → W'.heap[k]? = wr.heap[k]?) : FewO W' m ov vo X ofs :=
  ⟨(h.prs.keep fun k ⟨u, hu, e⟩ => hk k (by have := (h.prs.lt hu e).1; omega)).base (by omega), owns_baseP (owns_blockN h.of fun k e => hk k (Nat.le_trans hm (h.of.lt k e).1)) hm, h.ofa⟩
set_option maxHeartbeats 4000000 in
set_option maxRecDepth 100000 in
theorem few_prs (b : Bn) (ov lv : Value) (n m : Nat) (hn : n ≤ 100) (hm : m ≤ 100) (B : Nat) (w : World) (hB : B ≤ w.heap.size) (r : BR w B ov lv b) :
    Calls Try.prog 32 #[.agg #[.int .i64 b.toks, .int .i64 b.look, ov, lv], .int .i64 (n : Nat), .int .i64 (m : Nat)] w fun e w' => ∃ o l, e = .returned (.agg #[.int .i64 b.toks, .int .i64 b.look, o, l]) ∧ (∃ X ofs, (⟨b.toks, b.look, ofs, prsOf X⟩ : Bn) = fewB n m b ∧ ∀ W' : World, (∀ k, w.heap.size + 2 ≤ k → W'.heap[k]? = w'.heap[k]?) → W'.heap.size = w'.heap.size → FewO W' (w.heap.size + 2) o l X ofs) ∧ Below w.heap.size w w' := by
  obtain ⟨oa, oc, rfl, ho1, ho2⟩ := r.of.val
  obtain ⟨la, lc, rfl, hl1, hl2⟩ := r.l.val
  unfold maxLen at ho2 hl2
  have ho63 : b.of.length ≤ 9223372036854775807 := by omega
  have hl63 : b.l.length ≤ 9223372036854775807 := by omega
  have hbox := BoxB.new b.toks b.look 25 hB r
  have hfew : fewB n m b = ⟨b.toks, b.look, b.of.take n, (b.l.take m).map cutP⟩ := rfl
  have hlo : (b.of.take n).length = min b.of.length n := by rw [List.length_take, Nat.min_comm]
  have hro := r.of.take (b.of.take n).length (by omega)
  have ero : (ints b.of).take ((b.of.take n).length * 1) = ints (b.of.take n) := by
    rw [ints_take, hlo, Nat.min_comm, ← List.take_take, List.take_length]
  rw [ero] at hro
  obtain ⟨tk, htk⟩ : ∃ tk, tk = b.toks := ⟨_, rfl⟩
  obtain ⟨lk, hlk⟩ : ∃ lk, lk = b.look := ⟨_, rfl⟩
  obtain ⟨ol, hol⟩ : ∃ ol, ol = b.of.length := ⟨_, rfl⟩
  obtain ⟨ll, hll⟩ : ∃ ll, ll = b.l.length := ⟨_, rfl⟩
  rw [← htk, ← hlk] at hfew
  rw [← htk, ← hlk, ← hol, ← hll] at hbox ⊢
  rw [← hol] at ho63 hlo ho1
  rw [← hll] at hl63
  generalize fewB n m b = fb at *
  generalize b.of.take n = ofs at *
  have hm1 : min (ol : Int) (n : Int) = (ofs.length : Int) := by omega
  have hm2 : (ofs.length : Int) ≤ (oc : Int) := by omega
  have hm3 : (0 : Int) ≤ (ofs.length : Int) := by omega
  have hb1 := (Below.refl w.heap.size w).alloc (Nat.le_refl _) (.cells #[.int .i64 tk, .int .i64 lk, .slice oa ol oc, .slice la ll lc] 25)
  have hb2 := (Below.refl _ (w.alloc (.cells #[.int .i64 tk, .int .i64 lk, .slice oa ol oc, .slice la ll lc] 25))).alloc (Nat.le_refl _) (.cells #[.int .i64 0, .int .i64 0, .slice none 0 0, .slice none 0 0] 25)
  have hbox2 := hbox.keep hb2
  have hbel2 := hb1.trans (hb2.mono hb1.size)
  have hptr2 : ((w.alloc (.cells #[.int .i64 tk, .int .i64 lk, .slice oa ol oc, .slice la ll lc] 25)).alloc (.cells #[.int .i64 0, .int .i64 0, .slice none 0 0, .slice none 0 0] 25)).heap[w.heap.size + 1]? = some (.cells #[.int .i64 0, .int .i64 0, .slice none 0 0, .slice none 0 0] 25 (0, 0)) := by
    have := heap_alloc_new (w.alloc (.cells #[.int .i64 tk, .int .i64 lk, .slice oa ol oc, .slice la ll lc] 25)) (.cells #[.int .i64 0, .int .i64 0, .slice none 0 0, .slice none 0 0] 25)
    simpa using this
  have Hro := Lib.hid (hro.below (hbel2.mono hB))
  have Hfew := Lib.hid hfew; have Hbox := Lib.hid hbox2; have Hbel := Lib.hid hbel2; have Hptr := Lib.hid hptr2; have Hll := Lib.hid hll
  have Hnum := Lib.hid (And.intro hn (And.intro hm hlo))
  have HB0 := Lib.hid hB
  clear r hbox hfew hlo hro ero htk hlk hol hll hb1 hb2 hbox2 hbel2 hptr2 ho1 ho2 hl1 hl2 hB
  go_enter Try.func32, Try.ntmps32
  go_upto_region 1 with fail
  generalize (w.alloc (.cells #[.int .i64 tk, .int .i64 lk, .slice oa ol oc, .slice la ll lc] 25)).alloc (.cells #[.int .i64 0, .int .i64 0, .slice none 0 0, .slice none 0 0] 25) = w2 at *
  have Hof : Hid (∀ W, Below w2.heap.size w2 W → W.cell? ⟨w.heap.size, 0, none⟩ = some (.int .i64 tk) ∧ W.cell? ⟨w.heap.size, 1, none⟩ = some (.int .i64 lk) ∧ W.cell? ⟨w.heap.size, 2, none⟩ = some (.slice oa ol oc)) := Lib.hid fun W hW =>
    have h := Hbox.out.keep hW
    ⟨h.c0, h.c1, h.c2⟩
  have HI : Hid (∀ W, Below w2.heap.size w2 W → Calls Try.prog 57 #[.slice oa ofs.length oc] W (OwnI W ofs)) := Lib.hid fun W hW =>
    baseInts_any (.slice oa ofs.length oc) ofs B W (Nat.le_trans Hbox.out.le hW.size) (Hro.out.below (hW.mono Hbox.out.le)) (by have := Hnum.out.1; have := Hnum.out.2.2; omega)
  go_cut [7] (fun p wx => ∃ (wb : World) (z3 : Option Addr) (d3 : Nat), p = .pointer (some ⟨wb.heap.size, 0, none⟩) ∧ Hid (PSt wb wx w2.heap.size tk lk (.slice z3 ofs.length d3) (.slice none 0 0) [] ofs) ∧ Hid (Below w2.heap.size w2 wb) ∧ Hid (Below w2.heap.size w2 wx))
  case first =>
    have hd := (Below.refl w2.heap.size w2).drew
    have ha := ((Below.refl w2.heap.size w2).alloc (Nat.le_refl _) (.cells #[.int .i64 0, .int .i64 0, .slice none 0 0, .slice none 0 0] 25)).drew
    obtain ⟨g0, g1, g2⟩ := Hof.out _ hd
    obtain ⟨g3, g4, g5⟩ := Hof.out (w2.alloc (.cells #[.int .i64 0, .int .i64 0, .slice none 0 0, .slice none 0 0] 25)) ((Below.refl _ w2).alloc (Nat.le_refl _) _)
    have hne : w2.heap.size ≠ w.heap.size := by have := Hbox.out.lt; omega
    have hza : (w2.alloc (.cells #[.int .i64 0, .int .i64 0, .slice none 0 0, .slice none 0 0] 25)).drew.heap[w2.heap.size]? = some (.cells #[.int .i64 0, .int .i64 0, .slice none 0 0, .slice none 0 0] 25 (0, 0)) := heap_alloc_new w2 _
    have hsa : w2.heap.size < (w2.alloc (.cells #[.int .i64 0, .int .i64 0, .slice none 0 0, .slice none 0 0] 25)).drew.heap.size := by simp
    have Hd := Lib.hid hd; have Ha := Lib.hid ha; have Hza := Lib.hid hza; have Hsa := Lib.hid hsa
    clear hd ha hza hsa hn hm
    have hmi : (if n < ol then (n : Int) else (ol : Int)) = (ofs.length : Int) := by omega
    go_region_held3 (fun w' => w'.cell? ⟨w.heap.size, 0, none⟩ = some (.int .i64 tk) ∧ w'.cell? ⟨w.heap.size, 1, none⟩ = some (.int .i64 lk) ∧ w'.cell? ⟨w.heap.size, 2, none⟩ = some (.slice oa ol oc)) (go_keep) (first
      | (go_at_call 57; ((with_reducible refine (HI.out w2.drew Hd.out).mono ?_); rintro e w3 ⟨v3, rfl, own3, b3⟩; (obtain ⟨z3, d3, rfl, _, _⟩ := owns_valP own3); (have hb3 : Below w2.heap.size w2 w3 := Hd.out.trans (b3.mono Hd.out.size)); (obtain ⟨h0, h1, h2⟩ := Hof.out w3 hb3); (obtain ⟨h3, h4, h5⟩ := Hof.out (w3.alloc (.cells #[.int .i64 0, .int .i64 0, .slice none 0 0, .slice none 0 0] 25)) (hb3.alloc hb3.size _)); (obtain ⟨h6, h7, h8⟩ := Hof.out (w3.alloc (.cells #[.int .i64 tk, .int .i64 lk, .slice z3 ofs.length d3, .slice none 0 0] 25)) (hb3.alloc hb3.size _)); have Own3 := Lib.hid own3; have HB3 := Lib.hid hb3; have HA3 : Hid True := Lib.hid trivial; clear own3 b3 hb3))
      | (go_at_call 57; ((with_reducible refine (HI.out (w2.alloc (.cells #[.int .i64 0, .int .i64 0, .slice none 0 0, .slice none 0 0] 25)).drew Ha.out).mono ?_); rintro e w3 ⟨v3, rfl, own3, b3⟩; (obtain ⟨z3, d3, rfl, _, _⟩ := owns_valP own3); (have hb3 : Below w2.heap.size w2 w3 := Ha.out.trans (b3.mono Ha.out.size)); (obtain ⟨h0, h1, h2⟩ := Hof.out w3 hb3); (have hz3 := (b3.block _ Hsa.out).trans Hza.out); have Own3 := Lib.hid own3; have HB3 := Lib.hid hb3; have HZ3 := Lib.hid hz3; (have y0 : w3.cell? ⟨w2.heap.size, 0, none⟩ = some (.int .i64 0) := by rw [cell_of_row w3 w2.heap.size _ _ _ (0, 0) hz3]; rfl); (have f0 : w3.frozen? ⟨w2.heap.size, 0, none⟩ = false := by simp [World.frozen?, hz3]); (have y1 : w3.cell? ⟨w2.heap.size, 1, none⟩ = some (.int .i64 0) := by rw [cell_of_row w3 w2.heap.size _ _ _ (0, 0) hz3]; rfl); (have f1 : w3.frozen? ⟨w2.heap.size, 1, none⟩ = false := by simp [World.frozen?, hz3]); (have y2 : w3.cell? ⟨w2.heap.size, 2, none⟩ = some (.slice none 0 0) := by rw [cell_of_row w3 w2.heap.size _ _ _ (0, 0) hz3]; rfl); (have f2 : w3.frozen? ⟨w2.heap.size, 2, none⟩ = false := by simp [World.frozen?, hz3]); (have y3 : w3.cell? ⟨w2.heap.size, 3, none⟩ = some (.slice none 0 0) := by rw [cell_of_row w3 w2.heap.size _ _ _ (0, 0) hz3]; rfl); (have f3 : w3.frozen? ⟨w2.heap.size, 3, none⟩ = false := by simp [World.frozen?, hz3]); (have zl : w2.heap.size < w3.heap.size := (Array.getElem?_eq_some_iff.1 hz3).1); clear own3 b3 hb3 hz3)))
    all_goals
      go_wp2_with fail
      go_meet
      case rel => first
        | exact ⟨w3, z3, d3, rfl, Lib.hid (PSt.madeA (show w2.heap.size ≤ w2.drew.heap.size from Nat.le_refl _) Own3.out HB3.out).1, HB3, Lib.hid (PSt.madeA (show w2.heap.size ≤ w2.drew.heap.size from Nat.le_refl _) Own3.out HB3.out).2⟩
        | exact ⟨w2, z3, d3, rfl, Lib.hid (PSt.madeB Own3.out Hsa.out HB3.out HZ3.out).1, Lib.hid (Below.refl _ w2), Lib.hid (PSt.madeB Own3.out Hsa.out HB3.out HZ3.out).2⟩
  case rest =>
  obtain ⟨w3, z3, d3, rfl, HP0, Hb3, Hbx⟩ := hcut
  clear hm1 hm2 hm3 ho63 hn hm HI
  go_wp2_with fail
  go_loopw [8] (fun iv wr => ∃ (i : Nat) (vo : Value) (X : List Cp), i ≤ ll ∧ i ≤ m ∧ iv = .int .i64 i ∧ Hid (X.length = i) ∧ Hid (prsOf X = (b.l.take i).map cutP) ∧ Hid (PSt w3 wr w2.heap.size tk lk (.slice z3 ofs.length d3) vo X ofs)) (fun iv _ => ll - (intOf iv).toNat)
  case atStart => exact ⟨0, _, [], Nat.zero_le _, Nat.zero_le _, rfl, Lib.hid rfl, Lib.hid rfl, HP0⟩
  case round =>
    obtain ⟨i, vo, X, hi, him, rfl, HX, HN, HS⟩ := hrel
    obtain ⟨vc, d, rfl, hd1, hd2⟩ := owns_valP HS.out.prs.out
    rw [HX.out] at HS
    have Hw2r : Hid (Below w2.heap.size w2 wr) := Lib.hid (Hb3.out.trans (HS.out.bel.mono Hb3.out.size))
    have Hbr := Lib.hid (Hbox.out.keep Hw2r.out)
    have b3c := Hbr.out.c3
    clear hd1 hd2 HP0
    by_cases hlt : i < ll ∧ i < m
    · obtain ⟨hlt, h40⟩ := hlt
      have hlt' : i < b.l.length := by have := Hll.out; omega
      obtain ⟨b1, o1, a1, c1, hao, hbb, e0, e1, rk, k1, k2⟩ := Hbr.out.r.l.get i hlt'
      subst hao
      unfold maxLen at k2
      have Hst := Lib.hid (cutP_succ b.l i hlt')
      generalize b.l[i] = p at *
      obtain ⟨x, rt⟩ := p
      simp only at e0 e1 rk k1
      have hl8 : (rt.take 8).length = min rt.length 8 := by rw [List.length_take, Nat.min_comm]
      have hr8 := Row.take (show Row wr B 2 (.slice a1 rt.length c1) rt.length (symC rt) from rk) (rt.take 8).length (by omega)
      have er8 : (symC rt).take ((rt.take 8).length * 2) = symC (rt.take 8) := by
        rw [symC_take, hl8, Nat.min_comm, ← List.take_take, List.take_length]
      rw [er8] at hr8
      have Hcut : Hid (cutP ⟨x, rt⟩ = ⟨x, rt.take 8⟩) := Lib.hid rfl
      obtain ⟨rn, hrn⟩ : ∃ rn, rn = rt.length := ⟨_, rfl⟩
      rw [← hrn] at e1 k1 hl8
      have m1 : min (rn : Int) 8 = ((rt.take 8).length : Int) := by omega
      have m2 : (rt.take 8).length ≤ 8 := by omega
      have m4 : (if 8 < (rn : Int) then 8 else (rn : Int)) = ((rt.take 8).length : Int) := by omega
      generalize rt.take 8 = l8 at *
      have n1 : (l8.length : Int) ≤ (c1 : Int) := by omega
      have n2 : (0 : Int) ≤ (l8.length : Int) := by omega
      have n3 : (i : Int) < (ll : Int) := by omega
      have n4 : (0 : Int) ≤ (i : Int) := by omega
      have n5 : (i : Int) < (m : Int) := by omega
      have hr63 : rn ≤ 9223372036854775807 := by omega
      have Hr8 : Hid (∀ W, Below wr.heap.size wr W → SR W B (.slice a1 l8.length c1) l8) := Lib.hid fun W hW => Row.below hr8 (hW.mono Hbr.out.le)
      have hlx : b1 < wr.heap.size := Nat.lt_of_lt_of_le hbb Hbr.out.le
      obtain ⟨_, _, _, t3⟩ := HS.out.cell
      have Hcel : Hid (∀ W, Below wr.heap.size wr W → W.cell? ⟨w3.heap.size, 3, none⟩ = some (.slice vc i d) ∧ W.cell? ⟨w.heap.size, 3, none⟩ = some (.slice (some ⟨b1, o1, none⟩) ll lc) ∧ W.cell? ⟨b1, o1 + i * 2, none⟩ = some (.int .i64 x)) := Lib.hid fun W hW =>
        ⟨(hW.cell (p := ⟨w3.heap.size, 3, none⟩) HS.out.lt).trans t3, (Hbr.out.keep hW).c3, (hW.cell (p := ⟨b1, o1 + i * 2, none⟩) hlx).trans e0⟩
      have hl3 : b1 < w3.heap.size := Nat.lt_of_lt_of_le hbb (Nat.le_trans Hbox.out.le Hb3.out.size)
      have h3e := (HS.out.bel.cell (p := ⟨b1, o1 + i * 2, none⟩) hl3).symm.trans e0
      have Hraw : Hid (∀ W, Below w3.heap.size w3 W → W.cell? ⟨w.heap.size, 3, none⟩ = some (.slice (some ⟨b1, o1, none⟩) ll lc) ∧ W.cell? ⟨b1, o1 + i * 2, none⟩ = some (.int .i64 x)) := Lib.hid fun W hW =>
        ⟨(Hbox.out.keep (Hb3.out.trans (hW.mono Hb3.out.size))).c3, (hW.cell (p := ⟨b1, o1 + i * 2, none⟩) hl3).trans h3e⟩
      have Hm8 := Lib.hid m2
      have HSd := Lib.hid (HS.out.keep (Below.refl _ wr).drew)
      have Hlt := Lib.hid (And.intro hlt h40)
      clear rk k1 k2 hr8 er8 hl8 hrn hlt' hi him hbb hlx t3 e0 m2 hl3 h3e
      go_upto_region 6 with fail
      clear n5 hlt h40
      refine wp_region_ord 19 [(0, true), (1, true), (2, true), (3, true), (4, true), (5, true), (6, true), (7, true), (9, true), (10, true), (11, true), (12, true), (13, true), (8, false), (14, false), (15, true), (16, false), (17, false), (18, true), (19, false)] (fun w' => w'.cell? ⟨w3.heap.size, 3, none⟩ = some (.slice vc i d) ∧ w'.cell? ⟨w.heap.size, 3, none⟩ = some (.slice (some ⟨b1, o1, none⟩) ll lc) ∧ w'.cell? ⟨b1, o1 + i * 2, none⟩ = some (.int .i64 x)) (by kernel_rfl) (by kernel_rfl) (Hcel.out _ (Below.refl _ wr).drew) ?_
      simp only [ordL, List.getElem?_toArray, List.getElem?_cons_succ, List.getElem?_cons_zero]
      iterate 13 (
        refine ordW_read (v := ?_) (by rfl) ?_ (fun _ _ _ h => h) ?_
        rotate_left
        focus (intro w' hS; obtain ⟨s0, s1, s2⟩ := hS; go_simp; (try with_reducible rfl); done)
        try simp only [Act.put, List.setIfInBounds_toArray, List.set_cons_zero, List.set_cons_succ])
      refine ordW_do (by rfl) (fun K' HK => ?_)
      go_simp
      have hbd := (Below.refl wr.heap.size wr).drew
      refine HK.out _ _ (fun _ => Hcel.out _ (hbd.alloc hbd.size _)) ?_
      clear HK K'
      try simp only [Act.put, List.setIfInBounds_toArray, List.set_cons_zero, List.set_cons_succ]
      obtain ⟨a6, c6, w6, happ6, own6, b6⟩ := sym_copy wr.drew a1 l8.length c1 l8 B Hbr.out.le (Hr8.out _ hbd) (by have := Hm8.out; omega)
      have happ : Sem.run Try.prog (appM #[35, 35] 35 #[.slice (some ⟨wr.heap.size, 0, none⟩) 0 0, .slice a1 l8.length c1]) (wr.alloc (.cells #[] 39)).drew = .ok (.slice a6 l8.length c6) w6 := happ6
      clear happ6
      have Hb6 : Hid (Below wr.heap.size wr w6) := Lib.hid (hbd.trans b6)
      obtain ⟨a7, c7, w7, happ7, d1, f1, k7, bel7, ps7⟩ := HSd.out.push (by rw [HX.out]; have := Hlt.out.2; have := Hnum.out.2.1; omega) x (.slice a6 l8.length c6) l8 own6 b6
      rw [HX.out] at happ7 ps7
      have PS7 := Lib.hid ps7
      clear own6 b6 ps7 hbd
      refine ordW_do (by rfl) (fun K' HK => ?_)
      go_simp
      refine HK.out _ _ (fun _ => Hcel.out _ Hb6.out) ?_
      clear HK K'
      try simp only [Act.put, List.setIfInBounds_toArray, List.set_cons_zero, List.set_cons_succ]
      iterate 1 (
        refine ordW_read (v := ?_) (by rfl) ?_ (fun _ _ _ h => h) ?_
        rotate_left
        focus (intro w' hS; obtain ⟨s0, s1, s2⟩ := hS; go_simp; (try with_reducible rfl); done)
        try simp only [Act.put, List.setIfInBounds_toArray, List.set_cons_zero, List.set_cons_succ])
      refine ordW_do (by rfl) (fun K' HK => ?_)
      go_simp
      refine HK.out _ _ (fun _ => Hcel.out _ (Hb6.out.alloc Hb6.out.size _)) ?_
      clear HK K'
      try simp only [Act.put, List.setIfInBounds_toArray, List.set_cons_zero, List.set_cons_succ]
      refine ordW_do (by rfl) (fun K' HK => ?_)
      go_simp
      refine HK.out _ _ (fun _ => ⟨d1, Hraw.out w7 bel7⟩) ?_
      clear HK K'
      try simp only [Act.put, List.setIfInBounds_toArray, List.set_cons_zero, List.set_cons_succ]
      iterate 1 (
        refine ordW_read (v := ?_) (by rfl) ?_ (fun _ _ _ h => h) ?_
        rotate_left
        focus (intro w' hS; obtain ⟨s0, s1, s2⟩ := hS; go_simp; (try with_reducible rfl); done)
        try simp only [Act.put, List.setIfInBounds_toArray, List.set_cons_zero, List.set_cons_succ])
      refine ordW_do (by rfl) (fun K' HK => ?_)
      go_simp
      refine HK.out _ _ (fun h => absurd rfl h) (ordW_nil ?_)
      clear HK K'
      obtain ⟨hlt, h40⟩ := Hlt.out
      go_wp2_with fail
      go_roundw
      case rel => exact ⟨i + 1, _, _, hlt, h40, by go_num, Lib.hid (by rw [List.length_append, HX.out]; rfl), Lib.hid (by rw [prsOf_snoc, HN.out, Hst.out, Hcut.out]), PS7⟩
      case measure => simp [intOf]; omega
    · have hfin : prsOf X = (b.l.take m).map cutP := by
        rw [HN.out]
        congr 1
        have h1 := Hll.out
        rcases Nat.lt_or_ge i ll with h2 | h2
        · obtain rfl : i = m := by omega
          rfl
        · rw [List.take_of_length_le (by omega), List.take_of_length_le (by omega)]
      have hpr := HS.out.prs.pr
      rw [hfin] at hpr
      obtain ⟨t0, t1, t2, t3⟩ := HS.out.cell
      have hp2 : wr.heap[w.heap.size + 1]? = some (.cells #[.int .i64 0, .int .i64 0, .slice none 0 0, .slice none 0 0] 25 (0, 0)) := by
        have hlt2 : w.heap.size + 1 < w2.heap.size := (Array.getElem?_eq_some_iff.1 Hptr.out).1
        rw [Hw2r.out.block _ hlt2]; exact Hptr.out
      have HP2 := Lib.hid hp2
      have Hpr := Lib.hid hpr
      have Hof3 := Lib.hid (Row.of_owns HS.out.of)
      have Hbw : Hid (Below w.heap.size w wr) := Lib.hid (Hbel.out.trans (Hw2r.out.mono Hbel.out.size))
      have hsplit : (decide (i < ll) = true ∧ decide (i < m) = false) ∨ (decide (i < ll) = false) := by
        rcases Nat.lt_or_ge i ll with h1 | h1
        · exact .inl ⟨decide_eq_true h1, decide_eq_false (by omega)⟩
        · exact .inr (decide_eq_false (by omega))
      have Hfx := Lib.hid hfin
      clear hlt hi him HX HN hpr hp2 b3c
      have c3 := Hbr.out.c3
      obtain ⟨x0, x1, x2, x3, f0, f1, f2, f3, zl⟩ := four_cells HP2.out
      have hq := four_set HP2.out (.int .i64 tk) (.int .i64 lk) (.slice z3 ofs.length d3) (.slice vc i d)
      obtain ⟨q5, q6, q7, q8, _, _, _, _, _⟩ := four_cells hq
      have Hfin : Hid (∀ W' : World, (∀ k, w.heap.size + 2 ≤ k → W'.heap[k]? = ((((wr.setCell ⟨w.heap.size + 1, 0, none⟩ (.int .i64 tk)).setCell ⟨w.heap.size + 1, 1, none⟩ (.int .i64 lk)).setCell ⟨w.heap.size + 1, 2, none⟩ (.slice z3 ofs.length d3)).setCell ⟨w.heap.size + 1, 3, none⟩ (.slice vc i d)).heap[k]?) → W'.heap.size = wr.heap.size → FewO W' (w.heap.size + 2) (.slice z3 ofs.length d3) (.slice vc i d) X ofs) := Lib.hid fun W' hk hs => HS.out.fin3 (show w.heap.size + 2 ≤ _ by have h2 := (Array.getElem?_eq_some_iff.1 Hptr.out).1; omega) Hb3.out.size (fun k h2 => by
        rw [hk k h2, Below.heap_setCell _ _ _ _ (by show k ≠ w.heap.size + 1; omega), Below.heap_setCell _ _ _ _ (by show k ≠ w.heap.size + 1; omega), Below.heap_setCell _ _ _ _ (by show k ≠ w.heap.size + 1; omega), Below.heap_setCell _ _ _ _ (by show k ≠ w.heap.size + 1; omega)])
      have Hb4 := Lib.hid (below_four Hbw.out (show w.heap.size ≤ w.heap.size + 1 by omega) (.int .i64 tk) (.int .i64 lk) (.slice z3 ofs.length d3) (.slice vc i d))
      have Hq := Lib.hid hq
      have hqs : ((((wr.setCell ⟨w.heap.size + 1, 0, none⟩ (.int .i64 tk)).setCell ⟨w.heap.size + 1, 1, none⟩ (.int .i64 lk)).setCell ⟨w.heap.size + 1, 2, none⟩ (.slice z3 ofs.length d3)).setCell ⟨w.heap.size + 1, 3, none⟩ (.slice vc i d)).heap.size = wr.heap.size := by simp [World.setCell]
      have Hqs := Lib.hid hqs
      clear hq HS hqs
      rcases hsplit with ⟨q1, q2⟩ | q1
      all_goals
        go_wp2_with fail
        refine bodyPost_ret (v := .agg #[.int .i64 tk, .int .i64 lk, .slice z3 ofs.length d3, .slice vc i d]) (by simp [results, Try.results32, go_sem, q5, q6, q7, q8]) rfl ?_
        refine ⟨_, _, rfl, ⟨X, ofs, ?_, ?_⟩, Hb4.out⟩
        · rw [Hfew.out, ← Hfx.out]
        · rw [Hqs.out]; exact Hfin.out
theorem few_own (b : Bn) (ov lv : Value) (n m : Nat) (hn : n ≤ 100) (hm : m ≤ 100) (B : Nat) (w : World) (hB : B ≤ w.heap.size) (r : BR w B ov lv b) :
    Calls Try.prog 32 #[.agg #[.int .i64 b.toks, .int .i64 b.look, ov, lv], .int .i64 (n : Nat), .int .i64 (m : Nat)] w fun e w' => ∃ o l, e = .returned (.agg #[.int .i64 b.toks, .int .i64 b.look, o, l]) ∧ (∀ W' : World, (∀ k, w.heap.size + 2 ≤ k → W'.heap[k]? = w'.heap[k]?) → W'.heap.size = w'.heap.size → BR W' w'.heap.size o l (fewB n m b)) ∧ Below w.heap.size w w' :=
  (few_prs b ov lv n m hn hm B w hB r).mono fun e w' ⟨o, l, he, ⟨X, ofs, h1, h2⟩, h3⟩ => ⟨o, l, he, fun W' hk hs => by
    have h4 := h2 W' hk hs
    rw [← h1, ← hs]
    exact ⟨Row.of_owns h4.of, h4.prs.pr⟩, h3⟩
theorem few_any (b : Bn) (ov lv : Value) (n m : Nat) (hn : n ≤ 100) (hm : m ≤ 100) (B : Nat) (w : World) (hB : B ≤ w.heap.size) (r : BR w B ov lv b) :
    Calls Try.prog 32 #[.agg #[.int .i64 b.toks, .int .i64 b.look, ov, lv], .int .i64 (n : Nat), .int .i64 (m : Nat)] w fun e w' => ∃ o l, e = .returned (.agg #[.int .i64 b.toks, .int .i64 b.look, o, l]) ∧ BR w' w'.heap.size o l (fewB n m b) ∧ Below w.heap.size w w' :=
  (few_own b ov lv n m hn hm B w hB r).mono fun e w' ⟨o, l, he, h1, h2⟩ => ⟨o, l, he, h1 w' (fun _ _ => rfl) rfl, h2⟩
theorem BoxB.put {W : World} {gb n : Nat} {x0 x1 x2 x3 o l : Value} {T : TypeId} {b : Bn} (tk lk : Int) (h : W.heap[gb]? = some (.cells #[x0, x1, x2, x3] T (0, 0))) (hgb : gb < n) (hr : ∀ W' : World, (∀ k, n ≤ k → W'.heap[k]? = W.heap[k]?) → W'.heap.size = W.heap.size → BR W' W.heap.size o l b) :
    BoxB ((((W.setCell ⟨gb, 0, none⟩ (.int .i64 tk)).setCell ⟨gb, 1, none⟩ (.int .i64 lk)).setCell ⟨gb, 2, none⟩ o).setCell ⟨gb, 3, none⟩ l) gb W.heap.size tk lk o l b := by
  have hs : ((((W.setCell ⟨gb, 0, none⟩ (.int .i64 tk)).setCell ⟨gb, 1, none⟩ (.int .i64 lk)).setCell ⟨gb, 2, none⟩ o).setCell ⟨gb, 3, none⟩ l).heap.size = W.heap.size := by simp [World.setCell]
  obtain ⟨q0, q1, q2, q3, _, _, _, _, q4⟩ := four_cells (four_set h (.int .i64 tk) (.int .i64 lk) o l)
  refine ⟨q0, q1, q2, q3, q4, by rw [hs]; exact Nat.le_refl _, hr _ (fun k hk => ?_) hs⟩
  have hne : ∀ j : Nat, k ≠ (⟨gb, j, none⟩ : Addr).block := fun j e => by
    have e' : k = gb := e
    omega
  rw [Below.heap_setCell _ _ _ _ (hne 3), Below.heap_setCell _ _ _ _ (hne 2), Below.heap_setCell _ _ _ _ (hne 1), Below.heap_setCell _ _ _ _ (hne 0)]
end Go.Proofs.Ytimgnbacgdmiiaa
