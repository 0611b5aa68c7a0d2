/-
  The document's from and Begins.
-/
import Derived.Test.YtfmcigodfihlcaaReaJ
namespace Go.Proofs.Ytfmcigodfihlcaa
open Go.RowKit PK
set_option linter.unusedVariables false
set_option linter.unusedSimpArgs false
attribute [local go_sem ↓] append_appM

theorem own_push2 {w : World} {n : Nat} {lv : Value} {L : List Int} (hn : n ≤ w.heap.size) (h : w.ownsRow n 3 1 lv L.length (ints L)) (x : Int) (hl : L.length + 1 ≤ 10000000) :
    ∃ a c w3, Sem.run Try.prog (appM #[22, 22] 22 #[lv, .slice (some ⟨w.heap.size, 0, none⟩) 1 1]) (w.alloc (.cells #[.int .i64 x] 3)) = .ok (.slice a (L.length + 1) c) w3 ∧ w3.ownsRow n 3 1 (.slice a (L.length + 1) c) (L ++ [x]).length (ints (L ++ [x])) ∧ Below n w w3 ∧
      (∀ k, k < w.heap.size → lv.ownBlock ≠ some k → w3.heap[k]? = w.heap[k]?) ∧ ((Value.slice a (L.length + 1) c).ownBlock = lv.ownBlock ∨ ∃ k, (Value.slice a (L.length + 1) c).ownBlock = some k ∧ w.heap.size ≤ k) := by
  obtain ⟨i0, hi0, hz0, hz1, hz2⟩ := info_parts info_intT
  have rt : Row (w.alloc (.cells #[.int .i64 x] 3)) (w.heap.size + 1) 1 (.slice (some ⟨w.heap.size, 0, none⟩) 1 1) 1 (ints [x]) := row_cellsB w (ints [x]) 1 1 1 _ rfl (Nat.le_refl _) (by unfold maxLen; omega)
  obtain ⟨v', w2, h1, h2, h3, h4⟩ := run_append_row (P := Try.prog) (w.alloc (.cells #[.int .i64 x] 3)) 22 22 n 3 i0 (.int .i64 0) 1 8 Try.underlying22 hi0 hz0 hz1 hz2 rfl (by decide) lv L.length (ints L) (h.alloc _) (w.heap.size + 1) _ 1 (ints [x]) rt (ints_oneT _) (by unfold maxLen; omega) (by omega) (by simp; omega)
  obtain ⟨a, c, rfl, _, _⟩ := owns_valP h2
  refine ⟨a, c, w2, h1, by rw [List.length_append]; simpa [ints] using h2, ((Below.refl n w).alloc hn _).grown h3 (by simp; omega) fun k e => (h.lt k e).1, fun k hk hne => ?_, ?_⟩
  · rw [h3.block k (by simp; omega) (fun e => hne e.symm), Below.heap_alloc _ _ _ hk]
  · rcases h4 with h5 | h5
    · exact .inl h5
    · exact .inr ⟨_, h5, by simp⟩
theorem CI.start2 {N : Nat} {F : Int → List Int} {S : List Int} (hS : ∀ x ∈ S, 0 ≤ x ∧ x < N) (hnd : S.Nodup) : CI N F S S 0 :=
  ⟨hnd, hS, fun x hx => .base hx, fun x hx => hx, fun j _ h => by omega, Nat.zero_le _⟩
theorem set_nodup {l : List Int} (h : IsSet l) : l.Nodup := List.Pairwise.imp (fun h e => by omega) h
/-- What from answers. -/
def FromP (w : World) (F : Int → List Int) (S : List Int) (e : Ending) (w' : World) : Prop := ∃ L v, e = .returned v ∧ (∀ x, x ∈ L ↔ Rc F S x) ∧ w'.ownsRow w.heap.size 3 1 v L.length (ints L) ∧ Below w.heap.size w w'
set_option maxHeartbeats 4000000 in
set_option maxRecDepth 100000 in
theorem refFrom_any (all : Bool) (S : List Int) (sv : Value) (st : List Bool) (b : Bn) (ov lv : Value) (B BS : Nat) (w : World) (hB : B ≤ w.heap.size) (r : BR w B ov lv b) (h0 : bmay b = 0) (hst : Fix b false st) (hBS : BS ≤ w.heap.size) (rs : Row w BS 1 sv S.length (ints S)) (hS : ∀ x ∈ S, 0 ≤ x ∧ x < b.of.length) (hnd : S.Nodup) :
    Calls Try.prog 52 #[.agg #[.int .i64 b.toks, .int .i64 b.look, ov, lv], sv, .bool all] w (FromP w (nextI b (goneF all st)) S) := by
  obtain ⟨oa, oc, rfl, ho1, ho2⟩ := r.of.val
  obtain ⟨la, lc, rfl, hl1, hl2⟩ := r.l.val
  obtain ⟨sa, sc, rfl, _, _⟩ := rs.val
  obtain ⟨z1, z2, z3, z4, z5, z6, _⟩ := bmay_zero h0
  have hbox := BoxB.new b.toks b.look 25 hB r
  have hb1 := (Below.refl w.heap.size w).alloc (Nat.le_refl _) (.cells #[.int .i64 b.toks, .int .i64 b.look, .slice oa b.of.length oc, .slice la b.l.length lc] 25)
  have hSl := nodup_le hnd hS
  have hin := baseInts_any (.slice sa S.length sc) S BS _ (Nat.le_trans hBS hb1.size) (rs.below (hb1.mono hBS)) (by omega)
  have hnx := fun (y : Int) W BW hBW hr => refNext_any all y st b (.slice oa b.of.length oc) (.slice la b.l.length lc) BW W hBW hr h0 hst
  have hrg := fun (x y : Int) (h : y ∈ nextI b (goneF all st) x) => nextI_range z6 h
  have hset := fun (x : Int) => set_nodup (toSetI_set (rowTo b (goneF all st) b.l.length x))
  have hset2 : ∀ x, (nextI b (goneF all st) x).Nodup := hset
  have hCI := CI.start2 (F := nextI b (goneF all st)) hS hnd
  obtain ⟨ol, hol⟩ : ∃ ol, ol = b.of.length := ⟨_, rfl⟩
  obtain ⟨ll, hll⟩ : ∃ ll, ll = b.l.length := ⟨_, rfl⟩
  obtain ⟨tk, htk⟩ : ∃ tk, tk = b.toks := ⟨_, rfl⟩
  obtain ⟨lk, hlk⟩ : ∃ lk, lk = b.look := ⟨_, rfl⟩
  rw [← hol, ← hll, ← htk, ← hlk] at hbox hb1 hin hnx
  rw [← hol] at hrg hCI
  rw [← hll] at hset
  rw [← hol, ← hll, ← htk, ← hlk]
  have ho500 : ol ≤ 500 := by omega
  generalize nextI b (goneF all st) = F at *
  have Hbox := Lib.hid hbox; have Hb1 := Lib.hid hb1; have Hin := Lib.hid hin; have Hnx := Lib.hid hnx; have Hrg := Lib.hid hrg; have Hset := Lib.hid hset2; have HCI := Lib.hid hCI
  clear r hbox hb1 hol hll htk hlk ho1 ho2 hl1 hl2 hB z1 z2 z3 z4 z5 z6 h0 hst hin hnx hrg hset hset2 hCI hBS hS hnd hSl
  have ec : ((w.alloc (.cells #[.int .i64 tk, .int .i64 lk, .slice oa ol oc, .slice la ll lc] 25))).heap.size = w.heap.size + 1 := by simp
  go_enter Try.func52, Try.ntmps52
  go_upto_region 1 with fail
  generalize w.alloc (.cells #[.int .i64 tk, .int .i64 lk, .slice oa ol oc, .slice la ll lc] 25) = w1 at *
  go_wp2_with fail
  refine (Hin.out).mono ?_
  rintro e w2 ⟨v2, rfl, hown2, hb2⟩
  obtain ⟨a2, d2, rfl, _, _⟩ := owns_valP hown2
  have Hown2 := Lib.hid hown2; have Hb2 := Lib.hid hb2
  clear hown2 hb2 Hin ec
  go_wp2_with fail
  go_loopw [7, 8] (fun ov iv wr => ∃ (i : Nat) (L : List Int), iv = .int .i64 (i : Nat) ∧ Hid (CI ol F S L i) ∧ Hid (wr.ownsRow w1.heap.size 3 1 ov L.length (ints L)) ∧ Hid (Below w1.heap.size w1 wr)) (fun _ iv _ => ol - (intOf iv).toNat)
  case atStart => exact ⟨0, S, rfl, HCI, Hown2, Hb2⟩
  case round =>
    clear HCI Hown2 Hb2
    obtain ⟨i, L, rfl, HI, HO, HB⟩ := hrel
    have hle := nodup_le HI.out.nd HI.out.rg
    have hci := HI.out.le
    obtain ⟨va, vc, rfl, _, _⟩ := owns_valP HO.out
    by_cases hlt : i < L.length
    · obtain ⟨gb, hv, hg1, hg2, hcl, _⟩ := owns_cellN HO.out (by omega)
      subst hv
      have c9 := hcl i _ (ints_at L i hlt)
      have Hnxt := Lib.hid (HI.out.next hlt (Hrg.out _))
      have hyr := HI.out.rg _ (List.getElem_mem hlt)
      generalize hLi : L[i] = y at *
      have Hd0 : Hid (Below w1.heap.size w1 wr.drew) := Lib.hid (HB.out.trans ((Below.refl wr.heap.size wr).drew.mono HB.out.size))
      have HbxA := Hbox.out.keep Hd0.out
      have Hnext := Lib.hid (Hnx.out y wr.drew B HbxA.le HbxA.r)
      obtain ⟨s0, s1, s2, s3⟩ := HbxA.four
      have hi1 : (i : Int) < (L.length : Int) := by omega
      have hi2 : (0 : Int) ≤ (i : Int) := by omega
      have hi3 : (i : Int) ≤ 1000 := by omega
      have Hlt := Lib.hid (show i < ol by omega)
      have HS4 := Lib.hid (show wr.drew.cell? ⟨w.heap.size, 0, none⟩ = some (.int .i64 tk) ∧ wr.drew.cell? ⟨w.heap.size, 1, none⟩ = some (.int .i64 lk) ∧ wr.drew.cell? ⟨w.heap.size, 2, none⟩ = some (.slice oa ol oc) ∧ wr.drew.cell? ⟨w.heap.size, 3, none⟩ = some (.slice la ll lc) ∧ wr.drew.cell? ⟨gb, i, none⟩ = some (.int .i64 y) from ⟨s0, s1, s2, s3, c9⟩)
      have HL := Lib.hid (And.intro HI.out.nd HI.out.rg)
      have Hrgy := Lib.hid (Hrg.out y)
      have Hsety := Lib.hid (Hset.out y)
      obtain ⟨ln, hln⟩ : ∃ ln, ln = L.length := ⟨_, rfl⟩
      rw [← hln] at HO hi1
      have Hln := Lib.hid hln
      rw [← hln]
      clear hcl hle hci hlt hLi HbxA s0 s1 s2 s3 hyr hln HI hg1 hg2 c9
      go_upto_region 5 with fail
      refine wp_region_ord 7 [(0, true), (1, true), (2, true), (3, true), (4, true), (5, true), (6, false), (7, false)] (fun w' => w'.cell? ⟨w.heap.size, 0, none⟩ = some (.int .i64 tk) ∧ w'.cell? ⟨w.heap.size, 1, none⟩ = some (.int .i64 lk) ∧ w'.cell? ⟨w.heap.size, 2, none⟩ = some (.slice oa ol oc) ∧ w'.cell? ⟨w.heap.size, 3, none⟩ = some (.slice la ll lc) ∧ w'.cell? ⟨gb, i, none⟩ = some (.int .i64 y)) (by kernel_rfl) (by kernel_rfl) HS4.out ?_
      simp only [ordL, List.getElem?_toArray, List.getElem?_cons_succ, List.getElem?_cons_zero]
      iterate 6 (
        refine ordW_read (v := ?_) (by rfl) ?_ (fun _ _ _ h => h) ?_
        rotate_left
        focus (intro w' hS; obtain ⟨s0, s1, s2, s3, s4⟩ := hS; go_simp; (try with_reducible rfl); done)
        try simp only [Act.put, List.setIfInBounds_toArray, List.set_cons_zero, List.set_cons_succ])
      refine ordW_do (by rfl) (fun K' HK => ?_)
      go_simp
      refine (Hnext.out).mono ?_
      rintro e w3 ⟨v3, rfl, hown3, hb3⟩
      have Hown3 := Lib.hid hown3
      have HB3 := Lib.hid (Hd0.out.trans (hb3.mono Hd0.out.size))
      have HO3 := Lib.hid (owns_belowP (owns_drewN HO.out) hb3)
      have Hap : Hid (∀ g, v3.ownBlock = some g → (Value.slice (some ⟨gb, 0, none⟩) ln vc).ownBlock ≠ some g) := Lib.hid fun g hg he => by
        have h1 := (hown3.lt g hg).1
        have h2 := (HO.out.lt g he).2
        have h3 : wr.drew.heap.size = wr.heap.size := rfl
        omega
      refine HK.out _ _ (fun _ => ⟨(Hbox.out.keep HB3.out).four.1, (Hbox.out.keep HB3.out).four.2.1, (Hbox.out.keep HB3.out).four.2.2.1, (Hbox.out.keep HB3.out).four.2.2.2, (hb3.cell (p := ⟨gb, i, none⟩) (HO.out.lt gb rfl).2).trans HS4.out.2.2.2.2⟩) ?_
      clear HK K' hb3 hown3 Hnext HS4
      try simp only [Act.put, List.setIfInBounds_toArray, List.set_cons_zero, List.set_cons_succ]
      refine ordW_do (by rfl) (fun K' HK => ?_)
      go_simp
      refine HK.out _ _ (fun h => absurd rfl h) (ordW_nil ?_)
      clear HK K'
      generalize F y = l at *
      obtain ⟨a3, d3, rfl, _, _⟩ := owns_valP Hown3.out
      have hl5 := nodup_le Hsety.out (fun x hx => Hrgy.out x hx)
      obtain ⟨xn, hxn⟩ : ∃ xn, xn = l.length := ⟨_, rfl⟩
      rw [← hxn] at Hown3 Hap hl5 ⊢
      have Hxn := Lib.hid hxn
      clear hxn
      go_wp2_with fail
      go_loopw [7, 10] (fun ov kv wx => ∃ (k : Nat), k ≤ xn ∧ kv = .int .i64 (k : Nat) ∧ Hid (wx.ownsRow w1.heap.size 3 1 ov (noteL L (l.take k)).length (ints (noteL L (l.take k)))) ∧ Hid (wx.ownsRow wr.drew.heap.size 3 1 (.slice a3 xn d3) xn (ints l)) ∧ Hid (∀ g, (Value.slice a3 xn d3).ownBlock = some g → ov.ownBlock ≠ some g) ∧ Hid (Below w1.heap.size w1 wx)) (fun _ kv _ => xn - (intOf kv).toNat)
      case atStart => exact ⟨0, Nat.zero_le _, rfl, Lib.hid (by have := HO3.out; rw [Hln.out] at this ⊢; exact this), Hown3, Hap, HB3⟩
      case round =>
        clear HO3 Hown3 Hap HB3
        obtain ⟨k, hk, rfl, HM, Hl, Hap, HBx⟩ := hrel
        by_cases hkl : k < xn
        · have hkl2 : k < l.length := by have := Hxn.out; omega
          obtain ⟨gx, hv, _, hgx, hclx, _⟩ := owns_cellN Hl.out (by omega)
          subst hv
          have c9 := hclx k _ (ints_at l k hkl2)
          have Hsu := Lib.hid (noteL_succ L l k hkl2)
          have hnd := noteL_nodup L (l.take k) HL.out.1
          have hrg2 : ∀ x ∈ noteL L (l.take k), 0 ≤ x ∧ x < ol := fun x hx => by
            rcases (noteL_mem _ _ _).1 hx with h1 | h1
            · exact HL.out.2 x h1
            · exact Hrgy.out x (List.mem_of_mem_take h1)
          have hle := nodup_le hnd hrg2
          generalize noteL L (l.take k) = M at *
          generalize l[k] = z at *
          obtain ⟨xa, xc, rfl, _, _⟩ := owns_valP HM.out
          have Hhas := Lib.hid (hasInt_any (.slice xa M.length xc) M z wr.heap.size wr (Nat.le_refl _) (Row.of_owns HM.out))
          have hk1 : (k : Int) < (xn : Int) := by omega
          have hk2 : (0 : Int) ≤ (k : Int) := by omega
          have hk3 : (k : Int) ≤ 1000 := by omega
          have Hkl := Lib.hid hkl
          have Hle := Lib.hid hle
          obtain ⟨mn, hmn⟩ : ∃ mn, mn = M.length := ⟨_, rfl⟩
          rw [← hmn] at Hhas HM Hap
          have Hmn := Lib.hid hmn
          rw [← hmn]
          clear hclx hnd hrg2 hle hkl hkl2 hk hmn
          go_wp2_with fail
          refine (Hhas.out).mono ?_
          rintro e w5 ⟨rfl, hb5⟩
          have c95 := (hb5.cell (p := ⟨gx, k, none⟩) hgx).trans c9
          have HM5 := Lib.hid (owns_belowP HM.out hb5)
          have Hl5 := Lib.hid (owns_belowP Hl.out hb5)
          have HB5 := Lib.hid (HBx.out.trans (hb5.mono HBx.out.size))
          clear hb5 c9 Hhas
          by_cases hin : z ∈ M
          · rw [decide_eq_true hin]
            have Hs2 := Lib.hid (Hsu.out.trans (if_pos hin))
            clear hin Hsu
            go_wp2_with fail
            go_roundw
            case rel => exact ⟨k + 1, Hkl.out, by go_num, Lib.hid (by rw [Hs2.out, ← Hmn.out]; exact HM5.out), Hl5, Hap, HB5⟩
            case measure => have := Hkl.out; simp [intOf]; omega
          · rw [decide_eq_false hin]
            have Hs2 := Lib.hid (Hsu.out.trans (if_neg hin))
            obtain ⟨a6, d6, w6, happ, hown6, hb6, hkp, hnew⟩ := own_push2 (L := M) HB5.out.size (by rw [← Hmn.out]; exact HM5.out) z (by have := Hle.out; omega)
            rw [← Hs2.out] at hown6
            rw [← Hmn.out] at happ hown6 hnew
            have Hown6 := Lib.hid hown6
            have Hl6 := Lib.hid (owns_blockN Hl5.out fun g hg => hkp g (Hl5.out.lt g hg).2 (Hap.out g hg))
            have Hap6 : Hid (∀ g, (Value.slice (some ⟨gx, 0, none⟩) xn d3).ownBlock = some g → (Value.slice a6 (mn + 1) d6).ownBlock ≠ some g) := Lib.hid fun g hg he => by
              rcases hnew with h1 | ⟨q, h1, h2⟩
              · rw [h1] at he; exact Hap.out g hg he
              · rw [h1] at he
                have h3 := (Hl5.out.lt g hg).2
                have : q = g := Option.some.inj he
                omega
            have HB6 := Lib.hid (HB5.out.trans hb6)
            have Hl7 : Hid (mn + 1 = (noteL L (l.take (k + 1))).length) := Lib.hid (by rw [Hs2.out, List.length_append, Hmn.out]; rfl)
            clear hown6 hb6 hkp hnew hin Hsu
            go_wp2_with fail
            go_roundw
            case rel => exact ⟨k + 1, Hkl.out, by go_num, Hown6, Hl6, Hap6, HB6⟩
            case measure => have := Hkl.out; simp [intOf]; omega
        · obtain rfl : k = xn := by omega
          have hM2 := HM.out
          rw [Hxn.out, List.take_length] at hM2
          have HM2 := Lib.hid hM2
          clear hM2
          clear HM
          go_wp2_with fail
          go_roundw
          case rel => exact ⟨i + 1, noteL L l, by go_num, Hnxt, HM2, HBx⟩
          case measure => have := Hlt.out; simp [intOf]; omega
    · have hd := HI.out.done (by omega)
      have hlt2 : decide (i < L.length) = false := decide_eq_false hlt
      have HE : Hid (FromP w F S (.returned (.slice va L.length vc)) wr) := Lib.hid ⟨L, _, rfl, hd, owns_baseP HO.out Hb1.out.size, Hb1.out.trans (HB.out.mono Hb1.out.size)⟩
      generalize L.length = ln at *
      clear hd hlt hle hci
      go_wp2_with fail
      go_ret
      exact HE.out
/-- What the document's Begins answers. -/
def RBeginsP (w : World) (b : Bn) (st : List Bool) (n m : Int) (e : Ending) (w' : World) : Prop := ∃ x, e = .returned (.bool x) ∧ (x = true ↔ Rc (FN b st) (FN b st n) m) ∧ Below w.heap.size w w'
set_option maxHeartbeats 4000000 in
set_option maxRecDepth 100000 in
theorem refBegins_any (n m : Int) (st : List Bool) (b : Bn) (ov lv : Value) (B : Nat) (w : World) (hB : B ≤ w.heap.size) (r : BR w B ov lv b) (h0 : bmay b = 0) (hst : Fix b false st) :
    Calls Try.prog 32 #[.agg #[.int .i64 b.toks, .int .i64 b.look, ov, lv], .int .i64 n, .int .i64 m] w (RBeginsP w b st n m) := by
  obtain ⟨oa, oc, rfl, ho1, ho2⟩ := r.of.val
  obtain ⟨la, lc, rfl, hl1, hl2⟩ := r.l.val
  obtain ⟨z1, z2, z3, z4, z5, z6, _⟩ := bmay_zero h0
  have hbox := BoxB.new b.toks b.look 25 hB r
  have hb1 := (Below.refl w.heap.size w).alloc (Nat.le_refl _) (.cells #[.int .i64 b.toks, .int .i64 b.look, .slice oa b.of.length oc, .slice la b.l.length lc] 25)
  have hnx := fun W BW hBW hr => refNext_any false n st b (.slice oa b.of.length oc) (.slice la b.l.length lc) BW W hBW hr h0 hst
  have hfr := fun sv W BW BS hBW hr hBS rs => refFrom_any false (nextI b (goneF false st) n) sv st b (.slice oa b.of.length oc) (.slice la b.l.length lc) BW BS W hBW hr h0 hst hBS rs (fun x hx => nextI_range z6 hx) (set_nodup (toSetI_set _))
  obtain ⟨ol, hol⟩ : ∃ ol, ol = b.of.length := ⟨_, rfl⟩
  obtain ⟨ll, hll⟩ : ∃ ll, ll = b.l.length := ⟨_, rfl⟩
  obtain ⟨tk, htk⟩ : ∃ tk, tk = b.toks := ⟨_, rfl⟩
  obtain ⟨lk, hlk⟩ : ∃ lk, lk = b.look := ⟨_, rfl⟩
  rw [← hol, ← hll, ← htk, ← hlk] at hbox hb1 hnx hfr
  rw [← hol, ← hll, ← htk, ← hlk]
  have Hbox := Lib.hid hbox; have Hb1 := Lib.hid hb1; have Hnx := Lib.hid hnx; have Hfr := Lib.hid hfr
  clear r hbox hb1 hol hll htk hlk ho1 ho2 hl1 hl2 hB z1 z2 z3 z4 z5 z6 h0 hst hnx hfr
  go_enter Try.func32, Try.ntmps32
  go_upto_region 1 with fail
  generalize w.alloc (.cells #[.int .i64 tk, .int .i64 lk, .slice oa ol oc, .slice la ll lc] 25) = w1 at *
  have Hd0 : Hid (Below w1.heap.size w1 w1.drew) := Lib.hid (Below.refl w1.heap.size w1).drew
  have HS4 : Hid (∀ W, Below w1.heap.size w1 W → W.cell? ⟨w.heap.size, 0, none⟩ = some (.int .i64 tk) ∧ W.cell? ⟨w.heap.size, 1, none⟩ = some (.int .i64 lk) ∧ W.cell? ⟨w.heap.size, 2, none⟩ = some (.slice oa ol oc) ∧ W.cell? ⟨w.heap.size, 3, none⟩ = some (.slice la ll lc)) := Lib.hid fun W hW => (Hbox.out.keep hW).four
  refine wp_region_ord 7 [(0, true), (1, true), (2, true), (5, true), (3, false), (4, false), (6, false), (7, false)] (fun w' => w'.cell? ⟨w.heap.size, 0, none⟩ = some (.int .i64 tk) ∧ w'.cell? ⟨w.heap.size, 1, none⟩ = some (.int .i64 lk) ∧ w'.cell? ⟨w.heap.size, 2, none⟩ = some (.slice oa ol oc) ∧ w'.cell? ⟨w.heap.size, 3, none⟩ = some (.slice la ll lc)) (by kernel_rfl) (by kernel_rfl) (HS4.out _ Hd0.out) ?_
  simp only [ordL, List.getElem?_toArray, List.getElem?_cons_succ, List.getElem?_cons_zero]
  iterate 4 (
    refine ordW_read (v := ?_) (by rfl) ?_ (fun _ _ _ h => h) ?_
    rotate_left
    focus (intro w' hS; obtain ⟨s0, s1, s2, s3⟩ := hS; go_simp; (try with_reducible rfl); done)
    try simp only [Act.put, List.setIfInBounds_toArray, List.set_cons_zero, List.set_cons_succ])
  refine ordW_do (by rfl) (fun K' HK => ?_)
  go_simp
  refine (Hnx.out w1.drew B (Hbox.out.keep Hd0.out).le (Hbox.out.keep Hd0.out).r).mono ?_
  rintro e w3 ⟨v3, rfl, hown3, hb3⟩
  have HB3 := Lib.hid (Hd0.out.trans (hb3.mono Hd0.out.size))
  have Hrow3 := Lib.hid (Row.of_owns hown3)
  refine HK.out _ _ (fun _ => HS4.out _ HB3.out) ?_
  clear HK K' hb3 hown3 Hnx
  try simp only [Act.put, List.setIfInBounds_toArray, List.set_cons_zero, List.set_cons_succ]
  refine ordW_do (by rfl) (fun K' HK => ?_)
  go_simp
  refine (Hfr.out v3 w3 B _ (Hbox.out.keep HB3.out).le (Hbox.out.keep HB3.out).r (Nat.le_refl _) Hrow3.out).mono ?_
  rintro e w4 ⟨L, v4, rfl, hL, hown4, hb4⟩
  have HB4 := Lib.hid (HB3.out.trans (hb4.mono HB3.out.size))
  have Hhas := Lib.hid (hasInt_any v4 L m w4.heap.size w4 (Nat.le_refl _) (Row.of_owns hown4))
  have HL := Lib.hid hL
  refine HK.out _ _ (fun _ => HS4.out _ HB4.out) ?_
  clear HK K' hb4 hown4 hL Hfr
  try simp only [Act.put, List.setIfInBounds_toArray, List.set_cons_zero, List.set_cons_succ]
  refine ordW_do (by rfl) (fun K' HK => ?_)
  go_simp
  refine (Hhas.out).mono ?_
  rintro e w5 ⟨rfl, hb5⟩
  have HB5 := Lib.hid (HB4.out.trans (hb5.mono HB4.out.size))
  have HE : Hid (RBeginsP w b st n m (.returned (.bool (decide (m ∈ L)))) w5) := Lib.hid ⟨_, rfl, by rw [decide_eq_true_iff]; exact HL.out m, Hb1.out.trans (HB5.out.mono Hb1.out.size)⟩
  refine HK.out _ _ (fun _ => HS4.out _ HB5.out) ?_
  clear HK K' hb5
  try simp only [Act.put, List.setIfInBounds_toArray, List.set_cons_zero, List.set_cons_succ]
  refine ordW_do (by rfl) (fun K' HK => ?_)
  go_simp
  refine HK.out _ _ (fun h => absurd rfl h) (ordW_nil ?_)
  clear HK K'
  go_wp2_with fail
  go_ret
  exact HE.out
end Go.Proofs.Ytfmcigodfihlcaa
