/-
  (*row.Known).Row.
-/
import Derived.Test.YtimgnbacgdmiiaaKnC
import Derived.Deep.CutRange
namespace Go.Proofs.Ytimgnbacgdmiiaa
open Go.RowKit PK Go.Maps Go.WideMaps
set_option linter.unusedVariables false
set_option linter.unusedSimpArgs false
attribute [local go_sem ↓] append_appM

theorem Kn.own_lt {X : Nat → Prop} {W : World} {n0 kb am nm : Nat} {cv : Value} {g N c : Nat} {k : Int} {kk : Nat} {S : Sts} {T : Nat} {C : List (Value × List Tx)} {na nx : Nat} {fa fx : Value → Option Value} (h : Kn X W n0 kb am nm cv g N c k kk S T C na nx fa fx) : ∀ q, ownK kb am nm cv q → q < W.heap.size := fun q hq => by
  rcases hq with rfl | rfl | rfl | hq
  · exact h.kbl
  · exact h.atM.lt
  · exact h.nxM.lt
  · exact (h.come.lt q hq).2
/-- What has become of a Known. -/
def KnGo (X : Nat → Prop) (W : World) (n0 kb am nm : Nat) (cv : Value) (g N c : Nat) (k : Int) (kk : Nat) (S : Sts) (C : List (Value × List Tx)) (T : Nat) (W' : World) (cv' : Value) (C' : List (Value × List Tx)) : Prop :=
  (∃ na' nx' fa' fx', Kn X W' n0 kb am nm cv' g N c k kk S T C' na' nx' fa' fx') ∧ (∀ (j : Nat) x, C[j]? = some x → C'[j]? = some x) ∧ KnKeep (ownK kb am nm cv) W W' ∧ ∀ q, ownK kb am nm cv' q → ownK kb am nm cv q ∨ W.heap.size ≤ q
section
variable {X : Nat → Prop} {W W1 W2 : World} {n0 kb am nm : Nat} {cv cv1 cv2 : Value} {g N c : Nat} {k : Int} {kk : Nat} {S : Sts} {C C1 C2 : List (Value × List Tx)} {T T1 T2 : Nat}
theorem KnGo.trans (h : KnGo X W n0 kb am nm cv g N c k kk S C T1 W1 cv1 C1) (h' : KnGo X W1 n0 kb am nm cv1 g N c k kk S C1 T2 W2 cv2 C2) : KnGo X W n0 kb am nm cv g N c k kk S C T2 W2 cv2 C2 :=
  ⟨h'.1, fun j x hx => h'.2.1 j x (h.2.1 j x hx), h.2.2.1.trans h'.2.2.1 h.2.2.2, fun q hq => (h'.2.2.2 q hq).elim (h.2.2.2 q) fun h1 => .inr (Nat.le_trans h.2.2.1.size h1)⟩
theorem KnGo.below (h : KnGo X W n0 kb am nm cv g N c k kk S C T W1 cv1 C1) (hb : Below W1.heap.size W1 W2) : KnGo X W n0 kb am nm cv g N c k kk S C T W2 cv1 C1 := by
  obtain ⟨⟨na, nx, fa, fx, hK⟩, h1, h2, h3⟩ := h
  exact ⟨⟨na, nx, fa, fx, hK.below hb⟩, h1, h2.trans (KnKeep.of_below (O := fun _ => False) hb) (fun _ h => h.elim), h3⟩
theorem KnGo.more (h : KnGo X W n0 kb am nm cv g N c k kk S C T W1 cv1 C1) {T' : Nat} (hT : T ≤ T') : KnGo X W n0 kb am nm cv g N c k kk S C T' W1 cv1 C1 := by
  obtain ⟨⟨na, nx, fa, fx, hK⟩, h1⟩ := h
  exact ⟨⟨na, nx, fa, fx, hK.more hT⟩, h1⟩
end
/-- What Row answers. -/
def KnRowP (X : Nat → Prop) (W : World) (n0 kb am nm : Nat) (cv : Value) (g N c : Nat) (k : Int) (kk : Nat) (S : Sts) (T : Nat) (C : List (Value × List Tx)) (l : List Sy) (e : Ending) (W' : World) : Prop :=
  ∃ cv' C', KnGo X W n0 kb am nm cv g N c k kk S C (T + 2 * l.length) W' cv' C' ∧
    ((¬ OverR k 600 S l ∧ ∃ va vc, e = .returned (.tuple #[.slice va (rowS k S l).length vc, .bool true]) ∧ Row W' W'.heap.size 1 (.slice va (rowS k S l).length vc) (rowS k S l).length (svt (rowS k S l)) ∧ (0 < (rowS k S l).length → ∀ q, va.map (·.block) = some q → ¬ ownK kb am nm cv' q ∧ q < W'.heap.size ∧ ¬ X q)) ∨
     (OverR k 600 S l ∧ e = .returned (.tuple #[.slice none 0 0, .bool false])))
theorem Kn.cells {X : Nat → Prop} {W : World} {n0 kb am nm : Nat} {cv : Value} {g N c : Nat} {k : Int} {kk : Nat} {S : Sts} {T : Nat} {C : List (Value × List Tx)} {na nx : Nat} {fa fx : Value → Option Value} (h : Kn X W n0 kb am nm cv g N c k kk S T C na nx fa fx) :
    W.cell? ⟨kb, 0, none⟩ = some (.slice (some ⟨g, 0, none⟩) N c) ∧ W.cell? ⟨kb, 2, none⟩ = some (.func (.func 60) #[] #[.pointer (some ⟨kk, 0, none⟩)]) ∧ W.cell? ⟨kb, 3, none⟩ = some cv ∧ W.cell? ⟨kb, 5, none⟩ = some (.map (some nm)) := by
  refine ⟨?_, ?_, ?_, ?_⟩ <;> (rw [cell_of_row W kb _ _ _ (0, 0) h.box]; rfl)
theorem Kn.at_ {X : Nat → Prop} {W : World} {n0 kb am nm : Nat} {cv : Value} {g N c : Nat} {k : Int} {kk : Nat} {S : Sts} {T : Nat} {C : List (Value × List Tx)} {na nx : Nat} {fa fx : Value → Option Value} (h : Kn X W n0 kb am nm cv g N c k kk S T C na nx fa fx) {j : Nat} {x : Value × List Tx} (hj : C[j]? = some x) :
    ∃ cb cc, cv = .slice (some ⟨cb, 0, none⟩) C.length cc ∧ W.cell? ⟨cb, j, none⟩ = some x.1 ∧ cb < W.heap.size := by
  have hl : j < C.length := (List.getElem?_eq_some_iff.1 hj).1
  rcases h.come.2 with ⟨_, h0⟩ | ⟨cb, cc, cur, rfl, _, hg, hc1, hc2, hc3, hc4⟩
  · omega
  · refine ⟨cb, cc, rfl, ?_, (Array.getElem?_eq_some_iff.1 hg).1⟩
    obtain ⟨g', hv, _, _, hcell, _⟩ := owns_cellN h.come (by omega)
    simp only [Option.some.injEq, Addr.mk.injEq, and_true] at hv
    subst hv
    exact hcell j x.1 (by rw [List.getElem?_map, hj]; rfl)
theorem wf_i64 {a : Int} (h : -9223372036854775808 ≤ a ∧ a ≤ 9223372036854775807) : (Lit.int .i64 a).wf = true := by
  simp only [Lit.wf, Bool.and_eq_true, decide_eq_true_eq]; exact h
theorem zeroIntS (w : World) : (zeroValue 3).run Try.prog w = .ok (.int .i64 0) w := by kernel_rfl
/-- Where a step has led. -/
def KnTo (X : Nat → Prop) (W : World) (n0 kb am nm : Nat) (cv : Value) (g N c : Nat) (k : Int) (kk : Nat) (S : Sts) (C : List (Value × List Tx)) (T : Nat) (r : List Tx) (wx : World) (dd : Int) : Prop :=
  ∃ cv2 C2, KnGo X W n0 kb am nm cv g N c k kk S C T wx cv2 C2 ∧ ((dd = -1 ∧ 600 < r.length) ∨ ∃ (m : Nat) (y : Value × List Tx), dd = (m : Int) ∧ m ≤ 1000000000000 ∧ C2[m]? = some y ∧ y.2 = r)
set_option maxHeartbeats 8000000 in
set_option maxRecDepth 100000 in
theorem knRow_any (X : Nat → Prop) (W : World) (n0 kb am nm : Nat) (cv : Value) (g N c : Nat) (k : Int) (kk : Nat) (S : Sts) (T : Nat) (C : List (Value × List Tx)) (na nx : Nat) (fa fx : Value → Option Value) (h : Kn X W n0 kb am nm cv g N c k kk S T C na nx fa fx)
    (l : List Sy) (lv : Value) (BL : Nat) (rl : SR W BL lv l) (hBL : BL ≤ n0) (h1 : ∃ x, C[0]? = some x ∧ x.2 = [[]]) (hs : ∀ s ∈ l, (s.tok = true → 0 ≤ s.n ∧ s.n ≤ 255) ∧ (s.tok = false → 0 ≤ s.n ∧ s.n < N)) (hk : 1 ≤ k ∧ k ≤ 4) (hN : N ≤ 1000) (hS : SOk k S) (hT : T + 2 * l.length ≤ 1000000000000) :
    Calls Try.prog 72 #[.pointer (some ⟨kb, 0, none⟩), lv] W (KnRowP X W n0 kb am nm cv g N c k kk S T C l) := by
  obtain ⟨la, lc, rfl, hl1, hl2⟩ := Row.val rl
  obtain ⟨ln, hln⟩ : ∃ ln, ln = l.length := ⟨_, rfl⟩
  have Rl := Lib.hid (fun W' (hW : Below n0 W W') => (show SR W' BL (.slice la l.length lc) l from Row.below rl (hW.mono hBL)))
  rw [← hln] at Rl hl1 ⊢
  have hl63 : (ln : Int) ≤ 1000000000000 := by omega
  have H1 : Hid (KnGo X W n0 kb am nm cv g N c k kk S C (T + 2 * 0) W cv C) := Lib.hid ⟨⟨na, nx, fa, fx, h⟩, fun _ _ h => h, KnKeep.refl _ _, fun _ h => .inl h⟩
  have Hx1 := Lib.hid h1; have Hs := Lib.hid hs; have Hk := Lib.hid hk; have HSo := Lib.hid hS; have HT := Lib.hid hT; have Hln := Lib.hid hln; have HN := Lib.hid hN
  have HL0 : Hid (∀ W' : World, KnKeep (ownK kb am nm cv) W W' → Below n0 W W') := Lib.hid fun W' hk => hk.low h.lt.2.2.2.2.2 h.own_ge
  clear h h1 rl hs hk hS hT hln hl1 hl2 hN
  go_enter Try.func72, Try.ntmps72
  go_wp2_with fail
  go_loopw [6, 14] (fun pv iv wr => ∃ (i j : Nat), i ≤ ln ∧ j ≤ 1000000000000 ∧ iv = .int .i64 (i : Nat) ∧ pv = .int .i64 (j : Nat) ∧ Hid (∃ cv' C' x, KnGo X W n0 kb am nm cv g N c k kk S C (T + 2 * i) wr cv' C' ∧ C'[j]? = some x ∧ x.2 = rowS k S (l.take i)) ∧ Hid (∀ m, m < i → (rowS k S (l.take (m + 1))).length ≤ 600)) (fun _ iv _ => ln - (intOf iv).toNat)
  case atStart =>
    obtain ⟨x, hx, hx2⟩ := Hx1.out
    exact ⟨0, 0, Nat.zero_le _, Nat.zero_le _, rfl, rfl, Lib.hid ⟨cv, C, x, H1.out, hx, hx2⟩, Lib.hid (fun m hm => by omega)⟩
  case round =>
    clear H1
    obtain ⟨i, j, hi, hj9, rfl, rfl, HG, HO⟩ := hrel
    obtain ⟨cv1, C1, x1, hG1, hxj, hx2⟩ := HG.out
    obtain ⟨na1, nx1, fa1, fx1, hK1⟩ := hG1.1
    by_cases hlt : i < ln
    · have hil : i < l.length := by have := Hln.out; omega
      have hlow := HL0.out wr hG1.2.2.1
      obtain ⟨b6, o6, hao, hb6, f0, f1⟩ := SR.get (show SR wr BL (.slice la l.length lc) l by have := Rl.out wr hlow; rw [Hln.out] at this; exact this) i hil
      subst hao
      have hsn := Hs.out l[i] (List.getElem_mem hil)
      have Hsu := Lib.hid (rowS_succ k S l i hil)
      generalize l[i] = s at *
      have hok := symS_ok Hk.out.1 HSo.out s
      obtain ⟨t, n⟩ := s
      simp only at f0 f1 hsn
      have hb1 := (Below.refl wr.heap.size wr).alloc (Nat.le_refl _) (.cells #[.bool t, .int .i64 n] 39)
      have y0 : (wr.alloc (.cells #[.bool t, .int .i64 n] 39)).cell? ⟨wr.heap.size, 0, none⟩ = some (.bool t) := cell_new wr _ _ 0 _ rfl
      have y1 : (wr.alloc (.cells #[.bool t, .int .i64 n] 39)).cell? ⟨wr.heap.size, 1, none⟩ = some (.int .i64 n) := cell_new wr _ _ 1 _ rfl
      have hi1 : (i : Int) < (ln : Int) := by omega
      have hi2 : (0 : Int) ≤ (i : Int) := by omega
      have hj0 : (0 : Int) ≤ (j : Int) := by omega
      have Hlt := Lib.hid hlt
      have hTT : T + 2 * i + 2 ≤ 1000000000000 := by have := HT.out; omega
      have HTT := Lib.hid hTT
      have hcn := hK1.cnt
      have hjl : j < C1.length := (List.getElem?_eq_some_iff.1 hxj).1
      have hs1 : (wr.alloc (.cells #[.bool t, .int .i64 n] 39)).heap.size = wr.heap.size + 1 := by simp
      have hb2 := (Below.refl _ (wr.alloc (.cells #[.bool t, .int .i64 n] 39))).alloc (Nat.le_refl _) (.cells #[.int .i64 (j : Nat), .bool t, .int .i64 n] 131)
      have z0 := cell_new (wr.alloc (.cells #[.bool t, .int .i64 n] 39)) #[.int .i64 (j : Nat), .bool t, .int .i64 n] 131 0 _ rfl
      have z1 := cell_new (wr.alloc (.cells #[.bool t, .int .i64 n] 39)) #[.int .i64 (j : Nat), .bool t, .int .i64 n] 131 1 _ rfl
      have z2 := cell_new (wr.alloc (.cells #[.bool t, .int .i64 n] 39)) #[.int .i64 (j : Nat), .bool t, .int .i64 n] 131 2 _ rfl
      rw [hs1] at z0 z1 z2 hb2
      have hb12 := hb1.trans (hb2.mono (Nat.le_succ _))
      have y02 := (hb2.cell (p := ⟨wr.heap.size, 0, none⟩) (Nat.lt_succ_self _)).trans y0
      have y12 := (hb2.cell (p := ⟨wr.heap.size, 1, none⟩) (Nat.lt_succ_self _)).trans y1
      go_upto_region 6 with fail
      clear y0 y1 f0 f1 hb1 hb2
      generalize hws : (wr.alloc (.cells #[.bool t, .int .i64 n] 39)).alloc (.cells #[.int .i64 (j : Nat), .bool t, .int .i64 n] 131) = ws at *
      have hz : wr.heap.size + 2 = ws.heap.size := by rw [← hws]; simp
      clear hws hs1
      have hKs := hK1.below hb12
      have hGs := hG1.below hb12
      have hn64 : -9223372036854775808 ≤ n ∧ n ≤ 9223372036854775807 := by
        cases t with
        | true => have := hsn.1 rfl; omega
        | false => have := hsn.2 rfl; have := HN.out; omega
      obtain ⟨kl, hkl⟩ := keyOfStep (j : Int) n t (wf_i64 (by omega)) (wf_i64 hn64)
      obtain ⟨v0, hlook, hval⟩ := (show MapG 131 ws.drew nm nx1 fx1 from hKs.nxM).look_ok keyedStep Try.underlying126 (zeroIntS ws.drew) hkl
      obtain ⟨k0, k2, k3, k5⟩ := hKs.cells
      have Hol := Lib.hid hK1.own_lt
      have HK1 := Lib.hid hKs; have HGs := Lib.hid hGs; have Hkl := Lib.hid hkl; have Hxj := Lib.hid hxj; have Hx2 := Lib.hid hx2; have Hsn := Lib.hid hsn; have Hok := Lib.hid hok; have Hval := Lib.hid hval
      have Hy := Lib.hid (And.intro y02 y12); have Hz := Lib.hid (And.intro z0 (And.intro z1 z2)); have Hsz := Lib.hid hz
      have hl9 : (C1.length : Int) ≤ 2000000000000 := by omega
      have Hjl := Lib.hid hjl
      clear hK1 hG1 hKs hGs hkl hxj hx2 hsn hok hval hb12 hlow hb6 hil hlt hi hTT hcn hz HG k0 k2 k3 y02 y12 hn64
      have Hk5 := Lib.hid (And.intro k5 (And.intro z0 (And.intro z1 z2)))
      clear k5 z0 z1 z2
      refine wp_region_ord 10 [(0, true), (1, true), (2, true), (3, true), (4, true), (5, false), (6, true), (7, true), (8, true), (9, true), (10, false)] (fun w' => w'.cell? ⟨kb, 5, none⟩ = some (.map (some nm)) ∧ w'.cell? ⟨wr.heap.size + 1, 0, none⟩ = some (.int .i64 (j : Nat)) ∧ w'.cell? ⟨wr.heap.size + 1, 1, none⟩ = some (.bool t) ∧ w'.cell? ⟨wr.heap.size + 1, 2, none⟩ = some (.int .i64 n)) (by kernel_rfl) (by kernel_rfl) Hk5.out ?_
      simp only [ordL, List.getElem?_toArray, List.getElem?_cons_succ, List.getElem?_cons_zero]
      iterate 5 (
        refine ordW_read (v := ?_) (by rfl) ?_ (fun _ _ _ h => h) ?_
        rotate_left
        focus (intro w' hS; obtain ⟨s0, s1, s2, s3⟩ := hS; go_simp; (try with_reducible rfl); done)
        try simp only [Act.put, List.setIfInBounds_toArray, List.set_cons_zero, List.set_cons_succ])
      refine ordW_do (by rfl) (fun K' HK2 => ?_)
      go_simp
      refine HK2.out _ _ (fun _ => Hk5.out) ?_
      clear HK2 K' hlook
      try simp only [Act.put, List.setIfInBounds_toArray, List.set_cons_zero, List.set_cons_succ]
      iterate 4 (
        refine ordW_read (v := ?_) (by rfl) ?_ (fun _ _ _ h => h) ?_
        rotate_left
        focus (intro w' s0; go_simp; (try with_reducible rfl); done)
        try simp only [Act.put, List.setIfInBounds_toArray, List.set_cons_zero, List.set_cons_succ])
      refine ordW_do (by rfl) (fun K' HK2 => ?_)
      go_simp
      refine HK2.out _ _ (fun h => absurd rfl h) (ordW_nil ?_)
      clear HK2 K'
      go_upto_if 31 with fail
      go_cut [10, 11, 14] from 15 to 61 (fun tv _ iv wx => iv = .int .i64 (i : Nat) ∧ ∃ dd : Int, tv = .int .i64 dd ∧ Hid (KnTo X W n0 kb am nm cv g N c k kk S C (T + 2 * (i + 1)) (rowS k S (l.take (i + 1))) wx dd))
      case first =>
        cases hf : fx1 (.agg #[.int .i64 (j : Nat), .bool t, .int .i64 n]) with
        | some u =>
          obtain ⟨x', h1, h2⟩ := HK1.out.fxS j t n u hf
          rw [Hxj.out] at h1
          obtain rfl : x1 = x' := Option.some.inj h1
          have e1 := Hval.out u hf
          subst e1
          rw [Hx2.out, ← Hsu.out] at h2
          have HGd : Hid (KnGo X W n0 kb am nm cv g N c k kk S C (T + 2 * (i + 1)) ws.drew cv1 C1) := Lib.hid ((HGs.out.more (by omega)).below (Below.refl _ ws).drew)
          have hcl : C1.length ≤ 1000000000000 := by have := HK1.out.cnt; have := HTT.out; omega
          rcases h2 with ⟨rfl, h3⟩ | ⟨m, y, rfl, h3, h4⟩
          · have HE : Hid (KnTo X W n0 kb am nm cv g N c k kk S C (T + 2 * (i + 1)) (rowS k S (l.take (i + 1))) ws.drew (-1)) := Lib.hid ⟨_, _, HGd.out, .inl ⟨rfl, h3⟩⟩
            clear h1 h3 hf
            simp only [Option.isSome_some]
            go_wp2_with fail
            go_meet
            case rel => exact ⟨rfl, _, rfl, HE⟩
          · have HE : Hid (KnTo X W n0 kb am nm cv g N c k kk S C (T + 2 * (i + 1)) (rowS k S (l.take (i + 1))) ws.drew (m : Int)) := Lib.hid ⟨_, _, HGd.out, .inr ⟨m, y, rfl, by have := (List.getElem?_eq_some_iff.1 h3).1; omega, h3, h4⟩⟩
            clear h1 h3 h4 hf
            simp only [Option.isSome_some]
            go_wp2_with fail
            go_meet
            case rel => exact ⟨rfl, _, rfl, HE⟩
        | none =>
          clear Hval
          simp only [Option.isSome_none]
          go_upto_region 8 with fail
          have hKd := HK1.out.below ((Below.refl ws.heap.size ws).drew.drew)
          have hcl1 : C1.length ≤ 1000000000000 := by have := HK1.out.cnt; have := HTT.out; omega
          obtain ⟨cb, cc, hcv, hcc, hcbl⟩ := hKd.at_ Hxj.out
          obtain ⟨k0, k2, k3, k5⟩ := hKd.cells
          subst hcv
          obtain ⟨xa, xc, hx1v, _, _⟩ := (HK1.out.each x1 (List.mem_of_getElem? Hxj.out)).1.val
          rw [hx1v] at hcc
          obtain ⟨xn, hxn⟩ : ∃ xn, xn = x1.2.length := ⟨_, rfl⟩
          rw [← hxn] at hcc hx1v
          have Hxn := Lib.hid hxn; have Hx1v := Lib.hid hx1v
          have HS8 := Lib.hid (show (fun w' : World => w'.cell? ⟨kb, 2, none⟩ = some (.func (.func 60) #[] #[.pointer (some ⟨kk, 0, none⟩)]) ∧ w'.cell? ⟨kb, 3, none⟩ = some (.slice (some ⟨cb, 0, none⟩) C1.length cc) ∧ w'.cell? ⟨cb, j, none⟩ = some (.slice xa xn xc) ∧ w'.cell? ⟨kb, 0, none⟩ = some (.slice (some ⟨g, 0, none⟩) N c) ∧ w'.cell? ⟨wr.heap.size, 0, none⟩ = some (.bool t) ∧ w'.cell? ⟨wr.heap.size, 1, none⟩ = some (.int .i64 n)) ws.drew.drew from ⟨k2, k3, hcc, k0, Hy.out.1, Hy.out.2⟩)
          have HSb : Hid (∀ w', Below ws.heap.size ws.drew.drew w' → (fun w' : World => w'.cell? ⟨kb, 2, none⟩ = some (.func (.func 60) #[] #[.pointer (some ⟨kk, 0, none⟩)]) ∧ w'.cell? ⟨kb, 3, none⟩ = some (.slice (some ⟨cb, 0, none⟩) C1.length cc) ∧ w'.cell? ⟨cb, j, none⟩ = some (.slice xa xn xc) ∧ w'.cell? ⟨kb, 0, none⟩ = some (.slice (some ⟨g, 0, none⟩) N c) ∧ w'.cell? ⟨wr.heap.size, 0, none⟩ = some (.bool t) ∧ w'.cell? ⟨wr.heap.size, 1, none⟩ = some (.int .i64 n)) w') := Lib.hid fun w' hw => by
            obtain ⟨s0, s1, s2, s3, s4, s5⟩ := HS8.out
            have hkb := HK1.out.kbl
            have hsz := Hsz.out
            exact ⟨(hw.cell (p := ⟨kb, 2, none⟩) hkb).trans s0, (hw.cell (p := ⟨kb, 3, none⟩) hkb).trans s1, (hw.cell (p := ⟨cb, j, none⟩) hcbl).trans s2, (hw.cell (p := ⟨kb, 0, none⟩) hkb).trans s3, (hw.cell (p := ⟨wr.heap.size, 0, none⟩) (by show wr.heap.size < _; omega)).trans s4, (hw.cell (p := ⟨wr.heap.size, 1, none⟩) (by show wr.heap.size < _; omega)).trans s5⟩
          have hSn : SetsN ws.drew.drew n0 g N S := ⟨hKd.len, by have := hKd.lt; omega, hKd.lt.2.2.2.2.2, hKd.sets⟩
          have Hset := Lib.hid (rowSet2_any ⟨t, n⟩ n0 g N c S ws.drew.drew hSn HN.out Hsn.out.1 Hsn.out.2)
          have hjC : (j : Int) < (C1.length : Int) := by have := Hjl.out; omega
          have HKd := Lib.hid hKd
          have Hcl1 := Lib.hid hcl1
          have Hf := Lib.hid hf
          clear hKd hcc k0 k2 k3 k5 hx1v hxn hSn hcbl hcl1 hf
          refine wp_region_ord2 19 [(0, 0), (1, 0), (2, 0), (3, 0), (4, 0), (5, 0), (6, 0), (7, 0), (8, 0), (9, 0), (10, 0), (11, 0), (12, 0), (13, 0), (14, 0), (15, 0), (16, 0), (17, 1), (18, 1), (19, 2), (20, 2)] (fun w' => w'.cell? ⟨kb, 2, none⟩ = some (.func (.func 60) #[] #[.pointer (some ⟨kk, 0, none⟩)]) ∧ w'.cell? ⟨kb, 3, none⟩ = some (.slice (some ⟨cb, 0, none⟩) C1.length cc) ∧ w'.cell? ⟨cb, j, none⟩ = some (.slice xa xn xc) ∧ w'.cell? ⟨kb, 0, none⟩ = some (.slice (some ⟨g, 0, none⟩) N c) ∧ w'.cell? ⟨wr.heap.size, 0, none⟩ = some (.bool t) ∧ w'.cell? ⟨wr.heap.size, 1, none⟩ = some (.int .i64 n)) (by kernel_rfl) (by kernel_rfl) HS8.out ?_
          simp only [ordL2, List.getElem?_toArray, List.getElem?_cons_succ, List.getElem?_cons_zero]
          iterate 17 (
            refine ordV_read (v := ?_) (by rfl) ?_ (fun _ _ _ h => h) ?_
            rotate_left
            focus (intro w' hS; obtain ⟨s0, s1, s2, s3, s4, s5⟩ := hS; go_simp; (try with_reducible rfl); done)
            try simp only [Act.put, List.setIfInBounds_toArray, List.set_cons_zero, List.set_cons_succ])
          refine ordV_do (by rfl) (fun K' HK5 => ?_)
          go_simp
          refine (Hset.out).mono ?_
          rintro e w3 ⟨v3, rfl, hr3, hb3, hi3⟩
          obtain ⟨a3, c3, rfl, _, _⟩ := hr3.val
          have HB3 := Lib.hid (show Below ws.heap.size ws.drew.drew w3 from hb3)
          have hx1r : Row w3 w3.heap.size 1 (.slice xa x1.2.length xc) x1.2.length (svt x1.2) := by
            have h1 := ((HK1.out.each x1 (List.mem_of_getElem? Hxj.out)).1.below ((Below.refl ws.heap.size ws).drew.drew.trans hb3)).mono hb3.size
            rw [Hx1v.out, Hxn.out] at h1; exact h1
          obtain ⟨hx1s, hx1l, hx1n⟩ := HK1.out.ok x1 (List.mem_of_getElem? Hxj.out)
          have hkk : w3.cell? ⟨kk, 0, none⟩ = some (.int .i64 k) := (HK1.out.below ((Below.refl ws.heap.size ws).drew.drew.trans hb3)).kx
          have hkkl : kk < w3.heap.size := by have := HK1.out.lt; have := hb3.size; have h9 : ws.heap.size ≤ w3.heap.size := hb3.size; omega
          have Hcat := Lib.hid (ahead2_any k kk xa a3 xc c3 x1.2 (symS S ⟨t, n⟩) w3 hkk hkkl Hk.out hx1r hr3 hx1s Hok.out.1 hx1l Hok.out.2.1 (by omega) Hok.out.2.2)
          have Hi3 := Lib.hid hi3
          have HS3 := Lib.hid (HSb.out w3 hb3)
          refine HK5.out _ _ HS3.out ?_
          clear HK5 K' Hset hr3 hb3 hi3 hx1r hx1s hx1l hx1n hkk hkkl
          rw [← Hxn.out] at Hcat
          obtain ⟨yn, hyn⟩ : ∃ yn, yn = (symS S ⟨t, n⟩).length := ⟨_, rfl⟩
          have Hyn := Lib.hid hyn
          rw [← hyn] at Hcat ⊢
          clear hyn
          try simp only [Act.put, List.setIfInBounds_toArray, List.set_cons_zero, List.set_cons_succ]
          refine ordV_do (by rfl) (fun K' HK5 => ?_)
          go_simp
          refine (Hcat.out).mono ?_
          rintro e w4 ⟨v4, rfl, hr4, hb4, hi4⟩
          obtain ⟨a4, c4, rfl, _, _⟩ := hr4.val
          have hb34 : Below ws.heap.size ws.drew.drew w4 := HB3.out.trans (hb4.mono HB3.out.size)
          have hK4 := HK1.out.below ((Below.refl ws.heap.size ws).drew.drew.trans hb34)
          have hG4 := HGs.out.below ((Below.refl ws.heap.size ws).drew.drew.trans hb34)
          have eR : catL x1.2 (symS S ⟨t, n⟩) k = rowS k S (l.take (i + 1)) := by rw [Hsu.out, Hx2.out]
          have hpl := place_any X w4 n0 kb am nm _ g N c k kk S (T + 2 * i) C1 na1 nx1 fa1 fx1 hK4 a4 c4 (catL x1.2 (symS S ⟨t, n⟩) k) hr4 (fun h0 q e => by
            rcases hi4 h0 q e with ⟨h1, h2⟩ | ⟨h1, h2⟩ | ⟨h1, h2⟩
            · obtain ⟨h3, h4⟩ := (HK1.out.each x1 (List.mem_of_getElem? Hxj.out)).2 h1 q (by rw [Hx1v.out, ownB]; exact h2)
              exact ⟨h3, Nat.lt_of_lt_of_le h4.1 hb34.size, h4.2⟩
            · rcases Hi3.out (by rw [Hyn.out] at *; exact h1) q (by rw [ownB]; exact h2) with h3 | ⟨h3, h4⟩
              · exact ⟨fun h5 => by have := HK1.out.own_ge q h5; omega, Nat.lt_of_lt_of_le h3 (Nat.le_trans HK1.out.lt.2.2.2.2.2 hb34.size), fun h5 => by have := HK1.out.xg q h5; omega⟩
              · have h3' : ws.heap.size ≤ q := h3
                refine ⟨fun h5 => ?_, Nat.lt_of_lt_of_le h4 hb4.size, fun h5 => by have := HK1.out.xg q h5; omega⟩
                have := Kn.own_lt HK1.out q h5; omega
            · have h1' : ws.heap.size ≤ q := Nat.le_trans HB3.out.size h1
              refine ⟨fun h5 => ?_, h2, fun h5 => by have := HK1.out.xg q h5; omega⟩
              have := Kn.own_lt HK1.out q h5; omega) ⟨catL_set _ _ _, catL_le _ _ _ (by have := Hk.out; omega)⟩ Hk.out.2 (by have := HTT.out; omega)
          rw [eR] at hpl
          have Hpl := Lib.hid hpl
          have HG4 := Lib.hid hG4
          have HS4 := Lib.hid (HSb.out w4 hb34)
          rw [eR]
          have HsK4 := Lib.hid ((Below.refl ws.heap.size ws).drew.drew.trans hb34)
          refine HK5.out _ _ HS4.out ?_
          clear HK5 K' Hcat hr4 hb4 hi4 hb34 hK4 hG4 hpl HS3 HSb HS8
          obtain ⟨R, hR⟩ : ∃ R, R = rowS k S (l.take (i + 1)) := ⟨_, rfl⟩
          rw [← hR] at Hpl eR ⊢
          have HeR := Lib.hid eR
          have HRe := Lib.hid hR
          obtain ⟨rn, hrn⟩ : ∃ rn, rn = R.length := ⟨_, rfl⟩
          rw [← hrn] at Hpl ⊢
          have Hrn := Lib.hid hrn
          clear hrn eR hR
          try simp only [Act.put, List.setIfInBounds_toArray, List.set_cons_zero, List.set_cons_succ]
          refine ordV_end (by rfl) (fun K' HK5 => ?_)
          go_simp
          refine (Hpl.out).mono ?_
          intro e w5 hp5
          have hp6 : ∃ (dd : Int) (cv5 : Value) (C5 : List (Value × List Tx)) (na5 : Nat) (fa5 : Value → Option Value), e = .returned (.int .i64 dd) ∧ Kn X w5 n0 kb am nm cv5 g N c k kk S (T + 2 * i + 1) C5 na5 nx1 fa5 fx1 ∧ (-1 ≤ dd ∧ dd ≤ 1000000000000) ∧ (∀ (m : Nat) x, C1[m]? = some x → C5[m]? = some x) ∧ KnGo X W n0 kb am nm cv g N c k kk S C (T + 2 * i + 1) w5 cv5 C5 ∧ ((dd = -1 ∧ 600 < R.length) ∨ ∃ (m : Nat) (y : Value × List Tx), dd = (m : Int) ∧ C5[m]? = some y ∧ y.2 = R) ∧ KnKeep (ownK kb am nm (.slice (some ⟨cb, 0, none⟩) C1.length cc)) w4 w5 := by
            rcases hp5 with ⟨h1, rfl, rfl⟩ | ⟨h1, m, cv5, C5, na5, fa5, rfl, h2, ⟨y, h3, h4⟩, h5, h6, h7⟩
            · exact ⟨-1, _, C1, na1, fa1, rfl, (HK1.out.below HsK4.out).more (by omega), by omega, fun _ _ h => h, HG4.out.more (by omega), .inl ⟨rfl, h1⟩, KnKeep.refl _ _⟩
            · have h8 := (List.getElem?_eq_some_iff.1 h3).1
              have h9 := h2.cnt
              exact ⟨(m : Int), cv5, C5, na5, fa5, rfl, h2, by have := HTT.out; omega, h5, HG4.out.trans ⟨⟨na5, nx1, fa5, fx1, h2⟩, h5, h6, h7⟩, .inr ⟨m, y, rfl, h3, h4⟩, h6⟩
          obtain ⟨dd, cv5, C5, na5, fa5, rfl, hK5, hdd, hpre, hG5, hcase, hkp⟩ := hp6
          have HK5' := Lib.hid hK5; have HG5 := Lib.hid hG5; have Hcase := Lib.hid hcase; have Hpre := Lib.hid hpre; have Hdd := Lib.hid hdd
          refine HK5.out _ _ ?_
          clear HK5 K' hp5 hK5 hG5 hcase hpre hdd Hpl HS4
          try simp only [Act.put, List.setIfInBounds_toArray, List.set_cons_zero, List.set_cons_succ]
          refine ordV_end (by rfl) (fun K' HK5 => ?_)
          go_simp
          refine HK5.out _ _ (ordV_nil ?_)
          clear HK5 K'
          have hs45 : w4.heap.size ≤ w5.heap.size := hkp.size
          have hsz4 : ws.heap.size ≤ w4.heap.size := HsK4.out.size
          have hzz : ∀ q u, ws.cell? ⟨wr.heap.size + 1, q, none⟩ = some u → w5.drew.cell? ⟨wr.heap.size + 1, q, none⟩ = some u := fun q u hu => by
            have h1 : w5.heap[wr.heap.size + 1]? = w4.heap[wr.heap.size + 1]? := hkp.block _ (by have := Hsz.out; omega) fun h => by have := Hol.out _ h; omega
            have h2 : w4.heap[wr.heap.size + 1]? = ws.heap[wr.heap.size + 1]? := HsK4.out.block _ (by have := Hsz.out; omega)
            have h3 : w5.cell? ⟨wr.heap.size + 1, q, none⟩ = ws.cell? ⟨wr.heap.size + 1, q, none⟩ := cell_eq (p := ⟨wr.heap.size + 1, q, none⟩) (h1.trans h2)
            exact h3.trans hu
          obtain ⟨k0, k2, k3, k5⟩ := HK5'.out.cells
          have HS9 := Lib.hid (And.intro (show w5.drew.cell? ⟨kb, 5, none⟩ = some (.map (some nm)) from k5) (And.intro (hzz 0 _ Hz.out.1) (And.intro (hzz 1 _ Hz.out.2.1) (hzz 2 _ Hz.out.2.2))))
          obtain ⟨w6, hupd, hM6, hg6⟩ := (show MapG 131 w5.drew nm nx1 fx1 from HK5'.out.nxM).update keyedStep Try.underlying126 (by unfold maxLen; have := HK5'.out.cnt; have := HTT.out; omega) Hkl.out (.int .i64 dd)
          have hK5d := HK5'.out.below (Below.refl w5.heap.size w5).drew
          obtain ⟨hK6, hk6⟩ := hK5d.step hg6 _ hM6 (fun j' t' n' v hv => by
            by_cases e : (Value.agg #[.int .i64 (j' : Nat), .bool t', .int .i64 n']) = .agg #[.int .i64 (j : Nat), .bool t, .int .i64 n]
            · simp only [Value.agg.injEq, Array.mk.injEq, List.cons.injEq, Value.int.injEq, Value.bool.injEq, and_true, true_and, Int.natCast_inj] at e
              obtain ⟨rfl, rfl, rfl⟩ := e
              rw [putF_same] at hv
              have hv' := (Option.some.inj hv).symm
              refine ⟨x1, Hpre.out _ _ Hxj.out, ?_⟩
              rw [HeR.out]
              rcases Hcase.out with ⟨h1, h2⟩ | ⟨m, y, h1, h2, h3⟩
              · exact .inl ⟨by rw [hv', h1], h2⟩
              · exact .inr ⟨m, y, by rw [hv', h1], h2, h3⟩
            · rw [putF_other _ e] at hv
              exact HK5'.out.fxS j' t' n' v hv)
          have HE : Hid (KnTo X W n0 kb am nm cv g N c k kk S C (T + 2 * (i + 1)) R w6 dd) := Lib.hid ⟨cv5, C5, HG5.out.trans ⟨⟨na5, nx1 + 1, fa5, _, by have := hK6; rw [show T + 2 * i + 1 + 1 = T + 2 * (i + 1) by omega] at this; exact this⟩, fun _ _ h => h, ⟨hk6.os, hk6.tape, hk6.output, hk6.size, hk6.block⟩, fun q hq => .inl hq⟩, ?_⟩
          rotate_left
          · rcases Hcase.out with ⟨h1, h2⟩ | ⟨m, y, h1, h2, h3⟩
            · exact .inl ⟨h1, h2⟩
            · exact .inr ⟨m, y, h1, by have := (List.getElem?_eq_some_iff.1 h2).1; have := HK5'.out.cnt; have := HTT.out; omega, h2, h3⟩
          · clear hzz k0 k2 k3 k5 hK5d hK6 hk6 hM6 hg6 hkp
            go_upto_region 9 with fail
            refine wp_region_ord 6 [(0, true), (1, true), (2, true), (3, true), (4, true), (5, true), (6, false)] (fun w' => w'.cell? ⟨kb, 5, none⟩ = some (.map (some nm)) ∧ w'.cell? ⟨wr.heap.size + 1, 0, none⟩ = some (.int .i64 (j : Nat)) ∧ w'.cell? ⟨wr.heap.size + 1, 1, none⟩ = some (.bool t) ∧ w'.cell? ⟨wr.heap.size + 1, 2, none⟩ = some (.int .i64 n)) (by kernel_rfl) (by kernel_rfl) HS9.out ?_
            simp only [ordL, List.getElem?_toArray, List.getElem?_cons_succ, List.getElem?_cons_zero]
            iterate 6 (
              refine ordW_read (v := ?_) (by rfl) ?_ (fun _ _ _ h => h) ?_
              rotate_left
              focus (intro w' hS; obtain ⟨s0, s1, s2, s3⟩ := hS; go_simp; (try with_reducible rfl); done)
              try simp only [Act.put, List.setIfInBounds_toArray, List.set_cons_zero, List.set_cons_succ])
            refine ordW_do (by rfl) (fun K' HK9 => ?_)
            go_simp
            refine HK9.out _ _ (fun h => absurd rfl h) (ordW_nil ?_)
            clear HK9 K' hupd HS9
            go_wp2_with fail
            go_meet
            case rel => exact ⟨rfl, _, rfl, by rw [← HRe.out]; exact HE⟩
      case rest =>
        obtain ⟨rfl, dd, rfl, HTo⟩ := hcut
        obtain ⟨cv2, C2, hG2, hd⟩ := HTo.out
        rcases hd with ⟨rfl, h600⟩ | ⟨m, y, rfl, hm9, hy, hyR⟩
        · have HE : Hid (KnRowP X W n0 kb am nm cv g N c k kk S T C l (.returned (.tuple #[.slice none 0 0, .bool false])) wc) := Lib.hid ⟨cv2, C2, hG2.more (by have := Hlt.out; have := Hln.out; omega), .inr ⟨⟨i, by have := Hln.out; omega, h600⟩, rfl⟩⟩
          clear hG2 h600 HTo
          go_wp2_with fail
          go_ret2
          exact HE.out
        · have HG2 := Lib.hid hG2
          have hR6 : (rowS k S (l.take (i + 1))).length ≤ 600 := by
            obtain ⟨⟨_, _, _, _, hK⟩, _⟩ := hG2
            have := (hK.ok y (List.mem_of_getElem? hy)).2.2
            rw [hyR] at this; exact this
          have HI2 : Hid (∃ cv' C' x, KnGo X W n0 kb am nm cv g N c k kk S C (T + 2 * (i + 1)) wc cv' C' ∧ C'[m]? = some x ∧ x.2 = rowS k S (l.take (i + 1))) := Lib.hid ⟨cv2, C2, y, hG2, hy, hyR⟩
          have HO2 : Hid (∀ m, m < i + 1 → (rowS k S (l.take (m + 1))).length ≤ 600) := Lib.hid fun q hq => by
            rcases Nat.lt_or_ge q i with h1 | h1
            · exact HO.out q h1
            · obtain rfl : q = i := by omega
              exact hR6
          have hm0 : (0 : Int) ≤ (m : Int) := by omega
          have q1 : decide ((m : Int) < 0) = false := decide_eq_false (by omega)
          clear hG2 HG2 hR6 hy hyR HTo
          go_wp2_with fail
          go_roundw
          case rel => exact ⟨i + 1, m, Hlt.out, hm9, by go_num, rfl, HI2, HO2⟩
          case measure => have := Hlt.out; simp [intOf]; omega
    · obtain rfl : i = ln := by omega
      have hE : l.take i = l := List.take_of_length_le (by have := Hln.out; omega)
      rw [hE] at hx2
      obtain ⟨hx3, hx4⟩ := hK1.each x1 (List.mem_of_getElem? hxj)
      obtain ⟨xa, xc, hx1v, _, _⟩ := hx3.val
      obtain ⟨cb, cc, rfl, hcc, hcbl⟩ := hK1.at_ hxj
      obtain ⟨k0, k2, k3, k5⟩ := hK1.cells
      have hjC : (j : Int) < (C1.length : Int) := by have := (List.getElem?_eq_some_iff.1 hxj).1; omega
      have hj0 : (0 : Int) ≤ (j : Int) := by omega
      rw [hx1v] at hcc hx3 hx4
      rw [hx2] at hcc hx3 hx4
      have HE : Hid (KnRowP X W n0 kb am nm cv g N c k kk S T C l (.returned (.tuple #[.slice xa (rowS k S l).length xc, .bool true])) wr) := Lib.hid ⟨_, C1, by rw [← Hln.out]; exact hG1, .inl ⟨fun ⟨q, hq, h9⟩ => by have := HO.out q (by have := Hln.out; omega); omega, xa, xc, rfl, hx3, fun h0 q e => hx4 h0 q (by rw [ownB]; exact e)⟩⟩
      have hi0 : decide (i < i) = false := by simp
      obtain ⟨rn, hrn⟩ : ∃ rn, rn = (rowS k S l).length := ⟨_, rfl⟩
      rw [← hrn] at hcc HE
      generalize C1.length = cl at *
      clear hG1 hK1 hxj hx2 hx3 hx4 hx1v hE HG hrn k0 k2 k5
      go_wp2_with fail
      go_ret2
      exact HE.out
end Go.Proofs.Ytimgnbacgdmiiaa
