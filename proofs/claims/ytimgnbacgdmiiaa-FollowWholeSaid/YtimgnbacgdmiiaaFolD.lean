/-
  The look of follow.Of: its walk.
-/
import Derived.Test.YtimgnbacgdmiiaaFolC
namespace Go.Proofs.Ytimgnbacgdmiiaa
open Go.RowKit PK Go.Maps Go.WideMaps
set_option linter.unusedVariables false
set_option linter.unusedSimpArgs false
attribute [local go_sem ↓] append_appM

/-- What is known of the stands, for a look. -/
structure StandOk (T : List Tri) (k : Int) (z : Tx) (N : Nat) : Prop where
  ok : TriOk T N
  k1 : 1 ≤ k ∧ k ≤ 4
  n1 : 1 ≤ N ∧ N ≤ 500
  each : ∀ t ∈ T, IsSet t.2.2 ∧ Le k t.2.2 ∧ t.2.2.length ≤ 600
theorem FSt.sok {W : World} {k : Int} {N s0 gl gs gc ge kk g n1 : Nat} {lv : Value} {L : List Sd} {X : List (Value × List Tx)} {P : Nat → Prop} {T : List Tri} {z : Tx} (h : InvF T k 600 z N (X.map (·.2))) (n : Int) : IsSet (stAt (X.map (·.2)) n) ∧ Le k (stAt (X.map (·.2)) n) ∧ (stAt (X.map (·.2)) n).length ≤ 600 := by
  refine ⟨stAt_isSetF h n, ?_, stAt_few n h.few⟩
  unfold stAt
  cases e : (X.map (·.2))[n.toNat]? with
  | none => intro x hx; cases hx
  | some c => exact h.le c (List.mem_of_getElem? e)
set_option maxHeartbeats 8000000 in
set_option maxRecDepth 100000 in
theorem lookF_any (T : List Tri) (k : Int) (z : Tx) (N s0 gl gs gc ge kk g n1 : Nat) (la : Option Addr) (lc ll : Nat) (L : List Sd) (W : World) (X : List (Value × List Tx)) (P : Nat → Prop) (i : Nat) (hi : i < ll) (hl : ll = L.length) (hl2 : ll ≤ 1100000) (hT : L.map Sd.tri = T) (hO : StandOk T k z N) (hI : InvF T k 600 z N (X.map (·.2))) (hG : FSt W k N s0 gl gs gc ge kk g n1 (.slice la ll lc) L X P) (hP : ∀ q, P q → q < W.heap.size) :
    Calls Try.prog 47 #[.int .i64 (i : Nat), .pointer (some ⟨gl, 0, none⟩), .pointer (some ⟨gs, 0, none⟩), .pointer (some ⟨gc, 0, none⟩), .pointer (some ⟨ge, 0, none⟩)] W (LookFP T k z N s0 gl gs gc ge kk g n1 (.slice la ll lc) L W (X.map (·.2)) P i) := by
  have hiL : i < L.length := by omega
  obtain ⟨l1, l2, l3, l4, l5, l6, l7⟩ := hG.lt
  have hsd := hG.sd
  have hlx := hG.lx
  have hsx := hG.sx
  have hcx := hG.cx
  obtain ⟨lb, va, vc, hla, hlb, e0, e1, e2, rb⟩ := (show SdR W n1 (.slice la L.length lc) L from hl ▸ hsd).get i hiL
  subst hla
  have ht : T[i]? = some L[i].tri := by rw [← hT, List.getElem?_map, List.getElem?_eq_getElem hiL]; rfl
  have htm : L[i].tri ∈ T := List.mem_of_getElem? ht
  have hlk := lookF_at (k := k) (most := 600) (F := X.map (·.2)) ht
  have hok := hO.ok _ htm
  have hea := hO.each _ htm
  have hput := fun h => InvF.put hO.ok (by have := hO.k1; omega) hI _ htm h
  have hover : 600 < (joinL (stAt (X.map (·.2)) L[i].tri.2.1) (cutF k (X.map (·.2)) L[i].tri)).length → OverF T k 600 (X.map (·.2)) := fun h => ⟨_, htm, h⟩
  unfold cutF at hlk hput hover
  generalize L[i] = x at *
  obtain ⟨lf, n, bv, bb⟩ := x
  simp only [Sd.tri] at e0 e1 e2 rb hlk hok hea hput hover
  obtain ⟨⟨lf1, lf2⟩, hn1, hn2⟩ := hok
  obtain ⟨q, rfl⟩ : ∃ q : Nat, n = (q : Int) := ⟨n.toNat, by omega⟩
  obtain ⟨p, rfl⟩ : ∃ p : Nat, lf = (p : Int) := ⟨lf.toNat, by omega⟩
  have hq : q < N := by omega
  have hp : p < N := by omega
  obtain ⟨qa, qc, cq, fq, hgl, rq⟩ := hG.at_ q hq
  obtain ⟨pa, pc, cp, fp9, gl9, rp⟩ := hG.at_ p hp
  have sp := FSt.sok (W := W) (s0 := s0) (gl := gl) (gs := gs) (gc := gc) (ge := ge) (kk := kk) (g := g) (n1 := n1) (lv := .slice none 0 0) (L := L) (P := P) hI (p : Int)
  have sq := FSt.sok (W := W) (s0 := s0) (gl := gl) (gs := gs) (gc := gc) (ge := ge) (kk := kk) (g := g) (n1 := n1) (lv := .slice none 0 0) (L := L) (P := P) hI (q : Int)
  have hb1 := (Below.refl W.heap.size W).alloc (Nat.le_refl _) (.cells #[.int .i64 (p : Nat), .int .i64 (q : Nat), .slice va bb.length vc] 75)
  have x0 := cell_new W #[.int .i64 (p : Nat), .int .i64 (q : Nat), .slice va bb.length vc] 75 0 _ rfl
  have x1 := cell_new W #[.int .i64 (p : Nat), .int .i64 (q : Nat), .slice va bb.length vc] 75 1 _ rfl
  have x2 := cell_new W #[.int .i64 (p : Nat), .int .i64 (q : Nat), .slice va bb.length vc] 75 2 _ rfl
  have hs1 : (W.alloc (.cells #[.int .i64 (p : Nat), .int .i64 (q : Nat), .slice va bb.length vc] 75)).heap.size = W.heap.size + 1 := by simp
  have hi1 : (i : Int) < (ll : Int) := by omega
  have hi2 : (0 : Int) ≤ (i : Int) := by omega
  have hll63 : ll ≤ 9223372036854775807 := by omega
  obtain ⟨F, hF⟩ : ∃ F, F = X.map (·.2) := ⟨_, rfl⟩
  rw [← hF] at hI hlk hput hover cq rq cp rp sp sq
  replace hlk : lookF T k 600 (some F) i = if 600 < (joinL (stAt F (q : Int)) (catL bb (stAt F (p : Int)) k)).length then (none, 0) else if (joinL (stAt F (q : Int)) (catL bb (stAt F (p : Int)) k)).length = (stAt F (q : Int)).length then (some F, -1) else (some (F.set q (joinL (stAt F (q : Int)) (catL bb (stAt F (p : Int)) k))), (q : Int)) := hlk
  have HG := Lib.hid hG; have HP := Lib.hid hP; have Hlk := Lib.hid hlk; have HI := Lib.hid hI; have Hput := Lib.hid hput; have Hover := Lib.hid hover; have Hea := Lib.hid hea; have HO := Lib.hid hO; have Hsp := Lib.hid sp; have Hsq := Lib.hid sq; have HF := Lib.hid hF; have Hq := Lib.hid hq; have Hgl := Lib.hid hgl
  have Hrp := Lib.hid rp; have Hrq := Lib.hid rq; have Hrb := Lib.hid rb; have Hl := Lib.hid hl
  obtain ⟨an, han⟩ : ∃ an, an = (stAt F (q : Int)).length := ⟨_, rfl⟩
  obtain ⟨pn, hpn⟩ : ∃ pn, pn = (stAt F (p : Int)).length := ⟨_, rfl⟩
  obtain ⟨bn, hbn⟩ : ∃ bn, bn = bb.length := ⟨_, rfl⟩
  rw [← han] at cq
  rw [← hpn] at cp
  rw [← hbn] at e2 x0 x1 x2 hb1 hs1
  have Han := Lib.hid han; have Hpn := Lib.hid hpn; have Hbn := Lib.hid hbn
  have hq1 : (q : Int) < (N : Int) := by omega
  have hq2 : (0 : Int) ≤ (q : Int) := by omega
  have hp1 : (p : Int) < (N : Int) := by omega
  have hp2 : (0 : Int) ≤ (p : Int) := by omega
  have HS : Hid (∀ w', Below W.heap.size W w' → W.heap.size < w'.heap.size → w'.cell? ⟨gs, 0, none⟩ = some (.slice (some ⟨g, 0, none⟩) N N) ∧ w'.cell? ⟨gc, 0, none⟩ = some (.func (.func 60) #[] #[.pointer (some ⟨kk, 0, none⟩)]) ∧ w'.cell? ⟨g, q, none⟩ = some (.slice qa an qc) ∧ w'.cell? ⟨g, p, none⟩ = some (.slice pa pn pc)) := Lib.hid fun w' hw _ => ⟨(hw.cell (p := ⟨gs, 0, none⟩) (show gs < _ by omega)).trans hsx, (hw.cell (p := ⟨gc, 0, none⟩) (show gc < _ by omega)).trans hcx, (hw.cell (p := ⟨g, q, none⟩) hgl).trans cq, (hw.cell (p := ⟨g, p, none⟩) hgl).trans cp⟩
  have han6 : an ≤ 600 := by omega
  clear fp9 gl9
  clear hG hP hlk hI hput hover hea hO sp sq hF hq hgl rp rq rb hl han hpn hbn ht htm hn1 hn2 lf1 lf2 hp hsx hcx cq cp fq hT hsd hiL hl2 hi
  go_enter Try.func47, Try.ntmps47
  go_upto_region 2 with fail
  generalize W.alloc (.cells #[.int .i64 (p : Nat), .int .i64 (q : Nat), .slice va bn vc] 75) = W1 at *
  clear hlx e0 e1 e2
  have HS0 := Lib.hid (show (fun w' : World => (w'.cell? ⟨gs, 0, none⟩ = some (.slice (some ⟨g, 0, none⟩) N N) ∧ w'.cell? ⟨gc, 0, none⟩ = some (.func (.func 60) #[] #[.pointer (some ⟨kk, 0, none⟩)]) ∧ w'.cell? ⟨g, q, none⟩ = some (.slice qa an qc) ∧ w'.cell? ⟨g, p, none⟩ = some (.slice pa pn pc)) ∧ w'.cell? ⟨W.heap.size, 0, none⟩ = some (.int .i64 (p : Nat)) ∧ w'.cell? ⟨W.heap.size, 1, none⟩ = some (.int .i64 (q : Nat)) ∧ w'.cell? ⟨W.heap.size, 2, none⟩ = some (.slice va bn vc)) W1.drew from ⟨HS.out W1.drew hb1.drew (by show _ < W1.heap.size; omega), x0, x1, x2⟩)
  have hdr : Below W.heap.size W W1.drew := hb1.drew
  have Hcat := Lib.hid (ahead_any k kk (.slice va bb.length vc) (.slice pa (stAt F (p : Int)).length pc) bb (stAt F (p : Int)) W1.drew ((HG.out.below hdr).kx) (by have := hs1; show kk < W1.heap.size; omega) HO.out.k1 ((Hrb.out.below hdr).mono (hdr.size)) ((Hrp.out.below hdr).mono hdr.size) Hea.out.1 Hsp.out.1 Hea.out.2.1 Hsp.out.2.1 (by have := Hea.out.2.2; omega) (by have := Hsp.out.2.2; omega))
  rw [← Hbn.out, ← Hpn.out] at Hcat
  have Hlen : Hid ((catL bb (stAt F (p : Int)) k).length ≤ 1000000) := Lib.hid (by
    have h1 : (catL bb (stAt F (p : Int)) k).length ≤ bb.length * (stAt F (p : Int)).length := by have := toSet_len (catsF bb (stAt F (p : Int)) k); rw [catsF_len] at this; exact this
    have h2 : bb.length * (stAt F (p : Int)).length ≤ 600 * 600 := Nat.mul_le_mul Hea.out.2.2 Hsp.out.2.2
    omega)
  have Hdr := Lib.hid hdr; have Hs1 := Lib.hid hs1
  clear hb1 x0 x1 x2 hdr hs1
  refine wp_region_ord 15 [(0, true), (1, true), (2, true), (3, true), (4, true), (5, true), (6, true), (7, true), (8, true), (9, true), (10, true), (11, true), (12, true), (13, false), (14, false), (15, false)] (fun w' : World => (w'.cell? ⟨gs, 0, none⟩ = some (.slice (some ⟨g, 0, none⟩) N N) ∧ w'.cell? ⟨gc, 0, none⟩ = some (.func (.func 60) #[] #[.pointer (some ⟨kk, 0, none⟩)]) ∧ w'.cell? ⟨g, q, none⟩ = some (.slice qa an qc) ∧ w'.cell? ⟨g, p, none⟩ = some (.slice pa pn pc)) ∧ w'.cell? ⟨W.heap.size, 0, none⟩ = some (.int .i64 (p : Nat)) ∧ w'.cell? ⟨W.heap.size, 1, none⟩ = some (.int .i64 (q : Nat)) ∧ w'.cell? ⟨W.heap.size, 2, none⟩ = some (.slice va bn vc)) (by kernel_rfl) (by kernel_rfl) HS0.out ?_
  simp only [ordL, List.getElem?_toArray, List.getElem?_cons_succ, List.getElem?_cons_zero]
  iterate 13 (
    refine ordW_read (v := ?_) (by rfl) ?_ (fun _ _ _ h => h) ?_
    rotate_left
    focus (intro w' hS; obtain ⟨⟨s0, s1, s2, s3⟩, s4, s5, s6⟩ := hS; go_simp; (try with_reducible rfl); done)
    try simp only [Act.put, List.setIfInBounds_toArray, List.set_cons_zero, List.set_cons_succ])
  refine ordW_do (by rfl) (fun K' HK2 => ?_)
  go_simp
  refine (Hcat.out).mono ?_
  rintro e w2 ⟨v2, rfl, hr2, hb2⟩
  obtain ⟨a2, c2, rfl, _, _⟩ := hr2.val
  have HB2 := Lib.hid (show Below W.heap.size W w2 from Hdr.out.trans (hb2.mono Hdr.out.size))
  have Hsz2 : Hid (W.heap.size < w2.heap.size) := Lib.hid (by have := hb2.size; have := Hs1.out; have h9 : W1.heap.size ≤ w2.heap.size := hb2.size; omega)
  have HS2 := Lib.hid (show (fun w' : World => (w'.cell? ⟨gs, 0, none⟩ = some (.slice (some ⟨g, 0, none⟩) N N) ∧ w'.cell? ⟨gc, 0, none⟩ = some (.func (.func 60) #[] #[.pointer (some ⟨kk, 0, none⟩)]) ∧ w'.cell? ⟨g, q, none⟩ = some (.slice qa an qc) ∧ w'.cell? ⟨g, p, none⟩ = some (.slice pa pn pc)) ∧ w'.cell? ⟨W.heap.size, 0, none⟩ = some (.int .i64 (p : Nat)) ∧ w'.cell? ⟨W.heap.size, 1, none⟩ = some (.int .i64 (q : Nat)) ∧ w'.cell? ⟨W.heap.size, 2, none⟩ = some (.slice va bn vc)) w2 from ⟨HS.out w2 HB2.out Hsz2.out, (hb2.cell (p := ⟨W.heap.size, 0, none⟩) (by have := Hs1.out; show W.heap.size < W1.heap.size; omega)).trans HS0.out.2.1, (hb2.cell (p := ⟨W.heap.size, 1, none⟩) (by have := Hs1.out; show W.heap.size < W1.heap.size; omega)).trans HS0.out.2.2.1, (hb2.cell (p := ⟨W.heap.size, 2, none⟩) (by have := Hs1.out; show W.heap.size < W1.heap.size; omega)).trans HS0.out.2.2.2⟩)
  obtain ⟨r2, hr2e⟩ : ∃ r2, r2 = catL bb (stAt F (p : Int)) k := ⟨_, rfl⟩
  rw [← hr2e] at hr2 Hlen Hlk Hput Hover ⊢
  have Hj := Lib.hid (packJoin_any (.slice qa (stAt F (q : Int)).length qc) (.slice a2 r2.length c2) (stAt F (q : Int)) r2 w2.heap.size w2.heap.size w2 (Nat.le_refl _) (Nat.le_refl _) ((Hrq.out.below HB2.out).mono HB2.out.size) hr2 (by have := Hsq.out.2.2; omega) Hlen.out)
  rw [← Han.out] at Hj
  refine HK2.out _ _ (fun _ => HS2.out) ?_
  clear HK2 K' hr2 hb2 Hcat HS0 hr2e
  try simp only [Act.put, List.setIfInBounds_toArray, List.set_cons_zero, List.set_cons_succ]
  refine ordW_do (by rfl) (fun K' HK2 => ?_)
  go_simp
  refine (Hj.out).mono ?_
  rintro e W3 ⟨v3, rfl, own3, hb3⟩
  obtain ⟨a3, c3, rfl, _, _⟩ := owns_valPK own3
  obtain ⟨A, hA⟩ : ∃ A, A = joinL (stAt F (q : Int)) r2 := ⟨_, rfl⟩
  rw [← hA] at own3 Hlk Hput Hover ⊢
  obtain ⟨gn, hgn⟩ : ∃ gn, gn = A.length := ⟨_, rfl⟩
  rw [← hgn] at own3 Hlk Hput Hover ⊢
  have Hown3 := Lib.hid own3
  have HB3 := Lib.hid (show Below W.heap.size W W3 from HB2.out.trans (hb3.mono HB2.out.size))
  have Hsz3 : Hid (W.heap.size < W3.heap.size) := Lib.hid (by have := hb3.size; have := Hsz2.out; omega)
  have HS3 := Lib.hid (show (fun w' : World => (w'.cell? ⟨gs, 0, none⟩ = some (.slice (some ⟨g, 0, none⟩) N N) ∧ w'.cell? ⟨gc, 0, none⟩ = some (.func (.func 60) #[] #[.pointer (some ⟨kk, 0, none⟩)]) ∧ w'.cell? ⟨g, q, none⟩ = some (.slice qa an qc) ∧ w'.cell? ⟨g, p, none⟩ = some (.slice pa pn pc)) ∧ w'.cell? ⟨W.heap.size, 0, none⟩ = some (.int .i64 (p : Nat)) ∧ w'.cell? ⟨W.heap.size, 1, none⟩ = some (.int .i64 (q : Nat)) ∧ w'.cell? ⟨W.heap.size, 2, none⟩ = some (.slice va bn vc)) W3 from ⟨HS.out W3 HB3.out Hsz3.out, (hb3.cell (p := ⟨W.heap.size, 0, none⟩) Hsz2.out).trans HS2.out.2.1, (hb3.cell (p := ⟨W.heap.size, 1, none⟩) Hsz2.out).trans HS2.out.2.2.1, (hb3.cell (p := ⟨W.heap.size, 2, none⟩) Hsz2.out).trans HS2.out.2.2.2⟩)
  refine HK2.out _ _ (fun _ => HS3.out) ?_
  have Hgn := Lib.hid hgn; have HA := Lib.hid hA
  clear HK2 K' own3 hb3 Hj HS2 hgn hA
  try simp only [Act.put, List.setIfInBounds_toArray, List.set_cons_zero, List.set_cons_succ]
  refine ordW_do (by rfl) (fun K' HK2 => ?_)
  go_simp
  refine HK2.out _ _ (fun h => absurd rfl h) (ordW_nil ?_)
  clear HK2 K'
  have hG3 := HG.out.below HB3.out
  have hex : W3.cell? ⟨ge, 0, none⟩ = some (.int .i64 0) := by rw [cell_of_row W3 ge _ _ _ (0, 0) hG3.ex]; rfl
  have hef : W3.frozen? ⟨ge, 0, none⟩ = false := by simp [World.frozen?, hG3.ex]
  have hgl : g < W3.heap.size := by have := hG3.lt; omega
  have hgel : ge < W3.heap.size := by have := hG3.lt; omega
  have HG3 := Lib.hid hG3
  obtain ⟨⟨c0, _, c2', _⟩, c4, c5, _⟩ := HS3.out
  have fq3 : W3.frozen? ⟨g, q, none⟩ = false := by
    obtain ⟨_, _, _, h, _, _⟩ := hG3.at_ q Hq.out
    exact h
  clear hG3 HS3 HS
  by_cases hov : 600 < gn
  · have q1 : decide (600 < gn) = true := decide_eq_true hov
    have q2 : decide ((600 : Int) < (gn : Int)) = true := decide_eq_true (by omega)
    have HE : Hid (LookFP T k z N s0 gl gs gc ge kk g n1 (.slice (some ⟨lb, 0, none⟩) ll lc) L W (X.map (·.2)) P i (.returned (.tuple #[.int .i64 (-1), .bool false])) (W3.setCell ⟨ge, 0, none⟩ (.int .i64 15))) := Lib.hid (.inr ⟨_, rfl, QF.made HG3.out.ex HB3.out ⟨F, HI.out.sound, Hover.out hov⟩⟩)
    clear hov
    go_wp2_with fail
    go_ret2
    exact HE.out
  · have q1 : decide (600 < gn) = false := decide_eq_false hov
    have q2 : decide ((600 : Int) < (gn : Int)) = false := decide_eq_false (by omega)
    have hl3 := Hlk.out
    rw [if_neg hov] at hl3
    by_cases hsm : gn = an
    · have q3 : ((gn : Int) == (an : Int)) = true := by simp [hsm]
      have q4 : (gn == an) = true := by simp [hsm]
      have q5 : decide (gn = an) = true := decide_eq_true hsm
      rw [if_pos (hsm.trans Han.out)] at hl3
      have HE : Hid (LookFP T k z N s0 gl gs gc ge kk g n1 (.slice (some ⟨lb, 0, none⟩) ll lc) L W (X.map (·.2)) P i (.returned (.tuple #[.int .i64 (-1), .bool true])) W3) := Lib.hid (by
        rw [HF.out] at hl3
        refine .inl ⟨by rw [hl3], ⟨P, ?_, fun y hy => ⟨.inl hy, Nat.lt_of_lt_of_le (HP.out y hy) HB3.out.size⟩⟩, KB.of_below HB3.out⟩
        rw [hl3]; exact ⟨X, rfl, HG3.out⟩)
      clear hov hl3 Hlk
      subst hsm
      go_wp2_with fail
      go_ret2
      exact HE.out
    · have q3 : ((gn : Int) == (an : Int)) = false := by rw [beq_eq_false_iff_ne]; omega
      have q4 : (gn == an) = false := by rw [beq_eq_false_iff_ne]; exact hsm
      have q5 : decide (gn = an) = false := decide_eq_false hsm
      rw [if_neg (fun h => hsm (h.trans Han.out.symm))] at hl3
      have hput := HG3.out.put q Hq.out (.slice a3 gn c3) A w2.heap.size (by rw [← Hgn.out]; exact Hown3.out) (by have := HB2.out.size; have := Hgl.out; omega)
      have HE : Hid (LookFP T k z N s0 gl gs gc ge kk g n1 (.slice (some ⟨lb, 0, none⟩) ll lc) L W (X.map (·.2)) P i (.returned (.tuple #[.int .i64 (q : Int), .bool true])) (W3.setCell ⟨g, q, none⟩ (.slice a3 gn c3))) := Lib.hid (by
        rw [HF.out] at hl3
        refine .inl ⟨by rw [hl3], ⟨fun y => P y ∨ (Value.slice a3 gn c3).ownBlock = some y, ?_, fun y hy => ?_⟩, KB.setCell (KB.of_below HB3.out) (p := ⟨g, q, none⟩) (.inr rfl) _⟩
        · rw [hl3]; exact ⟨X.set q (.slice a3 gn c3, A), by rw [List.map_set], hput⟩
        · have hs : (W3.setCell ⟨g, q, none⟩ (.slice a3 gn c3)).heap.size = W3.heap.size := by simp [World.setCell]
          rw [hs]
          rcases hy with h1 | h1
          · exact ⟨.inl h1, Nat.lt_of_lt_of_le (HP.out y h1) HB3.out.size⟩
          · have h2 := Hown3.out.lt y h1
            exact ⟨.inr (Nat.le_trans HB2.out.size h2.1), h2.2⟩)
      have c5' : (W3.setCell ⟨g, q, none⟩ (.slice a3 gn c3)).cell? ⟨W.heap.size, 1, none⟩ = some (.int .i64 (q : Nat)) := (cell_eq (p := ⟨W.heap.size, 1, none⟩) (Below.heap_setCell _ _ _ _ (by have := Hgl.out; show W.heap.size ≠ g; omega))).trans c5
      clear hov hl3 Hlk hput hsm
      go_wp2_with fail
      go_ret2
      exact HE.out
end Go.Proofs.Ytimgnbacgdmiiaa
