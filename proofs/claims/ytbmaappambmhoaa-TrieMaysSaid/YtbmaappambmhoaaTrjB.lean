/-
  (trie.Trie).Sets: its inner function.
-/
import Derived.Test.YtbmaappambmhoaaTrjA
import Derived.BigRegion
import Derived.Deep.RegionWith
namespace Go.Proofs.Ytbmaappambmhoaa
open Go.RowKit PK
set_option linter.unusedVariables false
set_option linter.unusedSimpArgs false
attribute [local go_sem ↓] append_appM

/-- What gather's captured boxes hold. -/
structure GEnv (w : World) (B n bT bS bF : Nat) (K : Int) (v : Value) (N : List Nd) : Prop where
  nr : NR w B v N
  hB : B ≤ bS
  hn : B ≤ n
  t0 : w.cell? ⟨bT, 0, none⟩ = some (.int .i64 K)
  t1 : w.cell? ⟨bT, 1, none⟩ = some v
  f0 : w.cell? ⟨bF, 0, none⟩ = some (.func (.func 58) #[] #[.pointer (some ⟨bT, 0, none⟩), .pointer (some ⟨bS, 0, none⟩), .pointer (some ⟨bF, 0, none⟩)])
  tl : bT < n ∧ bT ≠ bS
  fl : bF < n ∧ bF ≠ bS
theorem GEnv.kb {w w' B n bT bS bF K v N} (h : GEnv w B n bT bS bF K v N) (hk : KB n bS w w') : GEnv w' B n bT bS bF K v N :=
  ⟨h.nr.below (hk.below h.hB h.hn), h.hB, h.hn, (cell_eq (p := ⟨bT, 0, none⟩) (hk.block _ h.tl.1 h.tl.2)).trans h.t0, (cell_eq (p := ⟨bT, 1, none⟩) (hk.block _ h.tl.1 h.tl.2)).trans h.t1, (cell_eq (p := ⟨bF, 0, none⟩) (hk.block _ h.fl.1 h.fl.2)).trans h.f0, h.tl, h.fl⟩
/-- What gather leaves. -/
def GPost (n bS : Nat) (w : World) (vo : Value) (X : List (Value × List Tx)) (E : List (Tx × Nat)) (e : Ending) (w' : World) : Prop :=
  e = .returned (.tuple #[]) ∧ ∃ vo' X', SBox w' n bS vo' X' ∧ X'.map (·.2) = addAll (X.map (·.2)) E ∧ KS bS w w' vo X vo' X'
def lenAt (bS : Nat) (w : World) : Nat := match w.cell? ⟨bS, 0, none⟩ with | some v => slen v | none => 0
theorem ext_done (C : List (List Tx)) (k x : Nat) (h1 : k = 0 ∨ C.length + k ≤ x + 1) (h2 : x < C.length + k) : C ++ List.replicate k [] = extE C x := by
  unfold extE
  congr 2
  rcases h1 with rfl | h1 <;> omega

theorem set_modify {α : Type} (L : List α) (x : Nat) (a : α) (f : α → α) (h : L[x]? = some a) : L.set x (f a) = L.modify x f := by
  have hl := (List.getElem?_eq_some_iff.1 h).1
  apply List.ext_getElem?
  intro j
  rw [List.getElem?_set, List.getElem?_modify]
  by_cases e : x = j
  · subst e; rw [if_pos rfl, if_pos hl, h]; simp
  · rw [if_neg e]; simp [e]
set_option maxHeartbeats 4000000 in
set_option maxRecDepth 100000 in
theorem gather_leaf (B n bT bS bF : Nat) (K : Int) (v : Value) (N : List Nd) (i x : Nat) (p : Tx) (w : World) (vo : Value) (X : List (Value × List Tx)) (hx : x < 20000) (hn : N[i]? = some ⟨(x : Nat), [], []⟩) (hN : N.length ≤ 20000) (h : GEnv w B n bT bS bF K v N) (hs : SBox w n bS vo X)
    (hX : X.length ≤ 20000) (hr : ∀ y ∈ X, y.2.length ≤ 100000) :
    Calls Try.prog 58 #[.int .i64 i, .string ⟨p.toArray⟩, .pointer (some ⟨bT, 0, none⟩), .pointer (some ⟨bS, 0, none⟩), .pointer (some ⟨bF, 0, none⟩)] w (GPost n bS w vo X [(p, x)]) := by
  obtain ⟨hi, hn2⟩ := List.getElem?_eq_some_iff.1 hn
  obtain ⟨ao, c, rfl, hc1, hc2⟩ := h.nr.val
  obtain ⟨b, off, a1, c1, a2, c2, rfl, hb, e0, e1, e2, r1, r2, k1, k2, k3, k4⟩ := h.nr.get i hi
  rw [hn2] at e0 e1 e2
  have t1 := h.t1
  have hii : (i : Int) < (N.length : Int) := by omega
  have hi0 : (0 : Int) ≤ (i : Int) := by omega
  have Hs := Lib.hid hs; have HX := Lib.hid hX; have Hr := Lib.hid hr; have Hx := Lib.hid hx
  obtain ⟨s, hsp⟩ : ∃ s : ByteArray, s = ⟨p.toArray⟩ := ⟨_, rfl⟩
  rw [← hsp]
  have Hsp := Lib.hid hsp
  have hN63 : N.length ≤ 9223372036854775807 := by omega
  have hn0 := cell_new w #[.int .i64 ((x : Nat) : Int), .slice a1 0 c1, .slice a2 0 c2] 59 0 _ rfl
  have hn1 := cell_new w #[.int .i64 ((x : Nat) : Int), .slice a1 0 c1, .slice a2 0 c2] 59 1 _ rfl
  have hbw : Below w.heap.size w (w.alloc (.cells #[.int .i64 ((x : Nat) : Int), .slice a1 0 c1, .slice a2 0 c2] 59)) := (Below.refl _ w).alloc (Nat.le_refl _) _
  have Hs1 := Lib.hid (hs.keep hbw)
  have hszw : (w.alloc (.cells #[.int .i64 ((x : Nat) : Int), .slice a1 0 c1, .slice a2 0 c2] 59)).heap.size = w.heap.size + 1 := by simp
  have Hks0 : Hid (KS bS w (w.alloc (.cells #[.int .i64 ((x : Nat) : Int), .slice a1 0 c1, .slice a2 0 c2] 59)) vo X vo X) := Lib.hid (KS.of_below vo X hbw)
  have hfoot : ∀ u ∈ vo :: X.map (·.1), u.ownBlock ≠ some w.heap.size := fun u hu e => by have := (hs.rows.lt hu e).2; omega
  have hbSw : bS ≠ w.heap.size := by have := hs.lo; have := hs.hi; omega
  have HK : Hid (∀ W vo' X', KS bS (w.alloc (.cells #[.int .i64 ((x : Nat) : Int), .slice a1 0 c1, .slice a2 0 c2] 59)) W vo X vo' X' → W.cell? ⟨w.heap.size, 0, none⟩ = some (.int .i64 ((x : Nat) : Int)) ∧ W.cell? ⟨w.heap.size, 1, none⟩ = some (.slice a1 0 c1) ∧ w.heap.size < W.heap.size) := Lib.hid fun W vo' X' hW => by
    have h1 := hW.block w.heap.size (by rw [hszw]; omega) (Ne.symm hbSw) hfoot
    exact ⟨(cell_eq (p := ⟨w.heap.size, 0, none⟩) h1).trans hn0, (cell_eq (p := ⟨w.heap.size, 1, none⟩) h1).trans hn1, by have := hW.size; rw [hszw] at this; omega⟩
  have Hn0 := Lib.hid hn0; have Hn1 := Lib.hid hn1; have Hszw := Lib.hid hszw
  clear hn hn2 h hs hX hr hx hsp r1 r2 k1 k2 k3 k4 hc1 hc2 hb hN hn0 hn1 hbw hszw hfoot hbSw
  go_enter Try.func58, Try.ntmps58
  go_wp2_with fail
  generalize w.alloc (.cells #[.int .i64 ((x : Nat) : Int), .slice a1 0 c1, .slice a2 0 c2] 59) = w1 at *
  go_loopw [15] (fun _ wr => ∃ (k : Nat) (vr : Value) (Xr : List (Value × List Tx)), Hid (SBox wr n bS vr Xr) ∧ Hid (Xr.map (·.2) = X.map (·.2) ++ List.replicate k []) ∧ Hid (k = 0 ∨ X.length + k ≤ x + 1) ∧ Hid (KS bS w1 wr vo X vr Xr)) (fun _ wr => x + 1 - lenAt bS wr)
  case atStart => exact ⟨0, vo, X, Hs1, Lib.hid (by simp), Lib.hid (.inl rfl), Lib.hid (KS.refl _ _ _ _)⟩
  case round =>
    obtain ⟨k, vr, Xr, HS, HC, Hk, HKr⟩ := hrel
    obtain ⟨l0, l1, l2⟩ := HK.out wr vr Xr HKr.out
    obtain ⟨c0, f0, g0⟩ := HS.out.cell
    have hXl : Xr.length = X.length + k := by
      have h := congrArg List.length HC.out
      rw [List.length_map, List.length_append, List.length_map, List.length_replicate] at h; exact h
    obtain ⟨ar, cr, rfl, hcr1, hcr2⟩ := owns_valP HS.out.rows.out
    unfold maxLen at hcr2
    have hXb : Xr.length ≤ 20001 := by have := HX.out; have := Hx.out; have := Hk.out; omega
    have hX63 : Xr.length ≤ 9223372036854775807 := by omega
    have hlen : lenAt bS wr = Xr.length := by unfold lenAt; rw [c0]; rfl
    by_cases hle : Xr.length ≤ x
    · obtain ⟨a5, d5, w5, happ, u1, u2, u3, u4, u5, st5, ks5⟩ := HS.out.push (by omega)
      have hlei : (Xr.length : Int) ≤ (x : Int) := by omega
      have q1 : decide ((Xr.length : Int) ≤ (x : Int)) = true := decide_eq_true hlei
      have q2 : decide (Xr.length ≤ x) = true := decide_eq_true hle
      have HS5 := Lib.hid st5
      have HC5 : Hid ((Xr ++ [((.slice none 0 0 : Value), ([] : List Tx))]).map (·.2) = X.map (·.2) ++ List.replicate (k + 1) []) := Lib.hid (by
        rw [List.map_append, HC.out, List.append_assoc, List.replicate_succ']; rfl)
      have Hk5 : Hid (k + 1 = 0 ∨ X.length + (k + 1) ≤ x + 1) := Lib.hid (.inr (by omega))
      have HK5 := Lib.hid (HKr.out.trans ks5)
      have Hm5 : Hid (lenAt bS (w5.setCell ⟨bS, 0, none⟩ (.slice a5 (Xr.length + 1) d5)) = Xr.length + 1) := Lib.hid (by unfold lenAt; rw [st5.cell.1]; rfl)
      have Hlen := Lib.hid hlen; have Hle := Lib.hid hle
      clear st5 ks5 hle hlen hXl hXb hcr1 hcr2
      go_wp2_with fail
      go_roundw
      case rel => exact ⟨k + 1, _, _, HS5, HC5, Hk5, HK5⟩
      case measure => have h1 := Hlen.out; have h2 := Hm5.out; have h3 := Hle.out; omega
    · have hlt : x < Xr.length := by omega
      obtain ⟨xr, hxr⟩ : ∃ xr, Xr[x]? = some xr := ⟨_, List.getElem?_eq_getElem hlt⟩
      obtain ⟨b, rfl, hbB, hbl, y1, yf⟩ := HS.out.rows.at x xr hxr
      have hext : Xr.map (·.2) = extE (X.map (·.2)) x := by rw [HC.out]; exact ext_done _ k x (by rw [List.length_map]; exact Hk.out) (by rw [List.length_map]; omega)
      have hxrl : xr.2.length ≤ 100000 := by
        have h1 : xr.2 ∈ Xr.map (·.2) := List.mem_map.2 ⟨xr, List.mem_of_getElem? hxr, rfl⟩
        rw [HC.out, List.mem_append] at h1
        rcases h1 with h1 | h1
        · obtain ⟨y, hy, e⟩ := List.mem_map.1 h1
          rw [← e]; exact Hr.out y hy
        · rw [(List.mem_replicate.1 h1).2]; simp
      obtain ⟨a6, d6, w6, happ, u1, u2, u3, u4, u5, u6, st6, ks6⟩ := HS.out.append x xr hxr p s Hsp.out (by omega)
      have q1 : decide ((Xr.length : Int) ≤ (x : Int)) = false := decide_eq_false (by omega)
      have q2 : decide (Xr.length ≤ x) = false := decide_eq_false hle
      have hxi : (x : Int) < (Xr.length : Int) := by omega
      have hx0 : (0 : Int) ≤ (x : Int) := by omega
      have Bb := (Below.refl wr.heap.size wr).alloc (Nat.le_refl _) (.cells #[.string s] 9)
      have za := (Bb.cell (p := ⟨bS, 0, none⟩) g0).trans c0
      have zb := (Bb.cell (p := ⟨w.heap.size, 0, none⟩) l2).trans l0
      have zc := (Bb.cell (p := ⟨b, x, none⟩) hbl).trans y1
      have hw6l : w6.cell? ⟨w.heap.size, 0, none⟩ = some (.int .i64 ((x : Nat) : Int)) := by
        have h := (HK.out _ _ _ (HKr.out.trans ks6)).1
        have hb : w.heap.size ≠ b := by
          rcases HKr.out.foot _ List.mem_cons_self b rfl with ⟨u, hu, e⟩ | h1
          · have := (Hs.out.rows.lt hu e).2; omega
          · have := Hszw.out; omega
        rw [cell_eq (p := ⟨w.heap.size, 0, none⟩) (Below.heap_setCell _ _ _ _ hb)] at h; exact h
      have HS6 := Lib.hid st6
      have HC6 : Hid ((Xr.set x (.slice a6 (xr.2.length + 1) d6, xr.2 ++ [p])).map (·.2) = addAll (X.map (·.2)) [(p, x)]) := Lib.hid (by
        rw [List.map_set]
        show _ = addE (X.map (·.2)) (p, x)
        unfold addE
        rw [← hext]
        exact set_modify (Xr.map (·.2)) x xr.2 (· ++ [p]) (by rw [List.getElem?_map, hxr]; rfl))
      have HK6 := Lib.hid (HKr.out.trans ks6)
      have hcell6 := HK.out _ _ _ HK6.out
      clear st6 ks6 Bb hext hxrl hle hlt hXl hlen hXb hcr1 hcr2 u1 HS HC Hk hxr yf hbB
      go_upto_region 4 with fail
      go_big_region
      generalize w6.setCell ⟨b, x, none⟩ (.slice a6 (xr.2.length + 1) d6) = w7 at *
      obtain ⟨z0, z1, z2⟩ := hcell6
      clear happ u2 u3 u4 u5 u6 za zb zc hw6l c0 f0 g0 l0 l1 l2 y1 hbl hxi hx0
      go_wp2_with fail
      go_loopw [41] (fun kx wx => kx = .int .i64 0 ∧ wx = w7) (fun _ _ => 0)
      case atStart => exact ⟨rfl, rfl⟩
      case round =>
        obtain ⟨rfl, rfl⟩ := hrel
        go_wp2_with fail
        refine bodyPost_end (v := .tuple #[]) (by first | rfl | simp [results, Try.results58, go_sem]) rfl ⟨rfl, _, _, HS6.out, HC6.out, Hks0.out.trans HK6.out⟩
end Go.Proofs.Ytbmaappambmhoaa
