/-
  tuple.Cat of texts.
  pack.begun; the document's Cat.
  pack.Cat: the map of what room is left to the beginnings; what a round of it holds.
  pack.Cat: walked.
-/
import Derived.Test.YtimgnbacgdmiiaaKCatB
import Derived.Test.YtimgnbacgdmiiaaKPackE
import Derived.Deep.RegionWith
import Derived.Maps.OwnSet
import Derived.Maps.Views
import Derived.Deep.DeepCutAuto
import Derived.Deep.CutBlock
import Derived.Deep.CutRange
namespace Go.Proofs.Ytimgnbacgdmiiaa
open Go.RowKit

open PK in
def catT (x y : Tx) (k : Int) : Tx := (x ++ y).take k.toNat
open PK in
theorem catB_T (x y : Tx) (k : Int) : catB ⟨x.toArray⟩ ⟨y.toArray⟩ k = ⟨(catT x y k).toArray⟩ := rfl
open PK in
theorem catT_any (x y : Tx) (k : Int) (w : World) (hx : x.length ≤ 1000) (hy : y.length ≤ 1000) (hk : -9223372036854775808 ≤ k ∧ k ≤ 9223372036854775807) (s t : ByteArray) (hs : s = ⟨x.toArray⟩) (ht : t = ⟨y.toArray⟩) :
    Calls Try.prog 92 #[.string s, .string t, .int .i64 k] w fun e w' => e = .returned (.string ⟨(catT x y k).toArray⟩) ∧ w' = w := by
  subst hs; subst ht
  exact tupleCat_any _ _ k w (by rw [tx_size]; omega) (by rw [tx_size]; omega) hk
open PK in
theorem refCatT_any (x y : Tx) (k : Int) (w : World) (hx : x.length ≤ 1000) (hy : y.length ≤ 1000) (hk : -9223372036854775808 ≤ k ∧ k ≤ 9223372036854775807) (s t : ByteArray) (hs : s = ⟨x.toArray⟩) (ht : t = ⟨y.toArray⟩) :
    Calls Try.prog 68 #[.string s, .string t, .int .i64 k] w fun e w' => e = .returned (.string ⟨(catT x y k).toArray⟩) ∧ w' = w := by
  subst hs; subst ht
  exact refCat_any _ _ k w (by rw [tx_size]; omega) (by rw [tx_size]; omega) hk
end Go.Proofs.Ytimgnbacgdmiiaa
namespace Go.Proofs.Ytimgnbacgdmiiaa
open Go.RowKit PK
set_option linter.unusedVariables false
attribute [local go_sem ↓] append_appM

/-- A text put behind a row of its own, in a region that draws nothing. -/
theorem pushT0 (X : World) (base n : Nat) (v : Value) (l : List Tx) (x : Tx) (hb : base ≤ X.heap.size) (hn : l.length = n) (hown : X.ownsRow base 9 1 v n (svt l)) (hm : n + 1 ≤ 1000000) (s : ByteArray) (hs : s = ⟨x.toArray⟩) :
    ∃ ao c w', Sem.run Try.prog (appM #[32, 32] 32 #[v, .slice (some ⟨X.heap.size, 0, none⟩) 1 1]) (X.alloc (.cells #[.string s] 9)) = .ok (.slice ao (n + 1) c) w' ∧ w'.ownsRow base 9 1 (.slice ao (n + 1) c) (n + 1) (svt (l ++ [x])) ∧ Below base X w' ∧ n + 1 ≤ c ∧ c ≤ maxLen ∧ (X.alloc (.cells #[.string s] 9)).grownBy w' v.ownBlock := by
  subst hs
  have rt : Row (X.alloc (.cells #[.string ⟨x.toArray⟩] 9)) (X.heap.size + 1) 1 (.slice (some ⟨X.heap.size, 0, none⟩) 1 1) 1 (svt [x]) := row_cellsB X (svt [x]) 1 1 1 _ rfl (Nat.le_refl _) (by unfold maxLen; omega)
  obtain ⟨ao, c, w', h1, h2, h3, h4, h5⟩ := appG (X.alloc (.cells #[.string ⟨x.toArray⟩] 9)) base n v l (by simp; omega) hn (hown.alloc _) _ 1 _ [x] rt (by omega)
  exact ⟨ao, c, w', h1, h2, ((Below.refl base X).alloc hb _).grown h3 (by simp; omega) (fun k hk => (hown.lt k hk).1), h4, h5, h3⟩

def begT (b : List Tx) (n : Nat) : List Tx := b.map (·.take n)
theorem begT_succ (b : List Tx) (n k : Nat) (hk : k < b.length) : begT (b.take k) n ++ [b[k].take n] = begT (b.take (k + 1)) n := by
  unfold begT; rw [List.take_succ_eq_append_getElem hk, List.map_append]; rfl
theorem catT_nil (x : Tx) (n : Nat) : catT [] x (n : Int) = x.take n := by unfold catT; simp
theorem catT_len (x y : Tx) (k : Int) : (catT x y k).length ≤ x.length + y.length := by unfold catT; rw [List.length_take, List.length_append]; omega

set_option maxHeartbeats 1000000 in
set_option maxRecDepth 100000 in
theorem begun_any (v : Value) (b : List Tx) (n B : Nat) (w : World) (hB : B ≤ w.heap.size) (r : Row w B 1 v b.length (svt b)) (hl : b.length ≤ 10000) (hx : ∀ x ∈ b, x.length ≤ 1000) (hn : n ≤ 9223372036854775807) :
    Calls Try.prog 91 #[v, .int .i64 n] w (OwnT w (toSet (begT b n))) := by
  obtain ⟨ao, c, rfl, hc1, hc2⟩ := r.val
  have hl63 : b.length ≤ 9223372036854775807 := by unfold maxLen at hc2; omega
  have R := Lib.hid r; have Hx := Lib.hid hx; have Hn := Lib.hid hn
  clear r hx hn
  go_enter Try.func91, Try.ntmps91
  go_wp2_with fail
  go_loopw [5, 7, 10] (fun o _ i wr => ∃ k : Nat, k ≤ b.length ∧ i = .int .i64 k ∧ wr.ownsRow w.heap.size 9 1 o k (svt (begT (b.take k) n)) ∧ Below w.heap.size w wr) (fun _ _ i _ => b.length - (intOf i).toNat)
  case atStart => exact ⟨0, Nat.zero_le _, rfl, World.ownsRow_nil _ _ _ _, Below.refl _ _⟩
  case round =>
    obtain ⟨k, hk, rfl, hown, hbel⟩ := hrel
    obtain ⟨oo, oc, rfl, ho1, ho2⟩ := owns_valPK hown
    have Hown := Lib.hid hown; have Hbel := Lib.hid hbel
    by_cases hlt : k < b.length
    · have a1 := R.out.below (hbel.mono hB)
      obtain ⟨b1, o1, rfl, hb1, _⟩ := a1.at (by rw [svt_length]; omega)
      have c10 := a1.cell k _ (svt_at b k hlt)
      have hk0 : (k : Int) < (b.length : Int) := by omega
      have hk1 : (0 : Int) ≤ (k : Int) := by omega
      have hxl := Hx.out _ (List.getElem_mem hlt)
      have Hst := Lib.hid (begT_succ b n k hlt)
      have Hc := Lib.hid (catT_any [] b[k] (n : Int) wr (by simp) hxl (by have := Hn.out; omega) ByteArray.empty _ rfl rfl)
      have hcn := catT_nil b[k] n
      obtain ⟨vo, vc, w2, happ, hown2, hbel2, hv1, hv2, _⟩ := pushT0 wr w.heap.size k (.slice oo k oc) _ (b[k].take n) hbel.size (by unfold begT; rw [List.length_map, List.length_take]; omega) hown (by omega) _ rfl
      rw [← hcn] at happ
      have Hown2 := Lib.hid hown2; have Hbel2 := Lib.hid (hbel.trans hbel2)
      unfold maxLen at hv2
      clear a1 hown hbel hown2 hbel2 hcn hxl
      generalize b[k] = x at *
      generalize catT [] x (n : Int) = y at *
      go_wp2_with fail
      refine (Hc.out).mono ?_
      rintro e w' ⟨rfl, rfl⟩
      go_wp2_with fail
      go_roundw
      case rel => exact ⟨k + 1, hlt, by go_num, by have h := Hown2.out; rw [Hst.out] at h; exact h, Hbel2.out⟩
      case measure => simp [intOf]; omega
    · obtain rfl : k = b.length := by omega
      have hlen : (begT (b.take b.length) n).length = b.length := by unfold begT; simp
      rw [List.take_length] at hlen Hown
      have hm := Lib.hid (made_any (.slice oo b.length oc) (begT b n) w.heap.size wr hbel.size (by rw [hlen]; exact Hown.out) (by rw [hlen]; omega))
      clear hown hbel hlen
      go_wp2_with fail
      refine (hm.out).mono ?_
      rintro e w2 ⟨v2, rfl, own2, b2⟩
      go_wp2_with fail
      go_ret
      exact ⟨_, rfl, own2, Hbel.out.trans b2⟩

/-- Each of a and each of b, one behind the other. -/
def catsF (a b : List Tx) (k : Int) : List Tx := a.flatMap fun x => b.map fun y => catT x y k
theorem catsF_take (a b : List Tx) (k : Int) (i : Nat) (hi : i < a.length) : catsF (a.take i) b k ++ b.map (fun y => catT a[i] y k) = catsF (a.take (i + 1)) b k := by
  unfold catsF; rw [List.take_succ_eq_append_getElem hi, List.flatMap_append]; simp
theorem inner_take (a b : List Tx) (x : Tx) (k : Int) (L : List Tx) (j : Nat) (hj : j < b.length) : putL (toSet (L ++ (b.take j).map fun y => catT x y k)) (catT x b[j] k) = toSet (L ++ (b.take (j + 1)).map fun y => catT x y k) := by
  rw [putL_toSet, List.take_succ_eq_append_getElem hj, List.map_append, List.append_assoc]; rfl
theorem catsF_len (a b : List Tx) (k : Int) : (catsF a b k).length = a.length * b.length := by
  unfold catsF
  induction a with
  | nil => simp
  | cons x a ih => rw [List.flatMap_cons, List.length_append, ih, List.length_map, List.length_cons, Nat.succ_mul, Nat.add_comm]
def catL (a b : List Tx) (k : Int) : List Tx := toSet (catsF a b k)

set_option maxHeartbeats 2000000 in
set_option maxRecDepth 100000 in
theorem refCat13_any (v1 v2 : Value) (a b : List Tx) (k : Int) (w : World) (r1 : Row w w.heap.size 1 v1 a.length (svt a)) (r2 : Row w w.heap.size 1 v2 b.length (svt b)) (ha : a.length ≤ 650) (hb : b.length ≤ 650) (hxa : ∀ x ∈ a, x.length ≤ 1000) (hxb : ∀ x ∈ b, x.length ≤ 1000) (hk : -9223372036854775808 ≤ k ∧ k ≤ 9223372036854775807) :
    Calls Try.prog 39 #[v1, v2, .int .i64 k] w (OwnT w (catL a b k)) := by
  obtain ⟨ao, c, rfl, hc1, hc2⟩ := r1.val
  obtain ⟨bo, d, rfl, hd1, hd2⟩ := r2.val
  have hl63 : a.length ≤ 9223372036854775807 := by omega
  have hl64 : b.length ≤ 9223372036854775807 := by omega
  have R1 := Lib.hid r1; have R2 := Lib.hid r2; have Hxa := Lib.hid hxa; have Hxb := Lib.hid hxb; have Hk := Lib.hid hk
  clear r1 r2 hxa hxb hk
  have hown0 := World.ownsRow_made (base := w.heap.size) (e := 9) (size := 1) w #[] 0 (Nat.le_refl _) (Nat.zero_le _) rfl
  go_enter Try.func39, Try.ntmps39
  go_wp2_with fail
  go_loopw [7, 8] (fun o i wr => ∃ m : Nat, m ≤ a.length ∧ i = .int .i64 m ∧ wr.ownsRow w.heap.size 9 1 o (catL (a.take m) b k).length (svt (catL (a.take m) b k)) ∧ Below w.heap.size w wr) (fun _ i _ => a.length - (intOf i).toNat)
  case atStart => exact ⟨0, Nat.zero_le _, rfl, by rw [List.take_zero]; unfold catL catsF; rw [List.flatMap_nil, toSet_nil]; exact hown0, (Below.refl _ w).alloc (Nat.le_refl _) _⟩
  case round =>
    obtain ⟨m, hm, rfl, hown, hbel⟩ := hrel
    have Hown := Lib.hid hown; have Hbel := Lib.hid hbel
    clear hown hbel
    by_cases hlt : m < a.length
    · have hm0 : (m : Int) < (a.length : Int) := by omega
      have hm1 : (0 : Int) ≤ (m : Int) := by omega
      have Hfl := Lib.hid (catsF_take a b k m hlt)
      have hlen := catsF_len (a.take m) b k
      rw [List.length_take, Nat.min_eq_left hm] at hlen
      have hxl := Hxa.out _ (List.getElem_mem hlt)
      have hcell := Lib.hid (fun (W : World) (h : Below w.heap.size w W) => (R1.out.below h).at (by rw [svt_length]; omega))
      have hmul : m * b.length ≤ 500000 := Nat.le_trans (Nat.mul_le_mul (Nat.le_trans hm ha) hb) (by omega)
      have Hlen : Hid ((catsF (a.take m) b k).length ≤ 500000) := Lib.hid (by rw [hlen]; exact hmul)
      clear hlen hmul
      unfold catL at Hown
      generalize catsF (a.take m) b k = L at *
      obtain ⟨wo, rfl⟩ : ∃ wo : World, wo = wr := ⟨_, rfl⟩
      go_wp2_with fail
      go_loopw [7, 9] (fun o j wx => ∃ n : Nat, n ≤ b.length ∧ j = .int .i64 n ∧ wx.ownsRow w.heap.size 9 1 o (toSet (L ++ (b.take n).map fun y => catT a[m] y k)).length (svt (toSet (L ++ (b.take n).map fun y => catT a[m] y k))) ∧ Below w.heap.size w wx) (fun _ j _ => b.length - (intOf j).toNat)
      case atStart => exact ⟨0, Nat.zero_le _, rfl, by rw [List.take_zero, List.map_nil, List.append_nil]; exact Hown.out, Hbel.out⟩
      case round =>
        obtain ⟨n, hn, rfl, hown, hbx⟩ := hrel
        have Hown2 := Lib.hid hown; have Hbx := Lib.hid hbx
        by_cases hnl : n < b.length
        · have a1 := R1.out.below hbx
          have a2 := R2.out.below hbx
          obtain ⟨b1, o1, rfl, hb1, _⟩ := a1.at (by rw [svt_length]; omega)
          obtain ⟨b2, o2, rfl, hb2, _⟩ := a2.at (by rw [svt_length]; omega)
          have c10 := a1.cell m _ (svt_at a m hlt)
          have c20 := a2.cell n _ (svt_at b n hnl)
          have hn0 : (n : Int) < (b.length : Int) := by omega
          have hn1 : (0 : Int) ≤ (n : Int) := by omega
          have hyl := Hxb.out _ (List.getElem_mem hnl)
          have Hst := Lib.hid (inner_take a b a[m] k L n hnl)
          have hln := toSet_len (L ++ (b.take n).map fun y => catT a[m] y k)
          rw [List.length_append, List.length_map, List.length_take] at hln
          have Hc := Lib.hid (fun W => refCatT_any a[m] b[n] k W hxl hyl Hk.out _ _ rfl rfl)
          have Hp := Lib.hid (refPut_any _ (toSet (L ++ (b.take n).map fun y => catT a[m] y k)) (catT a[m] b[n] k) w.heap.size wr.drew hbx.size hown.drew (toSet_set _) (by have := Hlen.out; omega) _ rfl)
          have Hbw := Lib.hid ((Below.refl w.heap.size wr).drew)
          clear a1 a2 hown hbx hln hxl hyl hcell
          generalize catT a[m] b[n] k = z at *
          generalize a[m] = x at *
          generalize b[n] = y at *
          go_wp2_with fail
          go_region_with (first | (go_at_call 68; refine (Hc.out _).mono ?_; rintro e w' ⟨rfl, rfl⟩) | (go_at_call 67; refine (Hp.out).mono ?_; rintro e w' ⟨v3, rfl, own3, b3⟩; have Own3 := Lib.hid own3; have B3 := Lib.hid b3; clear own3 b3))
          all_goals
            go_wp2_with fail
            go_roundw
            case rel => exact ⟨n + 1, hnl, by go_num, by have h := Own3.out; rw [Hst.out] at h; exact h, (Hbx.out.trans Hbw.out).trans B3.out⟩
            case measure => simp [intOf]; omega
        · obtain rfl : n = b.length := by omega
          rw [List.take_length, Hfl.out] at Hown2
          clear hown hbx
          go_wp2_with fail
          go_roundw
          case rel => exact ⟨m + 1, hlt, by go_num, Hown2.out, Hbx.out⟩
          case measure => simp [intOf]; omega
    · obtain rfl : m = a.length := by omega
      rw [List.take_length] at Hown
      go_wp2_with fail
      go_ret
      exact ⟨_, rfl, Hown.out, Hbel.out⟩
end Go.Proofs.Ytimgnbacgdmiiaa
namespace Go.Proofs.Ytimgnbacgdmiiaa
open Go.RowKit PK Go.Maps Go.WideMaps
set_option linter.unusedVariables false
attribute [local go_sem ↓] append_appM

/-- A slice is read as itself. -/
def RVT (v : Value) : Option (DataW Value × List MemPlace) := some (.held v, [])
theorem keyIntT : Keyed Try.prog 3 := int_keyed Try.underlying3
theorem zeroStrs (w : World) : (zeroValue 32).run Try.prog w = .ok (.slice none 0 0) w := by kernel_rfl
def In64T (k : Int) : Prop := -9223372036854775808 ≤ k ∧ k ≤ 9223372036854775807
theorem keyAtT {k : Int} (h : In64T k) : keyOf Try.prog 3 (.int .i64 k) = some (.int .i64 k) := keyOf_int_mk Try.underlying3 (WalkArith.wf_i64 ⟨h.1, h.2⟩)
/-- Block b is a map that answers f. -/
def MapT (w : World) (b n : Nat) (f : Int → Option Value) : Prop :=
  ∃ D : DataW Value, w.ownsMap Try.prog 3 RVT b n D ∧ IsMap D ∧ ∀ k : Int, Maps.has D (.int .i64 k) = (f k).isSome ∧ ∀ v zd, f k = some v → D.atKey (.int .i64 k) zd = .held v
theorem MapT.made (w : World) : MapT (w.alloc (.map #[] 0)) w.heap.size 0 fun _ => none :=
  ⟨.map [], World.ownsMap_made _ _ _ _, ⟨[], rfl⟩, fun k => ⟨rfl, fun v zd h => by cases h⟩⟩
theorem MapT.look_ok {w : World} {b n : Nat} {f : Int → Option Value} (h : MapT w b n f) (k : Int) (hk : In64T k) :
    ∃ v, (Instr.lookup 122 (.map (some b)) (.int .i64 k) true).run Try.prog w = .ok (.tuple #[v, .bool (f k).isSome]) w := by
  obtain ⟨D, hD, _, hf⟩ := h
  obtain ⟨v, ps, hrun, _⟩ := hD.look_ok keyIntT Try.underlying122 (zeroStrs w) (zd := .held (.slice none 0 0)) (zp := []) rfl (keyAtT hk)
  rw [(hf k).1] at hrun
  exact ⟨v, hrun⟩
theorem MapT.look {w : World} {b n : Nat} {f : Int → Option Value} (h : MapT w b n f) (k : Int) (hk : In64T k) (v : Value) (hv : f k = some v) :
    (Instr.lookup 122 (.map (some b)) (.int .i64 k) false).run Try.prog w = .ok v w := by
  obtain ⟨D, hD, _, hf⟩ := h
  obtain ⟨u, ps, hrun, hu⟩ := hD.lookup keyIntT Try.underlying122 (zeroStrs w) (zd := .held (.slice none 0 0)) (zp := []) rfl (keyAtT hk)
  rw [(hf k).2 v _ hv] at hu
  simp only [RVT, Option.some.injEq, Prod.mk.injEq, DataW.held.injEq] at hu
  rw [← hu.1]; exact hrun
theorem MapT.update {w : World} {b n : Nat} {f : Int → Option Value} (h : MapT w b n f) (hn : n < maxLen) (k : Int) (hk : In64T k) (v : Value) :
    ∃ w', (Instr.mapUpdate 122 (.map (some b)) (.int .i64 k) v).run Try.prog w = .ok () w' ∧ MapT w' b (n + 1) (fun j => if j = k then some v else f j) ∧ w.grownBy w' (some b) := by
  obtain ⟨D, hD, hm, hf⟩ := h
  obtain ⟨w', hrun, hD', hg⟩ := hD.update keyIntT Try.underlying122 hn (keyAtT hk) (val := v) (d := .held v) (ps := []) rfl
  refine ⟨w', hrun, ⟨_, hD', ?_, fun j => ?_⟩, hg⟩
  · obtain ⟨es, rfl⟩ := hm; exact ⟨_, rfl⟩
  · by_cases e : j = k
    · subst e
      rw [has_put_same hm (by trivial)]
      simp only [if_true, Option.isSome_some]
      refine ⟨trivial, fun u zd hu => ?_⟩
      cases hu
      exact atKey_put_same hm (by trivial) ..
    · have hne : (Lit.int .i64 j) ≠ .int .i64 k := fun h => e (by injection h)
      rw [has_put_other hne]
      simp only [if_neg e]
      refine ⟨(hf j).1, fun u zd hu => ?_⟩
      rw [atKey_put_other hne]; exact (hf j).2 u zd hu
theorem MapT.kept {w w' : World} {b n : Nat} {f : Int → Option Value} {row : Option Nat} (h : MapT w b n f) (hg : w.grownBy w' row) (hne : some b ≠ row) : MapT w' b n f := by
  obtain ⟨D, hD, r⟩ := h; exact ⟨D, hD.kept hg hne, r⟩
theorem MapT.lt {w : World} {b n : Nat} {f : Int → Option Value} (h : MapT w b n f) : b < w.heap.size := by
  obtain ⟨D, hD, r⟩ := h; exact hD.lt
theorem grown_of_belowT {w w' : World} (h : Below w.heap.size w w') : w.grownBy w' none := ⟨h.os, h.tape, h.output, h.size, fun k hk _ => h.block k hk⟩
theorem rowKeptT {w w' : World} {s n : Nat} {v : Value} {xs : List Value} {row : Option Nat} (h : Row w w.heap.size s v n xs) (hg : w.grownBy w' row) (hne : ∀ g, v.ownBlock = some g → some g ≠ row) : Row w' w'.heap.size s v n xs := by
  refine ⟨h.1, h.2.1, ?_⟩
  rcases h.2.2 with h0 | ⟨a, c, rfl, h1, h2, h3, hc⟩
  · exact .inl h0
  · refine .inr ⟨a, c, rfl, h1, h2, h3.imp id (fun h => Nat.lt_of_lt_of_le h hg.size), fun j u hu => ?_⟩
    rcases h3 with h0 | h3
    · have := h.1; rw [h0, Nat.zero_mul] at this
      have := List.length_eq_zero_iff.1 this; subst this; simp at hu
    · rw [hg.cell_far (a.add j) (by unfold Addr.add; split <;> exact h3) (by unfold Addr.add; split <;> exact hne a.block rfl)]
      exact hc j u hu

/-- What stands between two rounds of pack.Cat. -/
structure CatInv (w wx : World) (vl : Value) (l b : List Tx) (n : Nat) (f : Int → Option Value) : Prop where
  own : wx.ownsRow w.heap.size 9 1 vl l.length (svt l)
  map : MapT wx w.heap.size n f
  bel : Below w.heap.size w wx
  off : vl.ownBlock ≠ some w.heap.size
  rows : ∀ r v, f r = some v → ∃ q : Nat, r = (q : Int) ∧ Row wx wx.heap.size 1 v (toSet (begT b q)).length (svt (toSet (begT b q))) ∧ ∀ g, v.ownBlock = some g → g < wx.heap.size ∧ g ≠ w.heap.size ∧ vl.ownBlock ≠ some g
theorem CatInv.start (w : World) (b : List Tx) : CatInv w (w.alloc (.map #[] 0)) (.slice none 0 0) [] b 0 fun _ => none :=
  ⟨World.ownsRow_nil _ _ _ _, MapT.made w, (Below.refl _ w).alloc (Nat.le_refl _) _, by simp [Value.ownBlock], fun r v h => by cases h⟩
theorem CatInv.put {w wx w2 w3 : World} {vl v2 : Value} {l b : List Tx} {n : Nat} {f : Int → Option Value} (h : CatInv w wx vl l b n f) (q : Nat) (hb2 : Below wx.heap.size wx w2)
    (hown2 : w2.ownsRow wx.heap.size 9 1 v2 (toSet (begT b q)).length (svt (toSet (begT b q)))) (hm : MapT w3 w.heap.size (n + 1) (fun j => if j = (q : Int) then some v2 else f j)) (hg : w2.grownBy w3 (some w.heap.size)) :
    CatInv w w3 vl l b (n + 1) (fun j => if j = (q : Int) then some v2 else f j) := by
  have hlt := h.map.lt
  have own2 : w2.ownsRow w.heap.size 9 1 vl l.length (svt l) := owns_belowPK h.own hb2
  refine ⟨own2.kept hg (.inr h.off), hm, (h.bel.trans (hb2.mono h.bel.size)).grown hg (by have := h.bel.size; have := hb2.size; omega) (fun k hk => by cases hk; exact Nat.le_refl _), h.off, fun r v hr => ?_⟩
  by_cases e : r = (q : Int)
  · rw [if_pos e] at hr
    cases hr
    refine ⟨q, e, rowKeptT (Row.of_owns hown2) hg fun g hg2 e2 => ?_, fun g hg2 => ?_⟩
    · have := (hown2.lt g hg2).1; cases e2; omega
    · have h1 := (hown2.lt g hg2).1
      have h2 := (hown2.lt g hg2).2
      have h3 := hg.size
      refine ⟨by omega, by omega, fun e2 => ?_⟩
      have := (h.own.lt g e2).2; omega
  · rw [if_neg e] at hr
    obtain ⟨p, hp, hrow, hoff⟩ := h.rows r v hr
    refine ⟨p, hp, rowKeptT (rowKeptT hrow (grown_of_belowT hb2) fun g _ => by simp) hg fun g hg2 e2 => ?_, fun g hg2 => ⟨?_, (hoff g hg2).2⟩⟩
    · cases e2; exact (hoff _ hg2).2.1 rfl
    · have := (hoff g hg2).1; have := hb2.size; have := hg.size; omega
theorem CatInv.push {w wx w3 : World} {vl v3 : Value} {l b : List Tx} {n : Nat} {f : Int → Option Value} (h : CatInv w wx vl l b n f) (z : Tx) (o : Obj) (hg : (wx.alloc o).grownBy w3 vl.ownBlock)
    (hown : w3.ownsRow w.heap.size 9 1 v3 (l ++ [z]).length (svt (l ++ [z]))) (hv : v3.ownBlock = vl.ownBlock ∨ v3.ownBlock = some (wx.heap.size + 1)) : CatInv w w3 v3 (l ++ [z]) b n f := by
  have hlt := h.map.lt
  have hs := hg.size
  rw [World.size_alloc] at hs
  refine ⟨hown, (h.map.kept (World.grownBy_alloc wx o none) (by simp)).kept hg (Ne.symm h.off), ((h.bel.alloc h.bel.size o)).grown hg (by rw [World.size_alloc]; have := h.bel.size; omega) (fun k hk => (h.own.lt k hk).1), ?_, fun r v hr => ?_⟩
  · rcases hv with e | e
    · rw [e]; exact h.off
    · rw [e]; intro e2; injection e2 with e2; omega
  · obtain ⟨q, hq, hrow, hoff⟩ := h.rows r v hr
    refine ⟨q, hq, rowKeptT (rowKeptT hrow (World.grownBy_alloc wx o none) fun g _ => by simp) hg fun g hg2 e2 => (hoff g hg2).2.2 e2.symm, fun g hg2 => ⟨by have := (hoff g hg2).1; omega, (hoff g hg2).2.1, ?_⟩⟩
    rcases hv with e | e
    · rw [e]; exact (hoff g hg2).2.2
    · rw [e]; intro e2; injection e2 with e2
      have := (hoff g hg2).1; omega
/-- What pack.Cat gathers. -/
def gath (a b : List Tx) (n : Nat) : List Tx := a.flatMap fun x => (toSet (begT b (n - x.length))).map fun y => catT x y (n : Int)
theorem gath_take (a b : List Tx) (n m : Nat) (hm : m < a.length) : gath (a.take m) b n ++ (toSet (begT b (n - a[m].length))).map (fun y => catT a[m] y (n : Int)) = gath (a.take (m + 1)) b n := by
  unfold gath; rw [List.take_succ_eq_append_getElem hm, List.flatMap_append]; simp
theorem gath_len (a b : List Tx) (n : Nat) : (gath a b n).length ≤ a.length * b.length := by
  unfold gath
  induction a with
  | nil => simp
  | cons x a ih =>
    rw [List.flatMap_cons, List.length_append, List.length_map, List.length_cons, Nat.succ_mul]
    have := toSet_len (begT b (n - x.length))
    have hb : (begT b (n - x.length)).length = b.length := by unfold begT; simp
    omega
theorem catT_take (x y : Tx) (n : Nat) : catT x (y.take (n - x.length)) (n : Int) = catT x y (n : Int) := by
  unfold catT
  rw [Int.toNat_natCast, List.take_append, List.take_append, List.take_take, Nat.min_self]
theorem gath_set (a b : List Tx) (n : Nat) (k : Int) (hk : k.toNat = n) : toSet (gath a b n) = catL a b k := set_ext (toSet_set _) (toSet_set _) fun z => by
  have hc : ∀ x y, catT x y k = catT x y (n : Int) := fun x y => by unfold catT; rw [hk, Int.toNat_natCast]
  rw [toSet_mem]
  unfold catL gath catsF
  rw [toSet_mem]
  simp only [List.mem_flatMap, List.mem_map, toSet_mem, begT, hc]
  constructor
  · rintro ⟨x, hx, y', ⟨y, hy, rfl⟩, rfl⟩
    exact ⟨x, hx, y, hy, (catT_take x y n).symm⟩
  · rintro ⟨x, hx, y, hy, rfl⟩
    exact ⟨x, hx, _, ⟨y, hy, rfl⟩, catT_take x y n⟩
theorem pushT1 (X : World) (base n : Nat) (v : Value) (l : List Tx) (x : Tx) (hb : base ≤ X.heap.size) (hn : l.length = n) (hown : X.ownsRow base 9 1 v n (svt l)) (hm : n + 1 ≤ 1000000) :
    ∃ ao c w', Sem.run Try.prog (appM #[32, 32] 32 #[v, .slice (some ⟨X.heap.size, 0, none⟩) 1 1]) (X.alloc (.cells #[.string ⟨x.toArray⟩] 9)) = .ok (.slice ao (n + 1) c) w' ∧ w'.ownsRow base 9 1 (.slice ao (n + 1) c) (n + 1) (svt (l ++ [x])) ∧ n + 1 ≤ c ∧ c ≤ maxLen ∧ (X.alloc (.cells #[.string ⟨x.toArray⟩] 9)).grownBy w' v.ownBlock ∧ ((Value.slice ao (n + 1) c).ownBlock = v.ownBlock ∨ (Value.slice ao (n + 1) c).ownBlock = some (X.heap.size + 1)) := by
  obtain ⟨i0, hi, hz0, hz1, hz2⟩ := info_parts info_str
  have rt : Row (X.alloc (.cells #[.string ⟨x.toArray⟩] 9)) (X.heap.size + 1) 1 (.slice (some ⟨X.heap.size, 0, none⟩) 1 1) 1 (svt [x]) := row_cellsB X (svt [x]) 1 1 1 _ rfl (Nat.le_refl _) (by unfold maxLen; omega)
  obtain ⟨v', w', h1, h2, h3, h4⟩ := run_append_row (P := Try.prog) (X.alloc (.cells #[.string ⟨x.toArray⟩] 9)) 32 32 base 9 i0 (.string ByteArray.empty) 1 16 Try.underlying32 hi hz0 hz1 hz2 rfl (by decide) v n (svt l) (hown.alloc _) (X.heap.size + 1) _ 1 (svt [x]) rt (svt_one _) (by unfold maxLen; omega) (by omega) (by simp; omega)
  obtain ⟨ao, c, rfl, hc1, hc2⟩ := owns_valPK h2
  rw [← svt_append] at h2
  rw [World.size_alloc] at h4
  exact ⟨ao, c, w', h1, h2, hc1, hc2, h3, h4⟩
end Go.Proofs.Ytimgnbacgdmiiaa
namespace Go.Proofs.Ytimgnbacgdmiiaa
open Go.RowKit PK Go.Maps Go.WideMaps
set_option linter.unusedVariables false
attribute [local go_sem ↓] append_appM

set_option maxHeartbeats 4000000 in
set_option maxRecDepth 100000 in
theorem packCat_any (v1 v2 : Value) (a b : List Tx) (k : Int) (B1 B2 : Nat) (w : World) (hB1 : B1 ≤ w.heap.size) (hB2 : B2 ≤ w.heap.size) (r1 : Row w B1 1 v1 a.length (svt a)) (r2 : Row w B2 1 v2 b.length (svt b)) (ha : a.length ≤ 650) (hb : b.length ≤ 650) (hxa : ∀ x ∈ a, x.length ≤ 1000) (hxb : ∀ x ∈ b, x.length ≤ 1000) (hk : -9223372036854775808 ≤ k ∧ k ≤ 9223372036854775807) :
    Calls Try.prog 63 #[v1, v2, .int .i64 k] w (OwnT w (catL a b k)) := by
  obtain ⟨ao, c, rfl, hc1, hc2⟩ := r1.val
  obtain ⟨bo, d, rfl, hd1, hd2⟩ := r2.val
  have hl63 : a.length ≤ 9223372036854775807 := by omega
  have hl64 : b.length ≤ 9223372036854775807 := by omega
  have R1 := Lib.hid r1; have R2 := Lib.hid r2; have Hxa := Lib.hid hxa; have Hxb := Lib.hid hxb
  clear r1 r2 hxa hxb
  rcases Nat.eq_zero_or_pos b.length with hb0 | hb0
  · obtain rfl := List.length_eq_zero_iff.1 hb0
    have hcl : Hid (catL a [] k = []) := Lib.hid (by
      unfold catL catsF
      have : (a.flatMap fun x => ([] : List Tx).map fun y => catT x y k) = [] := by simp
      rw [this, toSet_nil])
    clear hk
    go_enter Try.func63, Try.ntmps63
    go_wp2_with fail
    go_ret
    exact ⟨_, rfl, by rw [hcl.out]; exact World.ownsRow_nil _ _ _ _, Below.refl _ _⟩
  · obtain ⟨n, hn⟩ : ∃ n : Nat, max k 0 = (n : Int) := ⟨k.toNat, by omega⟩
    have hkn : k.toNat = n := by omega
    have hn63 : (n : Int) ≤ 9223372036854775807 := by omega
    have Hgs := Lib.hid (gath_set a b n k hkn)
    have hmm := @run_makeMap Try.prog
    have hb1 : ((b.length : Int) == 0) = false := by simp only [beq_eq_false_iff_ne, ne_eq]; omega
    clear hkn hk
    go_enter Try.func63, Try.ntmps63
    go_wp2_with fail
    go_loopw [8, 24] (fun vl i wr => ∃ (m : Nat) (l : List Tx) (nn : Nat) (f : Int → Option Value), m ≤ a.length ∧ i = .int .i64 m ∧ nn ≤ m ∧ Hid (l = gath (a.take m) b n) ∧ Hid (CatInv w wr vl l b nn f)) (fun _ i _ => a.length - (intOf i).toNat)
    case atStart => exact ⟨0, [], 0, _, Nat.zero_le _, rfl, Nat.le_refl _, Lib.hid (by simp [gath]), Lib.hid (CatInv.start w b)⟩
    case round =>
      obtain ⟨m, l, nn, f, hm, rfl, hnn, Hl, Hinv⟩ := hrel
      obtain ⟨lo, lc, rfl, hlc, hlc'⟩ := owns_valPK Hinv.out.own
      have hll : l.length ≤ 500000 := by
        rw [Hl.out]
        have h1 := gath_len (a.take m) b n
        rw [List.length_take, Nat.min_eq_left hm] at h1
        exact Nat.le_trans h1 (Nat.le_trans (Nat.mul_le_mul (Nat.le_trans hm ha) hb) (by omega))
      have Hll := Lib.hid hll
      unfold maxLen at hlc'
      clear hll
      by_cases hlt : m < a.length
      · have a1 := R1.out.below (Hinv.out.bel.mono hB1)
        obtain ⟨b1, o1, rfl, hbb1, _⟩ := a1.at (by rw [svt_length]; omega)
        have c10 := a1.cell m _ (svt_at a m hlt)
        have hm0 : (m : Int) < (a.length : Int) := by omega
        have hm1 : (0 : Int) ≤ (m : Int) := by omega
        have hxl := Hxa.out _ (List.getElem_mem hlt)
        have Hg := Lib.hid (gath_take a b n m hlt)
        clear a1
        generalize a[m] = x at *
        obtain ⟨s, hsx⟩ : ∃ s : ByteArray, s = ⟨x.toArray⟩ := ⟨_, rfl⟩
        have hsz := tx_size x
        rw [← hsx] at c10 hsz
        have Hsx := Lib.hid hsx
        have hs1 : s.size ≤ 1000 := by omega
        obtain ⟨room, hrm⟩ : ∃ room, room = n - x.length := ⟨_, rfl⟩
        have hroom : max ((n : Int) - (s.size : Int)) 0 = (room : Int) := by omega
        have hr64 : (room : Int) ≤ 9223372036854775807 := by omega
        have hin : In64T (room : Int) := ⟨by omega, hr64⟩
        have hlo : -9223372036854775808 ≤ (n : Int) - (s.size : Int) := by omega
        have hhi : (n : Int) - (s.size : Int) ≤ 9223372036854775807 := by omega
        rw [← hrm] at Hg
        obtain ⟨v0, hlook⟩ := Hinv.out.map.look_ok (room : Int) hin
        have Hin := Lib.hid hin; have Hrm := Lib.hid hrm; have Hsz := Lib.hid hsz
        clear hsx hsz hrm hin
        have Hbg := Lib.hid (fun (h : b.length ≤ 10000) => begun_any (.slice bo b.length d) b room w.heap.size wr Hinv.out.bel.size ((R2.out.below (Hinv.out.bel.mono hB2)).mono hB2) h Hxb.out (by omega))
        go_upto_if 40 with fail
        go_cut [12, 13, 24] from 25 to 62 (fun _ _ i wx => i = .int .i64 m ∧ ∃ (v' : Value) (nn' : Nat) (f' : Int → Option Value), nn' ≤ m + 1 ∧ Hid (f' (room : Int) = some v') ∧ Hid (CatInv w wx (.slice lo l.length lc) l b nn' f'))
        case first =>
          cases hf : f (room : Int) with
          | none =>
            rw [hf] at hlook
            simp only [Option.isSome_none] at hlook
            go_wp2_with fail
            refine (Hbg.out (by omega)).mono ?_
            rintro e w2 ⟨v2, rfl, own2, bb2⟩
            obtain ⟨w3, hup, hm3, hg3⟩ := (Hinv.out.map.kept (grown_of_belowT bb2) (by simp)).update (by unfold maxLen; omega) (room : Int) Hin.out v2
            have Hp := Lib.hid (Hinv.out.put room bb2 own2 hm3 hg3)
            clear hlook own2 bb2 hm3 hg3
            go_wp2_with fail
            go_meet
            case rel => exact ⟨rfl, v2, nn + 1, _, by omega, Lib.hid (if_pos rfl), Hp⟩
          | some v1 =>
            rw [hf] at hlook
            simp only [Option.isSome_some] at hlook
            go_wp2_with fail
            go_meet
            case rel => exact ⟨rfl, v1, nn, f, by omega, Lib.hid hf, Hinv⟩
        case rest =>
          obtain ⟨rfl, v', nn', f', hnn', Hf, Hinv'⟩ := hcut
          have hlook2 := Hinv'.out.map.look (room : Int) Hin.out v' Hf.out
          have hrows : ∀ (W : World) (vl : Value) (L : List Tx), CatInv w W vl L b nn' f' → Row W W.heap.size 1 v' (toSet (begT b room)).length (svt (toSet (begT b room))) := fun W vl L h => by
            obtain ⟨q, hq, hrow, _⟩ := h.rows _ _ Hf.out
            obtain rfl : room = q := by omega
            exact hrow
          have Hrows := Lib.hid hrows
          obtain ⟨eo, ec, rfl, hec, hec'⟩ := (hrows _ _ _ Hinv'.out).val
          unfold maxLen at hec'
          have hE1 := toSet_len (begT b room)
          have hE2 : (begT b room).length = b.length := by unfold begT; simp
          have hE3 : ∀ y ∈ toSet (begT b room), y.length ≤ 1000 := fun y hy => by
            rw [toSet_mem] at hy
            obtain ⟨z, hz, rfl⟩ := List.mem_map.1 hy
            have := Hxb.out z hz
            rw [List.length_take]; omega
          have HE3 := Lib.hid hE3
          clear hrows hlook hE3 Hbg Hinv
          generalize toSet (begT b room) = E at *
          have hE63 : E.length ≤ 9223372036854775807 := by omega
          have hE4 : E.length ≤ 650 := by omega
          obtain ⟨wo, rfl⟩ : ∃ wo : World, wo = wc := ⟨_, rfl⟩
          go_wp2_with fail
          go_loopw [8, 50] (fun vl j wx => ∃ (t : Nat) (l' : List Tx), t ≤ E.length ∧ j = .int .i64 t ∧ Hid (l' = l ++ (E.take t).map fun y => catT x y (n : Int)) ∧ Hid (CatInv w wx vl l' b nn' f')) (fun _ j _ => E.length - (intOf j).toNat)
          case atStart => exact ⟨0, l, Nat.zero_le _, rfl, Lib.hid (by simp), Hinv'⟩
          case round =>
            obtain ⟨t, l', ht, rfl, Hl', Hi⟩ := hrel
            obtain ⟨po, pc, rfl, hpc, hpc'⟩ := owns_valPK Hi.out.own
            unfold maxLen at hpc'
            have hll' : l'.length ≤ 600000 := by
              have h1 := Hll.out
              rw [Hl'.out, List.length_append, List.length_map, List.length_take]; omega
            by_cases htl : t < E.length
            · have a1 := Hrows.out _ _ _ Hi.out
              obtain ⟨b3, o3, rfl, hbb3, _⟩ := a1.at (by rw [svt_length]; omega)
              have c30 := a1.cell t _ (svt_at E t htl)
              have ht0 : (t : Int) < (E.length : Int) := by omega
              have ht1 : (0 : Int) ≤ (t : Int) := by omega
              have hyl := HE3.out _ (List.getElem_mem htl)
              have Hst : Hid (l' ++ [catT x E[t] (n : Int)] = l ++ (E.take (t + 1)).map fun y => catT x y (n : Int)) := Lib.hid (by
                rw [Hl'.out, List.take_succ_eq_append_getElem htl, List.map_append, List.append_assoc]; rfl)
              have Hc := Lib.hid (fun W => catT_any x E[t] (n : Int) W hxl hyl (by omega) s _ Hsx.out rfl)
              obtain ⟨p3, d3, w3, happ, own3, x3, y3, g3, e3⟩ := pushT1 wr w.heap.size l'.length (.slice po l'.length pc) l' (catT x E[t] (n : Int)) Hi.out.bel.size rfl Hi.out.own (by omega)
              have Hp := Lib.hid (Hi.out.push (catT x E[t] (n : Int)) _ g3 (by rw [List.length_append]; exact own3) e3)
              unfold maxLen at y3
              clear a1 own3 g3 e3 hll'
              generalize catT x E[t] (n : Int) = z at *
              generalize E[t] = y at *
              go_wp2_with fail
              refine (Hc.out _).mono ?_
              rintro e w' ⟨rfl, rfl⟩
              go_wp2_with fail
              go_roundw
              case rel => exact ⟨t + 1, _, htl, by go_num, Hst, Hp⟩
              case measure => simp [intOf]; omega
            · obtain rfl : t = E.length := by omega
              have Hl2 : Hid (l' = gath (a.take (m + 1)) b n) := Lib.hid (by
                have h1 := Hl'.out
                rw [List.take_length, Hl.out, Hg.out] at h1
                exact h1)
              clear hll'
              go_wp2_with fail
              go_roundw
              case rel => exact ⟨m + 1, l', nn', f', hlt, by go_num, hnn', Hl2, Hi⟩
              case measure => simp [intOf]; omega
      · obtain rfl : m = a.length := by omega
        have Hl2 : Hid (l = gath a b n) := Lib.hid (by rw [Hl.out, List.take_length])
        have Hm := Lib.hid (made_any _ l w.heap.size wr Hinv.out.bel.size Hinv.out.own (by have := Hll.out; omega))
        go_wp2_with fail
        refine (Hm.out).mono ?_
        rintro e w2 ⟨v2, rfl, own2, b2⟩
        rw [Hl2.out, Hgs.out] at own2
        go_wp2_with fail
        go_ret
        exact ⟨_, rfl, own2, Hinv.out.bel.trans b2⟩
end Go.Proofs.Ytimgnbacgdmiiaa
