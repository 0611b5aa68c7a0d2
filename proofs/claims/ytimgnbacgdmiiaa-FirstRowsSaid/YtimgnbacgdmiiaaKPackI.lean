/-
  pack.begun; the document's Cat.
-/
import Derived.Test.YtimgnbacgdmiiaaKCatC
import Derived.Deep.RegionWith
namespace Go.Proofs.Ytimgnbacgdmiiaa
open Go.RowKit PK
set_option linter.unusedVariables false
attribute [local go_sem ↓] append_appM

/-- A text put behind a row of its own, in a region that draws nothing. -/
theorem pushT0 (X : World) (base n : Nat) (v : Value) (l : List Tx) (x : Tx) (hb : base ≤ X.heap.size) (hn : l.length = n) (hown : X.ownsRow base 9 1 v n (svt l)) (hm : n + 1 ≤ 1000000) (s : ByteArray) (hs : s = ⟨x.toArray⟩) :
    ∃ ao c w', Sem.run Try.prog (appM #[32, 32] 32 #[v, .slice (some ⟨X.heap.size, 0, none⟩) 1 1]) (X.alloc (.cells #[.string s] 9)) = .ok (.slice ao (n + 1) c) w' ∧ w'.ownsRow base 9 1 (.slice ao (n + 1) c) (n + 1) (svt (l ++ [x])) ∧ Below base X w' ∧ n + 1 ≤ c ∧ c ≤ maxLen ∧ (X.alloc (.cells #[.string s] 9)).grownBy w' v.ownBlock := by
  subst hs
  have rt : Row (X.alloc (.cells #[.string ⟨x.toArray⟩] 9)) (X.heap.size + 1) 1 (.slice (some ⟨X.heap.size, 0, none⟩) 1 1) 1 (svt [x]) := row_cellsB X (svt [x]) 1 1 1 _ rfl (Nat.le_refl _) (by unfold maxLen; omega)
  obtain ⟨ao, c, w', h1, h2, h3, h4, h5⟩ := appG (X.alloc (.cells #[.string ⟨x.toArray⟩] 9)) base n v l (by simp; omega) hn (hown.alloc _) _ 1 _ [x] rt (by omega)
  exact ⟨ao, c, w', h1, h2, ((Below.refl base X).alloc hb _).grown h3 (by simp; omega) (fun k hk => (hown.lt k hk).1), h4, h5, h3⟩

def begT (b : List Tx) (n : Nat) : List Tx := b.map (·.take n)
theorem begT_succ (b : List Tx) (n k : Nat) (hk : k < b.length) : begT (b.take k) n ++ [b[k].take n] = begT (b.take (k + 1)) n := by
  unfold begT; rw [List.take_succ_eq_append_getElem hk, List.map_append]; rfl
theorem catT_nil (x : Tx) (n : Nat) : catT [] x (n : Int) = x.take n := by unfold catT; simp
theorem catT_len (x y : Tx) (k : Int) : (catT x y k).length ≤ x.length + y.length := by unfold catT; rw [List.length_take, List.length_append]; omega

set_option maxHeartbeats 1000000 in
set_option maxRecDepth 100000 in
theorem begun_any (v : Value) (b : List Tx) (n B : Nat) (w : World) (hB : B ≤ w.heap.size) (r : Row w B 1 v b.length (svt b)) (hl : b.length ≤ 10000) (hx : ∀ x ∈ b, x.length ≤ 1000) (hn : n ≤ 9223372036854775807) :
    Calls Try.prog 91 #[v, .int .i64 n] w (OwnT w (toSet (begT b n))) := by
  obtain ⟨ao, c, rfl, hc1, hc2⟩ := r.val
  have hl63 : b.length ≤ 9223372036854775807 := by unfold maxLen at hc2; omega
  have R := Lib.hid r; have Hx := Lib.hid hx; have Hn := Lib.hid hn
  clear r hx hn
  go_enter Try.func91, Try.ntmps91
  go_wp2_with fail
  go_loopw [5, 7, 10] (fun o _ i wr => ∃ k : Nat, k ≤ b.length ∧ i = .int .i64 k ∧ wr.ownsRow w.heap.size 9 1 o k (svt (begT (b.take k) n)) ∧ Below w.heap.size w wr) (fun _ _ i _ => b.length - (intOf i).toNat)
  case atStart => exact ⟨0, Nat.zero_le _, rfl, World.ownsRow_nil _ _ _ _, Below.refl _ _⟩
  case round =>
    obtain ⟨k, hk, rfl, hown, hbel⟩ := hrel
    obtain ⟨oo, oc, rfl, ho1, ho2⟩ := owns_valPK hown
    have Hown := Lib.hid hown; have Hbel := Lib.hid hbel
    by_cases hlt : k < b.length
    · have a1 := R.out.below (hbel.mono hB)
      obtain ⟨b1, o1, rfl, hb1, _⟩ := a1.at (by rw [svt_length]; omega)
      have c10 := a1.cell k _ (svt_at b k hlt)
      have hk0 : (k : Int) < (b.length : Int) := by omega
      have hk1 : (0 : Int) ≤ (k : Int) := by omega
      have hxl := Hx.out _ (List.getElem_mem hlt)
      have Hst := Lib.hid (begT_succ b n k hlt)
      have Hc := Lib.hid (catT_any [] b[k] (n : Int) wr (by simp) hxl (by have := Hn.out; omega) ByteArray.empty _ rfl rfl)
      have hcn := catT_nil b[k] n
      obtain ⟨vo, vc, w2, happ, hown2, hbel2, hv1, hv2, _⟩ := pushT0 wr w.heap.size k (.slice oo k oc) _ (b[k].take n) hbel.size (by unfold begT; rw [List.length_map, List.length_take]; omega) hown (by omega) _ rfl
      rw [← hcn] at happ
      have Hown2 := Lib.hid hown2; have Hbel2 := Lib.hid (hbel.trans hbel2)
      unfold maxLen at hv2
      clear a1 hown hbel hown2 hbel2 hcn hxl
      generalize b[k] = x at *
      generalize catT [] x (n : Int) = y at *
      go_wp2_with fail
      refine (Hc.out).mono ?_
      rintro e w' ⟨rfl, rfl⟩
      go_wp2_with fail
      go_roundw
      case rel => exact ⟨k + 1, hlt, by go_num, by have h := Hown2.out; rw [Hst.out] at h; exact h, Hbel2.out⟩
      case measure => simp [intOf]; omega
    · obtain rfl : k = b.length := by omega
      have hlen : (begT (b.take b.length) n).length = b.length := by unfold begT; simp
      rw [List.take_length] at hlen Hown
      have hm := Lib.hid (made_any (.slice oo b.length oc) (begT b n) w.heap.size wr hbel.size (by rw [hlen]; exact Hown.out) (by rw [hlen]; omega))
      clear hown hbel hlen
      go_wp2_with fail
      refine (hm.out).mono ?_
      rintro e w2 ⟨v2, rfl, own2, b2⟩
      go_wp2_with fail
      go_ret
      exact ⟨_, rfl, own2, Hbel.out.trans b2⟩

/-- Each of a and each of b, one behind the other. -/
def catsF (a b : List Tx) (k : Int) : List Tx := a.flatMap fun x => b.map fun y => catT x y k
theorem catsF_take (a b : List Tx) (k : Int) (i : Nat) (hi : i < a.length) : catsF (a.take i) b k ++ b.map (fun y => catT a[i] y k) = catsF (a.take (i + 1)) b k := by
  unfold catsF; rw [List.take_succ_eq_append_getElem hi, List.flatMap_append]; simp
theorem inner_take (a b : List Tx) (x : Tx) (k : Int) (L : List Tx) (j : Nat) (hj : j < b.length) : putL (toSet (L ++ (b.take j).map fun y => catT x y k)) (catT x b[j] k) = toSet (L ++ (b.take (j + 1)).map fun y => catT x y k) := by
  rw [putL_toSet, List.take_succ_eq_append_getElem hj, List.map_append, List.append_assoc]; rfl
theorem catsF_len (a b : List Tx) (k : Int) : (catsF a b k).length = a.length * b.length := by
  unfold catsF
  induction a with
  | nil => simp
  | cons x a ih => rw [List.flatMap_cons, List.length_append, ih, List.length_map, List.length_cons, Nat.succ_mul, Nat.add_comm]
def catL (a b : List Tx) (k : Int) : List Tx := toSet (catsF a b k)

set_option maxHeartbeats 2000000 in
set_option maxRecDepth 100000 in
theorem refCat13_any (v1 v2 : Value) (a b : List Tx) (k : Int) (w : World) (r1 : Row w w.heap.size 1 v1 a.length (svt a)) (r2 : Row w w.heap.size 1 v2 b.length (svt b)) (ha : a.length ≤ 650) (hb : b.length ≤ 650) (hxa : ∀ x ∈ a, x.length ≤ 1000) (hxb : ∀ x ∈ b, x.length ≤ 1000) (hk : -9223372036854775808 ≤ k ∧ k ≤ 9223372036854775807) :
    Calls Try.prog 39 #[v1, v2, .int .i64 k] w (OwnT w (catL a b k)) := by
  obtain ⟨ao, c, rfl, hc1, hc2⟩ := r1.val
  obtain ⟨bo, d, rfl, hd1, hd2⟩ := r2.val
  have hl63 : a.length ≤ 9223372036854775807 := by omega
  have hl64 : b.length ≤ 9223372036854775807 := by omega
  have R1 := Lib.hid r1; have R2 := Lib.hid r2; have Hxa := Lib.hid hxa; have Hxb := Lib.hid hxb; have Hk := Lib.hid hk
  clear r1 r2 hxa hxb hk
  have hown0 := World.ownsRow_made (base := w.heap.size) (e := 9) (size := 1) w #[] 0 (Nat.le_refl _) (Nat.zero_le _) rfl
  go_enter Try.func39, Try.ntmps39
  go_wp2_with fail
  go_loopw [7, 8] (fun o i wr => ∃ m : Nat, m ≤ a.length ∧ i = .int .i64 m ∧ wr.ownsRow w.heap.size 9 1 o (catL (a.take m) b k).length (svt (catL (a.take m) b k)) ∧ Below w.heap.size w wr) (fun _ i _ => a.length - (intOf i).toNat)
  case atStart => exact ⟨0, Nat.zero_le _, rfl, by rw [List.take_zero]; unfold catL catsF; rw [List.flatMap_nil, toSet_nil]; exact hown0, (Below.refl _ w).alloc (Nat.le_refl _) _⟩
  case round =>
    obtain ⟨m, hm, rfl, hown, hbel⟩ := hrel
    have Hown := Lib.hid hown; have Hbel := Lib.hid hbel
    clear hown hbel
    by_cases hlt : m < a.length
    · have hm0 : (m : Int) < (a.length : Int) := by omega
      have hm1 : (0 : Int) ≤ (m : Int) := by omega
      have Hfl := Lib.hid (catsF_take a b k m hlt)
      have hlen := catsF_len (a.take m) b k
      rw [List.length_take, Nat.min_eq_left hm] at hlen
      have hxl := Hxa.out _ (List.getElem_mem hlt)
      have hcell := Lib.hid (fun (W : World) (h : Below w.heap.size w W) => (R1.out.below h).at (by rw [svt_length]; omega))
      have hmul : m * b.length ≤ 500000 := Nat.le_trans (Nat.mul_le_mul (Nat.le_trans hm ha) hb) (by omega)
      have Hlen : Hid ((catsF (a.take m) b k).length ≤ 500000) := Lib.hid (by rw [hlen]; exact hmul)
      clear hlen hmul
      unfold catL at Hown
      generalize catsF (a.take m) b k = L at *
      obtain ⟨wo, rfl⟩ : ∃ wo : World, wo = wr := ⟨_, rfl⟩
      go_wp2_with fail
      go_loopw [7, 9] (fun o j wx => ∃ n : Nat, n ≤ b.length ∧ j = .int .i64 n ∧ wx.ownsRow w.heap.size 9 1 o (toSet (L ++ (b.take n).map fun y => catT a[m] y k)).length (svt (toSet (L ++ (b.take n).map fun y => catT a[m] y k))) ∧ Below w.heap.size w wx) (fun _ j _ => b.length - (intOf j).toNat)
      case atStart => exact ⟨0, Nat.zero_le _, rfl, by rw [List.take_zero, List.map_nil, List.append_nil]; exact Hown.out, Hbel.out⟩
      case round =>
        obtain ⟨n, hn, rfl, hown, hbx⟩ := hrel
        have Hown2 := Lib.hid hown; have Hbx := Lib.hid hbx
        by_cases hnl : n < b.length
        · have a1 := R1.out.below hbx
          have a2 := R2.out.below hbx
          obtain ⟨b1, o1, rfl, hb1, _⟩ := a1.at (by rw [svt_length]; omega)
          obtain ⟨b2, o2, rfl, hb2, _⟩ := a2.at (by rw [svt_length]; omega)
          have c10 := a1.cell m _ (svt_at a m hlt)
          have c20 := a2.cell n _ (svt_at b n hnl)
          have hn0 : (n : Int) < (b.length : Int) := by omega
          have hn1 : (0 : Int) ≤ (n : Int) := by omega
          have hyl := Hxb.out _ (List.getElem_mem hnl)
          have Hst := Lib.hid (inner_take a b a[m] k L n hnl)
          have hln := toSet_len (L ++ (b.take n).map fun y => catT a[m] y k)
          rw [List.length_append, List.length_map, List.length_take] at hln
          have Hc := Lib.hid (fun W => refCatT_any a[m] b[n] k W hxl hyl Hk.out _ _ rfl rfl)
          have Hp := Lib.hid (refPut_any _ (toSet (L ++ (b.take n).map fun y => catT a[m] y k)) (catT a[m] b[n] k) w.heap.size wr.drew hbx.size hown.drew (toSet_set _) (by have := Hlen.out; omega) _ rfl)
          have Hbw := Lib.hid ((Below.refl w.heap.size wr).drew)
          clear a1 a2 hown hbx hln hxl hyl hcell
          generalize catT a[m] b[n] k = z at *
          generalize a[m] = x at *
          generalize b[n] = y at *
          go_wp2_with fail
          go_region_with (first | (go_at_call 68; refine (Hc.out _).mono ?_; rintro e w' ⟨rfl, rfl⟩) | (go_at_call 67; refine (Hp.out).mono ?_; rintro e w' ⟨v3, rfl, own3, b3⟩; have Own3 := Lib.hid own3; have B3 := Lib.hid b3; clear own3 b3))
          all_goals
            go_wp2_with fail
            go_roundw
            case rel => exact ⟨n + 1, hnl, by go_num, by have h := Own3.out; rw [Hst.out] at h; exact h, (Hbx.out.trans Hbw.out).trans B3.out⟩
            case measure => simp [intOf]; omega
        · obtain rfl : n = b.length := by omega
          rw [List.take_length, Hfl.out] at Hown2
          clear hown hbx
          go_wp2_with fail
          go_roundw
          case rel => exact ⟨m + 1, hlt, by go_num, Hown2.out, Hbx.out⟩
          case measure => simp [intOf]; omega
    · obtain rfl : m = a.length := by omega
      rw [List.take_length] at Hown
      go_wp2_with fail
      go_ret
      exact ⟨_, rfl, Hown.out, Hbel.out⟩
end Go.Proofs.Ytimgnbacgdmiiaa
