/-
  The walk of TupleWhole.
-/
import Derived.Test.YtjfehnjkijecpaaTupleL
namespace Go.Proofs.Ytjfehnjkijecpaa
open Go.RowKit
set_option linter.unusedVariables false

theorem atB_size (l : List Int) (at_ : Int) (m : Nat) : (atB l at_ m).size = m := by rw [← blen]; simp [atB]
theorem atB_get (l : List Int) (at_ : Int) (m j : Nat) (h : j < m) : (atB l at_ m).data.toList.getD j 0 = atV l at_ j := by
  simp [atB, h]
theorem toB_small (x : Int) (h0 : 0 ≤ x) (h : x ≤ 255) : (toB x).toNat = x.toNat := by
  have := toB_nat x; omega
/-- Tokens ahead of a word of tokens may be. -/
theorem mayB_at (l : List Int) (a : Nat) (k : Nat) (hk1 : 1 ≤ k) (hk2 : k ≤ 4) (hl : ∀ x ∈ l, 1 ≤ x ∧ x ≤ 60) : mayB (atB l a k) k = true := by
  have hv : ∀ i, (a + i < l.length → 1 ≤ (atV l a i).toNat ∧ (atV l a i).toNat ≤ 60) ∧ (¬ a + i < l.length → atV l a i = 0) := by
    intro i
    unfold atV
    constructor
    · intro h
      rw [if_pos (by omega)]
      have hm : (l.getD ((a : Int) + i).toNat 0) ∈ l := by
        rw [show ((a : Int) + i).toNat = a + i from by omega, List.getD_eq_getElem?_getD, List.getElem?_eq_getElem h]
        exact List.getElem_mem h
      have := hl _ hm
      rw [toB_small _ (by omega) (by omega)]
      omega
    · intro h
      rw [if_neg (by omega)]
  refine mayB_yes _ _ (by omega) (by omega) (by rw [atB_size]; omega) fun j hj => ?_
  rw [atB_size] at hj
  unfold mayAt
  rw [atB_get _ _ _ _ hj, atB_get _ _ _ _ (by omega)]
  simp only [Bool.and_eq_true, decide_eq_true_eq, Bool.not_eq_true', Bool.and_eq_false_iff, decide_eq_false_iff_not]
  by_cases h1 : a + j < l.length
  · refine ⟨((hv j).1 h1).2, ?_⟩
    by_cases h0 : 0 < j
    · left; right
      have := (hv (j - 1)).1 (by omega)
      omega
    · left; left; exact h0
  · rw [(hv j).2 h1]
    exact ⟨by decide, .inr (by decide)⟩

def wordOf (z : List Int) (k : Nat) : List Int := (z.take k).map fun x => 1 + x % 60
theorem wordOf_snoc (z : List Int) (k : Nat) (h : k < z.length) : ints (wordOf z k) ++ [.int .i64 (1 + z[k] % 60)] = ints (wordOf z (k + 1)) := by
  unfold wordOf ints; rw [List.take_succ_eq_append_getElem h, List.map_append, List.map_append]; rfl
theorem wordOf_length (z : List Int) (k : Nat) (h : k ≤ z.length) : (wordOf z k).length = k := by unfold wordOf; simp; omega
theorem wordOf_may (z : List Int) (k : Nat) : ∀ x ∈ wordOf z k, 1 ≤ x ∧ x ≤ 60 := by
  intro x hx
  obtain ⟨y, _, rfl⟩ := List.mem_map.1 hx
  omega

set_option maxHeartbeats 4000000 in
theorem tupleWhole_walk (a b c : ByteArray) (v : Value) (z : List Int) (at_ : Nat) (w : World) (ha : a.size ≤ maxLen) (hb : b.size ≤ maxLen) (hc : c.size ≤ maxLen) (hat : at_ ≤ 255) (hz : ∀ x ∈ z, 0 ≤ x ∧ x ≤ 255)
    (hr : Row w w.heap.size 1 v z.length (z.map (.int .u8))) :
    Calls Try.prog 7 #[.string a, .string b, .string c, v, .int .u8 at_] w fun e w' => e = .returned (.bool true) ∧ Below w.heap.size w w' := by
  obtain ⟨i0, hi, hz0, hz1, hz2⟩ := info_parts info_int
  obtain ⟨ao, cap, rfl, hc1, hc2⟩ := hr.val
  unfold maxLen at hc2
  have ca := cut50_size a
  have cb := cut50_size b
  have cc := cut50_size c
  go_enter Try.func7, Try.ntmps7
  go_wp2_with fail
  refine (law12works_any _).mono ?_
  rintro e w1 ⟨rfl, hb1⟩
  have hz1s := hb1.size
  have hr1 := Lib.hid (hr.below hb1); clear hr
  go_wp2_with fail
  refine (law12short_any a _ ha).mono ?_
  rintro e w2 ⟨rfl, rfl⟩
  go_wp2_with fail
  refine (law12short_any b _ hb).mono ?_
  rintro e w2 ⟨rfl, rfl⟩
  go_wp2_with fail
  refine (law12short_any c _ hc).mono ?_
  rintro e w2 ⟨rfl, rfl⟩
  go_wp2_with fail
  go_loopw [11, 12] (fun v i wr => ∃ k : Nat, k ≤ z.length ∧ k ≤ 100 ∧ i = .int .i64 k ∧ wr.ownsRow w1.heap.size 3 1 v k (ints (wordOf z k)) ∧ Below w1.heap.size w1 wr) (fun _ i _ => 101 - (intOf i).toNat)
  case atStart => exact ⟨0, by omega, by omega, rfl, World.ownsRow_made _ _ 0 (Nat.le_refl _) (Nat.zero_le _) rfl, (Below.refl _ _).alloc (Nat.le_refl _) _⟩
  case round =>
    obtain ⟨k, hk, hk2, rfl, hown, hbel⟩ := hrel
    have hszr := hbel.size
    by_cases hlt : k < z.length ∧ k < 100
    · obtain ⟨hlt, hlt2⟩ := hlt
      have hrk := (hr1.out.below (hbel.mono hz1s))
      obtain ⟨bb, off, rfl, hbB, _⟩ := hrk.at (by rw [List.length_map]; omega)
      have hcell := hrk.cell k (.int .u8 z[k]) (by simp [hlt])
      have hzk := hz z[k] (List.getElem_mem hlt)
      have Hsn := Lib.hid (wordOf_snoc z k hlt)
      have Hz := Lib.hid hz; clear hz
      clear hrk
      go_wp2_with (at_builtin; refine wpList_append_row rfl (.tmp 34) (.tmp 42) 32 rfl w1.heap.size 3 i0 (.int .i64 0) 1 8 Try.underlying32 hi hz0 hz1 hz2 rfl (by decide) _ k _ rfl (hown.alloc _) _ _ 1 _ rfl (row_one _ _ _) ?_ (by unfold maxLen; omega) (by omega) (by simp; omega) ?_; (intro u hu; simp at hu; subst hu; rfl); intro v' wn hown1 hgrow)
      rw [Hsn.out] at hown1
      have hbn : Below w1.heap.size w1 wn := (hbel.alloc hszr _).grown hgrow (by simp; omega) (fun j hj => (hown.lt j hj).1)
      clear hown hgrow hbel
      go_roundw
      case rel => exact ⟨k + 1, by omega, by omega, by go_num, hown1, hbn⟩
      case measure => simp [intOf]; omega
    · have hrow := Lib.hid (Row.of_owns hown)
      have hll := wordOf_length z k hk
      have Hmay := Lib.hid (wordOf_may z k)
      generalize hL : wordOf z k = L at *
      clear hL hown
      subst hll
      have Hz := Lib.hid hz; clear hz
      have hkk : L.length ≤ 100 := by omega
      rcases (show (¬ L.length < z.length) ∨ (L.length < z.length ∧ ¬ L.length < 100) from by omega) with hx | ⟨hx, hx'⟩
      all_goals
        clear hlt
        go_wp2_with fail
        obtain ⟨wo, rfl⟩ : ∃ wo : World, wo = wr := ⟨_, rfl⟩
        go_loopw [13] (fun i wx => ∃ q : Nat, 1 ≤ q ∧ q ≤ 5 ∧ i = .int .i64 q ∧ Below wo.heap.size wo wx) (fun i _ => 5 - (intOf i).toNat)
        case atStart => exact ⟨1, by omega, by omega, rfl, Below.refl _ _⟩
        case round =>
          obtain ⟨q, hq1, hq2, rfl, hbq⟩ := hrel
          have hszq := hbq.size
          by_cases hq : q ≤ 4
          · have hrq := Lib.hid (hrow.out.below hbq)
            have e0 : lookN (q : Int) = q := by unfold lookN; rw [if_neg (by omega), if_neg (by omega)]; rfl
            have hAt := fun W h1 h2 => tupleAt_any u11 wo.heap.size L at_ q W h1 h2 (by omega) (by omega)
            rw [e0] at hAt
            have HAt := Lib.hid hAt
            have esz := atB_size L at_ q
            have hne : ((((atB L at_ q).size : Nat) : Int) != (q : Int)) = false := by rw [esz]; simp
            have hMay := fun W => tupleMay_any (atB L at_ q) q W (by rw [esz]; unfold maxLen; omega)
            rw [mayB_at L at_ q hq1 hq Hmay.out] at hMay
            have HMay := Lib.hid hMay
            have hLast := fun W => tupleCat_any (cut50 a) (catB (cut50 b) (cut50 c) q) q W (by omega) (by rw [catB_size]; omega) (by omega)
            rw [← catB_assoc] at hLast
            have HLast := Lib.hid hLast
            have hs1 : (catB (cut50 a) (cut50 b) q).size ≤ 140737488355328 := by rw [catB_size]; omega
            have Hk := Lib.hid hkk
            clear hAt hMay hLast e0 esz hkk
            go_wp2_with fail
            refine (HAt.out _ hrq.out hszq).mono ?_
            rintro e w2 ⟨rfl, hb2⟩
            have hsz2 := hb2.size
            go_wp2_with fail
            refine (HMay.out _).mono ?_
            rintro e w3 ⟨rfl, rfl⟩
            go_wp2_with fail
            refine (tupleCat_any (cut50 a) (cut50 b) q _ (by omega) (by omega) (by omega)).mono ?_
            rintro e w3 ⟨rfl, rfl⟩
            go_wp2_with fail
            refine (tupleCat_any (catB (cut50 a) (cut50 b) q) (cut50 c) q _ hs1 (by omega) (by omega)).mono ?_
            rintro e w3 ⟨rfl, rfl⟩
            go_wp2_with fail
            refine (tupleCat_any (cut50 b) (cut50 c) q _ (by omega) (by omega) (by omega)).mono ?_
            rintro e w3 ⟨rfl, rfl⟩
            go_wp2_with fail
            refine (HLast.out _).mono ?_
            rintro e w3 ⟨rfl, rfl⟩
            go_wp2_with fail
            go_roundw
            case rel => exact ⟨q + 1, by omega, by omega, by go_num, hbq.trans (hb2.mono hszq)⟩
            case measure => simp [intOf]; omega
          · obtain rfl : q = 5 := by omega
            go_wp2
            go_ret
            exact ⟨rfl, hb1.trans (((hbel.trans (hbq.mono hszr))).mono hz1s)⟩

theorem uint8_of_wf {a : Int} (h : (Lit.int .u8 a).wf = true) : 0 ≤ a ∧ a ≤ 255 := by
  simpa [Lit.wf, IntKind.min, IntKind.max, IntKind.signed, IntKind.bits] using h
theorem tupleWhole_law {H : Type} {base : Nat} (enc : TypeId × Value → H) (W : World) (a0 : ByteArray) (w0 : a0.size ≤ maxLen) (a1 : ByteArray) (w1 : a1.size ≤ maxLen) (a2 : ByteArray) (w2 : a2.size ≤ maxLen)
    (v3 : Value) (d3 : DataW H) (p3 : List MemPlace) (k3 : Value.okWide Try.prog W .any base 42 v3) (h3 : DataW.Trod enc Try.prog W 0 (fun _ => true) true 42 v3 d3 p3) (a4 : Int) (w4 : (Lit.int .u8 a4).wf = true) :
    Calls Try.prog 7 #[.string a0, .string a1, .string a2, v3, .int .u8 a4] W fun e w' => e = .returned (.bool true) ∧ Below W.heap.size W w' := by
  obtain ⟨l, hr, hl⟩ := Row.of_ints Try.underlying42 Try.underlying5 (by kernel_rfl) (Go.WideShapes.okWide_slice Try.underlying42 k3) h3
  obtain ⟨h0, h1⟩ := uint8_of_wf w4
  obtain ⟨n, rfl⟩ := Int.eq_ofNat_of_zero_le h0
  exact tupleWhole_walk a0 a1 a2 v3 l n W w0 w1 w2 (by omega) (fun x hx => uint8_of_wf (hl x hx)) hr
end Go.Proofs.Ytjfehnjkijecpaa
