/-
  What the rows of a program's sets are made of: tuple.Of of one, nothing, whole, Ahead's function, Set.
-/
import Derived.Test.YtimgnbacgdmiiaaFirA
import Derived.Test.YtimgnbacgdmiiaaKPackK
import Derived.Test.YtimgnbacgdmiiaaBnfC
import Derived.Test.YtimgnbacgdmiiaaShelf
namespace Go.Proofs.Ytimgnbacgdmiiaa
open Go.RowKit PK
set_option linter.unusedVariables false
set_option linter.unusedSimpArgs false
attribute [local go_sem ↓] append_appM

theorem info_byte : (Try.prog.info? 5).map (fun i => (i.zero, i.size, i.bytes)) = some (some (.int .u8 0), 1, 1) := by kernel_rfl
def toB (n : Int) : UInt8 := UInt8.ofNat (n % 256).toNat
theorem toB_nat (n : Int) : ((toB n).toNat : Int) = n % 256 := by
  unfold toB; rw [UInt8.toNat_ofNat']; omega
/-- The text of some numbers' last bytes. -/
def ofB (l : List Int) : ByteArray := ⟨(l.map toB).toArray⟩
/-- The bytes of the first k numbers, zeros behind. -/
def half (l : List Int) (k : Nat) : List Value := bys ((l.take k).map toB) ++ List.replicate (l.length - k) (.int .u8 0)
theorem half_zero (l : List Int) : half l 0 = List.replicate l.length (.int .u8 0) := by simp [half, bys]
theorem half_all (l : List Int) : half l l.length = bys (l.map toB) := by simp [half]
theorem half_set (l : List Int) (k : Nat) (h : k < l.length) : (half l k).set k (.int .u8 (l[k] % 256)) = half l (k + 1) := by
  unfold half
  rw [List.set_append, if_neg (by simp [bys]; omega)]
  have hk : (bys ((l.take k).map toB)).length = k := by simp [bys]; omega
  rw [hk, Nat.sub_self]
  obtain ⟨r, hr⟩ : ∃ r, l.length - k = r + 1 := ⟨l.length - k - 1, by omega⟩
  rw [hr, List.replicate_succ, List.set_cons_zero, show l.length - (k + 1) = r from by omega]
  rw [List.take_succ_eq_append_getElem h, List.map_append]
  simp [bys, toB_nat]

set_option maxHeartbeats 400000 in
theorem tupleOf_any (v : Value) (B : Nat) (l : List Int) (w : World) (hr : Row w B 1 v l.length (ints l)) (hB : B ≤ w.heap.size) (hl : l.length ≤ 140737488355328) :
    Calls Try.prog 94 #[v] w fun e w' => e = .returned (.string (ofB l)) ∧ Below w.heap.size w w' := by
  obtain ⟨i0, hi, hz0, hz1, hz2⟩ := info_parts info_byte
  obtain ⟨ao, c, rfl, _, _⟩ := hr.val
  go_enter Try.func94, Try.ntmps94
  go_wp2_with (at_make; refine wpList_make_full _ rfl _ _ 66 rfl w.heap.size 5 i0 (.int .u8 0) 1 Try.underlying66 hi hz0 hz1 .i64 .i64 _ _ l.length rfl rfl rfl rfl (by rw [hz2]; omega) (by unfold maxLen; omega) (Nat.le_refl _) ?_; intro w1 hown hgrow)
  have hown1 : w1.ownsRow w.heap.size 5 1 (.slice (some ⟨w.heap.size, 0, none⟩) l.length l.length) l.length (half l 0) := by
    rw [half_zero]
    have : (madeCells (Value.int .u8 0).cells (l.length * 1)).toList = List.replicate l.length (.int .u8 0) := by rw [Nat.mul_one]; exact toList_madeCells_one _ _
    rw [← this]; exact hown
  have hb1 : Below w.heap.size w w1 := (Below.refl _ w).grown hgrow (Nat.le_refl _) (fun k hk => by cases hk)
  clear hown hgrow
  go_loopw [11] (fun i wr => ∃ k : Nat, k ≤ l.length ∧ i = .int .i64 k ∧ wr.ownsRow w.heap.size 5 1 (.slice (some ⟨w.heap.size, 0, none⟩) l.length l.length) l.length (half l k) ∧ Below w.heap.size w wr) (fun i _ => l.length - (intOf i).toNat)
  case atStart => exact ⟨0, by omega, rfl, hown1, hb1⟩
  case round =>
    obtain ⟨k, hk, rfl, hown, hbel⟩ := hrel
    clear hown1 hb1
    by_cases hlt : k < l.length
    · have hrk := (hr.below (hbel.mono hB))
      obtain ⟨b, off, rfl, hbB, _⟩ := hrk.at (by rw [ints_length]; omega)
      have hc := hrk.cell k _ (ints_at l k hlt)
      have ho := hown.cellAt k (by omega)
      have hof := hown.frozenAt k
      have hst := hown.stored k (.int .u8 (l[k] % 256))
      rw [half_set l k hlt] at hst
      obtain ⟨u, hu⟩ : ∃ u, (half l k)[k]? = some u := ⟨_, List.getElem?_eq_getElem (by have := hown.1; omega)⟩
      rw [hu] at ho
      have Hst := Lib.hid hst; have Hr := Lib.hid hr; have Hrk := Lib.hid hrk
      clear hu hst hown hrk hr
      go_wp2
      go_roundw
      case rel => exact ⟨k + 1, by omega, by go_num, Hst.out.1, hbel.grown Hst.out.2 hbel.size (fun j hj => by cases hj; exact Nat.le_refl _)⟩
      case measure => simp [intOf]; omega
    · obtain rfl : k = l.length := by omega
      rw [half_all] at hown
      have hrow := Row.of_owns hown
      have hcv := run_bytes_row (P := Try.prog) (src := 66) (dst := 9) (l := l.map toB) Try.underlying66 Try.underlying5 Try.underlying9 (by rw [List.length_map]; exact hrow)
      clear hrow hown
      go_wp2
      go_ret
      exact ⟨rfl, hbel⟩
theorem ofB_one (n : Int) (h0 : 0 ≤ n) (h1 : n ≤ 255) : ofB [n] = ⟨([UInt8.ofNat n.toNat] : Tx).toArray⟩ := by
  unfold ofB toB
  rw [List.map_cons, List.map_nil, show n % 256 = n by omega]
set_option maxHeartbeats 1000000 in
theorem rnothing_any (v : Value) (a : List Tx) (B : Nat) (w : World) (r : Row w B 1 v a.length (svt a)) :
    Calls Try.prog 61 #[v] w fun e w' => e = .returned (.bool (decide (a = [[]]))) ∧ w' = w := by
  obtain ⟨ao, c, rfl, hc1, hc2⟩ := r.val
  by_cases h1 : a.length = 1
  · obtain ⟨b1, o1, rfl, hbb1, _⟩ := r.at (by rw [svt_length]; omega)
    obtain ⟨x, rfl⟩ := List.length_eq_one_iff.1 h1
    have c10 := r.cell 0 _ (svt_at [x] 0 (by simp))
    rw [Nat.add_zero] at c10
    simp only [List.getElem_cons_zero, List.length_singleton] at c10 ⊢
    have hx : decide ([x] = [([] : Tx)]) = decide (x = []) := by simp
    rw [hx]
    clear r h1 hx hc1 hc2 hbb1
    cases x with
    | nil =>
      go_enter Try.func61, Try.ntmps61
      go_wp2_with fail
      go_ret
      exact ⟨rfl, rfl⟩
    | cons x0 xr =>
      have hs : ¬ (⟨(x0 :: xr).toArray⟩ : ByteArray).toList = [] := by rw [ByteArray.toList_eq]; simp
      generalize (⟨(x0 :: xr).toArray⟩ : ByteArray) = s at *
      go_enter Try.func61, Try.ntmps61
      go_wp2_with fail
      go_ret
      exact ⟨by simp [hs], rfl⟩
  · have hq : ((a.length : Int) == 1) = false := by rw [beq_eq_false_iff_ne]; omega
    have hq2 : (a.length == 1) = false := by rw [beq_eq_false_iff_ne]; exact h1
    have hq3 : decide (a.length = 1) = false := decide_eq_false h1
    have hne : decide (a = [[]]) = false := decide_eq_false fun h => h1 (by rw [h]; rfl)
    rw [hne]
    generalize a.length = n at *
    clear r h1 hne
    go_enter Try.func61, Try.ntmps61
    go_wp2_with fail
    go_ret
    exact ⟨rfl, rfl⟩
theorem wholeP_any (k : Int) (b : Nat) (w : World) (hc : w.cell? ⟨b, 0, none⟩ = some (.int .i64 k)) (hb : b < w.heap.size) :
    PredAt Try.prog 90 #[.pointer (some ⟨b, 0, none⟩)] (fun t : Tx => .string ⟨t.toArray⟩) (fun t => decide ((t.length : Int) < k)) w := by
  intro W x hB
  have c := (hB.cell (p := ⟨b, 0, none⟩) hb).trans hc
  show Calls Try.prog 90 #[.string ⟨x.toArray⟩, .pointer (some ⟨b, 0, none⟩)] W (fun e w' => e = .returned (.bool (decide ((x.length : Int) < k))) ∧ ∃ q, w' = W.drewN q)
  have hs := tx_size x
  generalize (⟨x.toArray⟩ : ByteArray) = s at *
  rw [← hs]
  clear hs hB hc
  go_enter Try.func90, Try.ntmps90
  go_wp2_with fail
  go_ret
  exact ⟨by first | rfl | simp, 0, rfl⟩
theorem containsW_any (k : Int) (b : Nat) (v : Value) (l : List Tx) (B : Nat) (w : World) (hc : w.cell? ⟨b, 0, none⟩ = some (.int .i64 k)) (hb : b < w.heap.size) (r : Row w B 1 v l.length (svt l)) :
    Calls Try.prog 89 #[v, .func (.func 90) #[] #[.pointer (some ⟨b, 0, none⟩)]] w fun e w' => e = .returned (.bool (l.any fun t => decide ((t.length : Int) < k))) ∧ ∃ q, w' = w.drewN q := by
  obtain ⟨ao, c, rfl, hc1, hc2⟩ := r.val
  unfold maxLen at hc2
  rcases Nat.eq_zero_or_pos l.length with h0 | h0
  · rw [h0]
    have : l = [] := List.length_eq_zero_iff.1 h0
    subst this
    exact (Try.slices_ContainsFunc_empty (α := Tx) ao c _ w).mono fun e w' h => ⟨h.1, 0, h.2⟩
  · obtain ⟨g, o, rfl, h1, _⟩ := r.at (by rw [svt_length]; omega)
    have h := Try.slices_ContainsFunc (fun t : Tx => .string ⟨t.toArray⟩) (fun t => decide ((t.length : Int) < k)) 90 #[.pointer (some ⟨b, 0, none⟩)] (enters_of Try.func90 (by kernel_rfl) rfl) g o l.length c l w (wholeP_any k b w hc hb) (Nat.le_refl _) (by omega) (fun j hj => by
      have := r.cell j _ (svt_at l j hj)
      rw [this, getElem!_pos l j hj])
    rw [List.take_length] at h
    exact h
/-- Can nothing stand behind a set's texts? -/
def wholeB (a : List Tx) (k : Int) : Bool := !(a.any fun t => decide ((t.length : Int) < k))
theorem whole_any (k : Int) (v : Value) (l : List Tx) (B : Nat) (w : World) (hB : B ≤ w.heap.size) (r : Row w B 1 v l.length (svt l)) :
    Calls Try.prog 62 #[v, .int .i64 k] w (BoolB w (wholeB l k)) := by
  obtain ⟨ao, c, rfl, hc1, hc2⟩ := r.val
  have hb := (Below.refl w.heap.size w).alloc (Nat.le_refl _) (.cells #[.int .i64 k] 3)
  have Hc := Lib.hid (containsW_any k w.heap.size (.slice ao l.length c) l B (w.alloc (.cells #[.int .i64 k] 3)) (cell_new w _ _ 0 _ rfl) (by simp) (r.below (hb.mono hB)))
  have Hb := Lib.hid hb
  have Hw : Hid (wholeB l k = !(l.any fun t => decide ((t.length : Int) < k))) := Lib.hid rfl
  generalize wholeB l k = y at *
  generalize (l.any fun t => decide ((t.length : Int) < k)) = x at *
  clear r hb hB hc1 hc2
  go_enter Try.func62, Try.ntmps62
  go_wp2_with fail
  refine (Hc.out).mono ?_
  rintro e w2 ⟨rfl, q, rfl⟩
  have Hd := Lib.hid (Hb.out.trans (below_drewsP (w.alloc (.cells #[.int .i64 k] 3)) q |>.mono Hb.out.size))
  clear Hc
  cases x
  all_goals
    go_wp2_with fail
    go_ret
    exact ⟨by rw [Hw.out]; rfl, Hd.out⟩
end Go.Proofs.Ytimgnbacgdmiiaa
