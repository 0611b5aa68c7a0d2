/-
  pack.Heads, and the document's.
-/
import Derived.Test.YtbmaappambmhoaaPackO
namespace Go.Proofs.Ytbmaappambmhoaa
open Go.RowKit PK
set_option linter.unusedVariables false
attribute [local go_sem ↓] append_appM

theorem ints_append (a b : List Int) : ints (a ++ b) = ints a ++ ints b := by simp [ints]
theorem pushI0 (X : World) (base n : Nat) (v : Value) (l : List Int) (x : Int) (hb : base ≤ X.heap.size) (hn : l.length = n) (hown : X.ownsRow base 3 1 v n (ints l)) (hm : n + 1 ≤ 1000000) :
    ∃ ao c w', Sem.run Try.prog (appM #[33, 33] 33 #[v, .slice (some ⟨X.heap.size, 0, none⟩) 1 1]) (X.alloc (.cells #[.int .i64 x] 3)) = .ok (.slice ao (n + 1) c) w' ∧ w'.ownsRow base 3 1 (.slice ao (n + 1) c) (n + 1) (ints (l ++ [x])) ∧ Below base X w' ∧ n + 1 ≤ c ∧ c ≤ maxLen := by
  obtain ⟨i0, hi, hz0, hz1, hz2⟩ := info_parts info_int
  have rt : Row (X.alloc (.cells #[.int .i64 x] 3)) (X.heap.size + 1) 1 (.slice (some ⟨X.heap.size, 0, none⟩) 1 1) 1 (ints [x]) := row_cellsB X (ints [x]) 1 1 1 _ rfl (Nat.le_refl _) (by unfold maxLen; omega)
  obtain ⟨v', w', h1, h2, h3, _⟩ := run_append_row (P := Try.prog) (X.alloc (.cells #[.int .i64 x] 3)) 33 33 base 3 i0 (.int .i64 0) 1 8 Try.underlying33 hi hz0 hz1 hz2 rfl (by decide) v n (ints l) (hown.alloc _) (X.heap.size + 1) _ 1 (ints [x]) rt (ints_one _) (by unfold maxLen; omega) (by omega) (by simp; omega)
  obtain ⟨ao, c, rfl, hc1, hc2⟩ := owns_valP h2
  rw [← ints_append] at h2
  exact ⟨ao, c, w', h1, h2, ((Below.refl base X).alloc hb _).grown h3 (by simp; omega) (fun k hk => (hown.lt k hk).1), hc1, hc2⟩

/-- The first bytes. -/
def hd : Tx → List Int
  | [] => []
  | b :: _ => [(b.toNat : Int)]
def headsF (a : List Tx) : List Int := a.flatMap hd
theorem headsF_take (a : List Tx) (k : Nat) (hk : k < a.length) : headsF (a.take k) ++ hd a[k] = headsF (a.take (k + 1)) := by
  unfold headsF; rw [List.take_succ_eq_append_getElem hk, List.flatMap_append]; simp
theorem hd_len (x : Tx) : (hd x).length ≤ 1 := by cases x <;> simp [hd]
theorem headsF_len (a : List Tx) : (headsF a).length ≤ a.length := by
  unfold headsF
  induction a with
  | nil => simp
  | cons x a ih => rw [List.flatMap_cons, List.length_append, List.length_cons]; have := hd_len x; omega
theorem headsF_range (a : List Tx) : ∀ x ∈ headsF a, 0 ≤ x ∧ x < 256 := by
  intro x hx
  unfold headsF at hx
  obtain ⟨y, _, hy⟩ := List.mem_flatMap.1 hx
  cases y with
  | nil => simp [hd] at hy
  | cons b r =>
    simp only [hd, List.mem_singleton] at hy
    have := b.toNat_lt
    omega

set_option maxHeartbeats 1000000 in
set_option maxRecDepth 100000 in
theorem packHeads_any (v : Value) (a : List Tx) (B : Nat) (w : World) (hB : B ≤ w.heap.size) (r : Row w B 1 v a.length (svt a)) (hl : a.length ≤ 10000) (hx : ∀ x ∈ a, x.length ≤ 1000) :
    Calls Try.prog 25 #[v] w (OwnI w (toSetI (headsF a))) := by
  obtain ⟨ao, c, rfl, hc1, hc2⟩ := r.val
  have hl63 : a.length ≤ 9223372036854775807 := by omega
  have R := Lib.hid r; have Hx := Lib.hid hx
  clear r hx
  go_enter Try.func25, Try.ntmps25
  go_wp2_with fail
  go_loopw [3, 5, 8] (fun o _ i wr => ∃ k : Nat, k ≤ a.length ∧ i = .int .i64 k ∧ wr.ownsRow w.heap.size 3 1 o (headsF (a.take k)).length (ints (headsF (a.take k))) ∧ Below w.heap.size w wr) (fun _ _ i _ => a.length - (intOf i).toNat)
  case atStart => exact ⟨0, Nat.zero_le _, rfl, World.ownsRow_nil _ _ _ _, Below.refl _ _⟩
  case round =>
    obtain ⟨k, hk, rfl, hown, hbel⟩ := hrel
    obtain ⟨oo, oc, rfl, ho1, ho2⟩ := owns_valP hown
    have Hown := Lib.hid hown; have Hbel := Lib.hid hbel
    have hln := headsF_len (a.take k)
    rw [List.length_take] at hln
    by_cases hlt : k < a.length
    · have a1 := R.out.below (hbel.mono hB)
      obtain ⟨b1, o1, rfl, hb1, _⟩ := a1.at (by rw [svt_length]; omega)
      have c10 := a1.cell k _ (svt_at a k hlt)
      have hk0 : (k : Int) < (a.length : Int) := by omega
      have hk1 : (0 : Int) ≤ (k : Int) := by omega
      have hxl := Hx.out _ (List.getElem_mem hlt)
      have Hst := Lib.hid (headsF_take a k hlt)
      generalize headsF (a.take k) = L at *
      clear a1 hown hbel
      generalize a[k] = x at *
      cases x with
      | nil =>
        simp only [hd, List.append_nil] at Hst
        have Hln := Lib.hid hln; clear hln
        go_wp2_with fail
        go_roundw
        case rel => exact ⟨k + 1, hlt, by go_num, by rw [← Hst.out]; exact Hown.out, Hbel.out⟩
        case measure => simp [intOf]; omega
      | cons y x =>
        simp only [hd] at Hst
        obtain ⟨vo, vc, w2, happ, hown2, hbel2, hv1, hv2⟩ := pushI0 wr w.heap.size L.length (.slice oo L.length oc) L (y.toNat : Int) Hbel.out.size rfl Hown.out (by omega)
        have Hown2 := Lib.hid hown2; have Hbel2 := Lib.hid (Hbel.out.trans hbel2)
        have Hln := Lib.hid hln; clear hln
        unfold maxLen at hv2
        have hy := y.toNat_lt
        have hy2 : y.toNat ≤ 255 := by omega
        have hxl2 : x.length ≤ 999 := by simp at hxl; omega
        clear hown2 hbel2 hxl hy
        have hw1 : ∀ h : 0 < (ByteArray.mk (y :: x).toArray).size, (ByteArray.mk (y :: x).toArray)[0]'h = y := fun _ => rfl
        have hw2 : wrap64 (y.toNat : Int) = (y.toNat : Int) := by unfold wrap64; omega
        go_wp2_with fail
        go_roundw
        case rel => exact ⟨k + 1, hlt, by go_num, by rw [← Hst.out, List.length_append]; exact Hown2.out, Hbel2.out⟩
        case measure => simp [intOf]; omega
    · obtain rfl : k = a.length := by omega
      rw [List.take_length] at Hown hln
      have hm := Lib.hid (madeI_any _ (headsF a) w.heap.size wr hbel.size Hown.out (by omega))
      clear hown hbel hln
      simp only [List.take_length] at ho1
      go_wp2_with fail
      refine (hm.out).mono ?_
      rintro e w2 ⟨v2, rfl, own2, b2⟩
      go_wp2_with fail
      go_ret
      exact ⟨_, rfl, own2, Hbel.out.trans b2⟩
end Go.Proofs.Ytbmaappambmhoaa
