/-
  The walks of tuple.Text and of the document's answer.
-/
import Derived.Test.YtjfehnjkijecpaaTupleW
import Derived.Test.YtjfehnjkijecpaaShelf
import Derived.Lib.Join
namespace Go.Proofs.Ytjfehnjkijecpaa
open Go.RowKit
set_option linter.unusedVariables false

theorem info_str : (Try.prog.info? 9).map (fun i => (i.zero, i.size, i.bytes)) = some (some (.string ByteArray.empty), 1, 16) := by kernel_rfl
def strs (l : List ByteArray) : List Value := l.map .string
theorem strs_length (l : List ByteArray) : (strs l).length = l.length := by simp [strs]
theorem strs_one (l : List ByteArray) : ∀ u ∈ strs l, u.oneCell' = true := by
  intro u hu; obtain ⟨b, _, rfl⟩ := List.mem_map.1 hu; rfl
theorem strs_at (l : List ByteArray) (j : Nat) (hj : j < l.length) : (strs l)[j]? = some (.string l[j]) := by simp [strs, hj]

/-- The name of a byte. -/
def nameAt (ss : List ByteArray) (b : UInt8) : ByteArray := if b.toNat = 0 then ⟨#[36]⟩ else if h : b.toNat - 1 < ss.length then ss[b.toNat - 1] else ⟨#[63]⟩
theorem nameAt_zero (ss : List ByteArray) (b : UInt8) (h : b.toNat = 0) : nameAt ss b = ⟨#[36]⟩ := by unfold nameAt; rw [if_pos h]
theorem nameAt_in (ss : List ByteArray) (b : UInt8) (h : b.toNat ≠ 0) (h2 : b.toNat - 1 < ss.length) : nameAt ss b = ss[b.toNat - 1] := by unfold nameAt; rw [if_neg h, dif_pos h2]
theorem nameAt_out (ss : List ByteArray) (b : UInt8) (h : b.toNat ≠ 0) (h2 : ¬ b.toNat - 1 < ss.length) : nameAt ss b = ⟨#[63]⟩ := by unfold nameAt; rw [if_neg h, dif_neg h2]
theorem nameAt_size (ss : List ByteArray) (b : UInt8) (M : Nat) (hM : 1 ≤ M) (h : ∀ x ∈ ss, x.size ≤ M) : (nameAt ss b).size ≤ M := by
  unfold nameAt
  split
  · exact hM
  · split
    · exact h _ (List.getElem_mem _)
    · exact hM
/-- The names of some tokens, with blanks between. -/
def textS (ss : List ByteArray) (l : List UInt8) : ByteArray := ⟨(Lib.join ((l.map (nameAt ss)).map (·.data.toList)) [32]).toArray⟩
theorem join_snoc (xs : List (List UInt8)) (y sep : List UInt8) (h : xs ≠ []) : Lib.join (xs ++ [y]) sep = Lib.join xs sep ++ (sep ++ y) := by
  cases xs with
  | nil => exact absurd rfl h
  | cons x r => rw [List.cons_append, Lib.join_cons, Lib.join_cons]; simp [Lib.joinTail]
theorem join_len (xs : List (List UInt8)) (M : Nat) (h : ∀ x ∈ xs, x.length ≤ M) : (Lib.join xs [32]).length ≤ xs.length * (M + 1) := by
  obtain ⟨n, hn⟩ : ∃ n, n = xs.length := ⟨_, rfl⟩
  induction n generalizing xs with
  | zero => rw [List.length_eq_zero_iff.1 hn.symm]; simp [Lib.join_nil]
  | succ n ih =>
    have hne : xs ≠ [] := by intro h0; rw [h0] at hn; simp at hn
    have hsplit : xs.dropLast ++ [xs.getLast hne] = xs := List.dropLast_concat_getLast hne
    generalize xs.dropLast = m at hsplit
    generalize xs.getLast hne = y at hsplit
    subst hsplit
    have hy := h y (by simp)
    have hm := ih m (fun x hx => h x (by simp [hx])) (by simp at hn; omega)
    by_cases h0 : m = []
    · subst h0; rw [List.nil_append, Lib.join_one]; simp; omega
    · rw [join_snoc _ _ _ h0]; simp only [List.length_append, List.length_cons, List.length_nil]; rw [Nat.add_mul]; omega
theorem textS_size (ss : List ByteArray) (l : List UInt8) (M : Nat) (hM : 1 ≤ M) (h : ∀ x ∈ ss, x.size ≤ M) : (textS ss l).size ≤ l.length * (M + 1) := by
  show (_ : List UInt8).toArray.size ≤ _
  rw [List.size_toArray]
  have := join_len ((l.map (nameAt ss)).map (·.data.toList)) M (by
    intro x hx
    obtain ⟨y, hy, rfl⟩ := List.mem_map.1 hx
    obtain ⟨b, _, rfl⟩ := List.mem_map.1 hy
    show (nameAt ss b).data.toList.length ≤ M
    rw [blen]; exact nameAt_size ss b M hM h)
  simpa using this
theorem textS_first (ss : List ByteArray) (b : UInt8) : textS ss [b] = nameAt ss b := by
  apply bext; show Lib.join [(nameAt ss b).data.toList] [32] = _; rw [Lib.join_one]
theorem textS_snoc (ss : List ByteArray) (l : List UInt8) (b : UInt8) (h : l ≠ []) : textS ss (l ++ [b]) = textS ss l ++ ⟨#[32]⟩ ++ nameAt ss b := by
  apply bext
  rw [ByteArray.data_append, ByteArray.data_append, Array.toList_append, Array.toList_append]
  show Lib.join ((((l ++ [b]).map (nameAt ss))).map (·.data.toList)) [32] = Lib.join ((l.map (nameAt ss)).map (·.data.toList)) [32] ++ [32] ++ (nameAt ss b).data.toList
  rw [List.map_append, List.map_append]
  show Lib.join (_ ++ [(nameAt ss b).data.toList]) [32] = _
  rw [join_snoc _ _ _ (by intro h0; apply h; simpa using h0), List.append_assoc]
theorem take_snocL (s : ByteArray) (k : Nat) (h : k < s.size) : s.data.toList.take (k + 1) = s.data.toList.take k ++ [s[k]] := by
  have h' : k < s.data.size := h
  rw [List.take_succ_eq_append_getElem (by simpa using h')]; rfl

set_option maxHeartbeats 1600000 in
theorem tupleText_any (t : ByteArray) (v : Value) (B : Nat) (ss : List ByteArray) (w : World) (hr : Row w B 1 v ss.length (strs ss)) (hB : B ≤ w.heap.size) (ht : t.size ≤ 50) (hss : ∀ x ∈ ss, x.size ≤ 1048576) :
    Calls Try.prog 26 #[.string t, v] w fun e w' => e = .returned (.string (textS ss t.data.toList)) ∧ Below w.heap.size w w' := by
  obtain ⟨i0, hi, hz0, hz1, hz2⟩ := info_parts info_str
  obtain ⟨ao, c, rfl, hc1, hc2⟩ := hr.val
  have hsl := hr.2.1
  unfold maxLen at hc2 hsl
  have Hss := Lib.hid hss; clear hss
  go_enter Try.func26, Try.ntmps26
  go_wp2
  go_loopw [5, 6] (fun v i wr => ∃ k : Nat, k ≤ t.size ∧ i = .int .i64 k ∧ wr.ownsRow w.heap.size 9 1 v k (strs ((t.data.toList.take k).map (nameAt ss))) ∧ Below w.heap.size w wr) (fun _ i _ => t.size - (intOf i).toNat)
  case atStart => exact ⟨0, by omega, rfl, World.ownsRow_nil _ _ _ _, Below.refl _ _⟩
  case round =>
    obtain ⟨k, hk, rfl, hown, hbel⟩ := hrel
    have hsz := hbel.size
    by_cases hlt : k < t.size
    · have Hsn : Hid (strs ((t.data.toList.take k).map (nameAt ss)) ++ [.string (nameAt ss t[k])] = strs ((t.data.toList.take (k + 1)).map (nameAt ss))) := by
        show _ = _
        rw [take_snocL t k hlt, List.map_append]; simp [strs]
      have hb256 : (t[k].toNat : Int) ≤ 255 := by have := t[k].toNat_lt; omega
      by_cases h0 : t[k].toNat = 0
      · have hn := nameAt_zero ss t[k] h0
        rw [hn] at Hsn
        have h0' : ((t[k].toNat : Int) == 0) = true := by simp; omega
        have Hr := Lib.hid hr; clear hr hn h0
        go_wp2_with (at_builtin; refine wpList_append_row rfl (.tmp 24) (.tmp 25) 38 rfl w.heap.size 9 i0 (.string ByteArray.empty) 1 16 Try.underlying38 hi hz0 hz1 hz2 rfl (by decide) _ k _ rfl (hown.alloc _) _ _ 1 _ rfl (row_one _ _ _) ?_ (by unfold maxLen; omega) (by omega) (by simp; omega) ?_; (intro u hu; simp at hu; subst hu; rfl); intro v' w1 hown1 hgrow)
        rw [Hsn.out] at hown1
        have hb1 : Below w.heap.size w w1 := (hbel.alloc hsz _).grown hgrow (by simp; omega) (fun j hj => (hown.lt j hj).1)
        clear hown hgrow hbel
        go_roundw
        case rel => exact ⟨k + 1, by omega, by go_num, hown1, hb1⟩
        case measure => simp [intOf]; omega
      · have h0' : ((t[k].toNat : Int) == 0) = false := by simp; omega
        by_cases h1 : t[k].toNat - 1 < ss.length
        · have hn := nameAt_in ss t[k] h0 h1
          rw [hn] at Hsn
          have h1' : (t[k].toNat : Int) ≤ ss.length := by omega
          have hrk := (hr.below (hbel.mono hB))
          obtain ⟨b, off, rfl, hbB, _⟩ := hrk.at (by rw [strs_length]; omega)
          have hc := hrk.cell (t[k].toNat - 1) _ (strs_at ss _ h1)
          obtain ⟨j, hj⟩ : ∃ j, j = t[k].toNat - 1 := ⟨_, rfl⟩
          have hjn : (t[k].toNat : Int) - 1 = (j : Int) := by omega
          obtain ⟨x, hx⟩ : ∃ x, x = ss[t[k].toNat - 1] := ⟨_, rfl⟩
          rw [← hx] at hc Hsn
          rw [← hj] at hc
          have hjs : j < ss.length := by omega
          have Hr := Lib.hid hr; have Hrk := Lib.hid hrk
          have Hj := Lib.hid hj
          have h2' : (1 : Int) ≤ (t[k].toNat : Int) := by omega
          clear hrk hr hn h0 hx hj
          go_wp2_with (at_builtin; refine wpList_append_row rfl (.tmp 32) (.tmp 38) 38 rfl w.heap.size 9 i0 (.string ByteArray.empty) 1 16 Try.underlying38 hi hz0 hz1 hz2 rfl (by decide) _ k _ rfl (hown.alloc _) _ _ 1 _ rfl (row_one _ _ _) ?_ (by unfold maxLen; omega) (by omega) (by simp; omega) ?_; (intro u hu; simp at hu; subst hu; rfl); intro v' w1 hown1 hgrow)
          rw [Hsn.out] at hown1
          have hb1 : Below w.heap.size w w1 := (hbel.alloc hsz _).grown hgrow (by simp; omega) (fun j hj => (hown.lt j hj).1)
          clear hown hgrow hbel
          go_roundw
          case rel => exact ⟨k + 1, by omega, by go_num, hown1, hb1⟩
          case measure => simp [intOf]; omega
        · have hn := nameAt_out ss t[k] h0 h1
          rw [hn] at Hsn
          have h1' : ¬ (t[k].toNat : Int) ≤ ss.length := by omega
          have Hr := Lib.hid hr; clear hr hn h0 h1
          go_wp2_with (at_builtin; refine wpList_append_row rfl (.tmp 18) (.tmp 19) 38 rfl w.heap.size 9 i0 (.string ByteArray.empty) 1 16 Try.underlying38 hi hz0 hz1 hz2 rfl (by decide) _ k _ rfl (hown.alloc _) _ _ 1 _ rfl (row_one _ _ _) ?_ (by unfold maxLen; omega) (by omega) (by simp; omega) ?_; (intro u hu; simp at hu; subst hu; rfl); intro v' w1 hown1 hgrow)
          rw [Hsn.out] at hown1
          have hb1 : Below w.heap.size w w1 := (hbel.alloc hsz _).grown hgrow (by simp; omega) (fun j hj => (hown.lt j hj).1)
          clear hown hgrow hbel
          go_roundw
          case rel => exact ⟨k + 1, by omega, by go_num, hown1, hb1⟩
          case measure => simp [intOf]; omega
    · obtain rfl : k = t.size := by omega
      rw [show t.data.toList.take t.size = t.data.toList from by rw [List.take_of_length_le]; rw [blen]; exact Nat.le_refl _] at hown
      have Hrow := Lib.hid (Row.of_owns hown)
      have Hr := Lib.hid hr; clear hown hr
      have hLen := textS_size ss t.data.toList 1048576 (by decide) Hss.out
      rw [blen] at hLen
      have htm : t.size * (1048576 + 1) ≤ 50 * (1048576 + 1) := Nat.mul_le_mul_right _ ht
      have Hlen : Hid ((Lib.join (((t.data.toList.map (nameAt ss))).map (·.data.toList)) [32]).length ≤ 140737488355328) := by
        show _ ≤ _
        have : (textS ss t.data.toList).size = (Lib.join (((t.data.toList.map (nameAt ss))).map (·.data.toList)) [32]).length := by
          show (_ : List UInt8).toArray.size = _; simp
        omega
      clear hLen htm
      have Hlt : Hid (((t.data.toList.map (nameAt ss))).length = t.size) := by show _ = _; rw [List.length_map, blen]
      have Htx : Hid (textS ss t.data.toList = ⟨(Lib.join (((t.data.toList.map (nameAt ss))).map (·.data.toList)) [32]).toArray⟩) := rfl
      generalize t.data.toList.map (nameAt ss) = nm at *
      obtain ⟨ao', c', hv, hcc1, hcc2⟩ := Hrow.out.val
      subst hv
      by_cases h0 : t.size = 0
      · have hnm : nm = [] := List.length_eq_zero_iff.1 (by rw [Hlt.out]; exact h0)
        subst hnm
        rw [h0]
        go_wp2_with fail
        refine (Try.strings_Join_none _ _ _ _).mono ?_
        rintro e w1 ⟨rfl, rfl⟩
        go_wp2_with fail
        go_ret
        exact ⟨ret_str (by rw [Htx.out]; rfl), hbel⟩
      · obtain ⟨b, off, rfl, hb, hcells⟩ := Hrow.out.at (by rw [strs_length, Hlt.out]; omega)
        have hJ := Try.strings_Join b off c' nm ⟨#[32]⟩ wr (fun j x hx => hcells j (.string x) (by simp [strs, hx])) hb (by rw [Hlt.out]; omega) (by rw [Hlt.out]; omega) Hlen.out
        rw [Hlt.out] at hJ
        have HJ := Lib.hid hJ
        clear hJ hcells
        go_wp2_with fail
        refine (HJ.out).mono ?_
        rintro e w1 ⟨rfl, hb1⟩
        go_wp2_with fail
        go_ret
        exact ⟨ret_str (by rw [Htx.out]), hbel.trans (hb1.mono hsz)⟩

def spaced (ss : List ByteArray) (t : ByteArray) (k : Nat) : ByteArray := if k = 0 then textS ss (t.data.toList.take k) else textS ss (t.data.toList.take k) ++ ⟨#[32]⟩

set_option maxHeartbeats 1600000 in
theorem refText12_any (t : ByteArray) (v : Value) (B : Nat) (ss : List ByteArray) (w : World) (hr : Row w B 1 v ss.length (strs ss)) (hB : B ≤ w.heap.size) (ht : t.size ≤ 50) (hss : ∀ x ∈ ss, x.size ≤ 1048576) :
    Calls Try.prog 27 #[.string t, v] w fun e w' => e = .returned (.string (textS ss t.data.toList)) ∧ w = w' := by
  obtain ⟨ao, c, rfl, hc1, hc2⟩ := hr.val
  have hsl := hr.2.1
  unfold maxLen at hc2 hsl
  have Hss := Lib.hid hss; clear hss
  go_enter Try.func27, Try.ntmps27
  go_wp2
  go_loop [5, 6] (fun v i => ∃ k : Nat, k ≤ t.size ∧ i = .int .i64 k ∧ v = .string (textS ss (t.data.toList.take k))) (fun _ i => t.size - (intOf i).toNat)
  case atStart => exact ⟨0, by omega, rfl, rfl⟩
  case round =>
    obtain ⟨k, hk, rfl, rfl⟩ := hrel
    by_cases hlt : k < t.size
    · have hb256 : (t[k].toNat : Int) ≤ 255 := by have := t[k].toNat_lt; omega
      have hz1 := textS_size ss (t.data.toList.take k) 1048576 (by decide) Hss.out
      have hz2 : (nameAt ss t[k]).size ≤ 1048576 := nameAt_size ss _ _ (by decide) Hss.out
      rw [List.length_take, blen] at hz1
      have hz3 : min k t.size * (1048576 + 1) ≤ 50 * (1048576 + 1) := Nat.mul_le_mul_right _ (by omega)
      have hz4 : (textS ss (t.data.toList.take k)).size ≤ 52428850 := by omega
      have Hnext : Hid (textS ss (t.data.toList.take (k + 1)) = if k = 0 then nameAt ss t[k] else textS ss (t.data.toList.take k) ++ ⟨#[32]⟩ ++ nameAt ss t[k]) := by
        show _ = _
        by_cases h0 : k = 0
        · have h1 : t.data.toList.take k = [] := by rw [h0]; rfl
          rw [if_pos h0, take_snocL t k hlt, h1]; exact textS_first ss _
        · rw [if_neg h0, take_snocL t k hlt, textS_snoc]
          intro h; have h2 := congrArg List.length h; rw [List.length_take, blen, List.length_nil] at h2; omega
      have Hemp : Hid (k = 0 → textS ss (t.data.toList.take k) = ⟨#[]⟩) := by rintro rfl; rfl
      have hcase : (t[k].toNat = 0 ∧ nameAt ss t[k] = ⟨#[36]⟩) ∨ (t[k].toNat ≠ 0 ∧ t[k].toNat - 1 < ss.length) ∨ (t[k].toNat ≠ 0 ∧ ¬ t[k].toNat - 1 < ss.length ∧ nameAt ss t[k] = ⟨#[63]⟩) := by
        by_cases h0 : t[k].toNat = 0
        · exact .inl ⟨h0, nameAt_zero ss _ h0⟩
        · by_cases h1 : t[k].toNat - 1 < ss.length
          · exact .inr (.inl ⟨h0, h1⟩)
          · exact .inr (.inr ⟨h0, h1, nameAt_out ss _ h0 h1⟩)
      clear hz1 hz3
      generalize hT : textS ss (t.data.toList.take k) = T at *
      generalize hT2 : textS ss (t.data.toList.take (k + 1)) = T2 at *
      have HT2 := Lib.hid hT2; have HT := Lib.hid hT
      clear hT hT2
      have fin : ∀ X : ByteArray, (if k = 0 then T else T ++ ⟨#[32]⟩) = X → X ++ nameAt ss t[k] = T2 := by
        intro X hX
        rw [Hnext.out, ← hX]
        by_cases h0 : k = 0
        · rw [if_pos h0, if_pos h0, Hemp.out h0]; apply bext; rw [ByteArray.data_append]; simp
        · rw [if_neg h0, if_neg h0]
      have Fin := Lib.hid fin; clear fin
      rcases hcase with ⟨h0, hn⟩ | ⟨h0, h1⟩ | ⟨h0, h1, hn⟩
      · have h0' : ((t[k].toNat : Int) == 0) = true := by simp; omega
        have Hn := Lib.hid hn; clear hn h0
        by_cases hk0 : k = 0
        · have F := Lib.hid (Fin.out T (by rw [if_pos hk0]))
          have hk1 : ¬ (0 : Int) < (k : Int) := by omega
          clear hk0
          go_wp2
          go_round
          case rel => exact ⟨k + 1, by omega, by go_num, by rw [HT2.out, ← F.out, Hn.out]⟩
          case measure => simp [intOf]; omega
        · have F := Lib.hid (Fin.out (T ++ ⟨#[32]⟩) (by rw [if_neg hk0]))
          have hk1 : (0 : Int) < (k : Int) := by omega
          clear hk0
          go_wp2
          go_round
          case rel => exact ⟨k + 1, by omega, by go_num, by rw [HT2.out, ← F.out, Hn.out]⟩
          case measure => simp [intOf]; omega
      · have h0' : ((t[k].toNat : Int) == 0) = false := by simp; omega
        have h1' : (t[k].toNat : Int) ≤ ss.length := by omega
        obtain ⟨b, off, rfl, hbB, _⟩ := hr.at (by rw [strs_length]; omega)
        have hc := hr.cell (t[k].toNat - 1) _ (strs_at ss _ h1)
        have Hn : Hid (nameAt ss t[k] = ss[t[k].toNat - 1]) := nameAt_in ss _ h0 h1
        obtain ⟨j, hj⟩ : ∃ j, j = t[k].toNat - 1 := ⟨_, rfl⟩
        have hjn : (t[k].toNat : Int) - 1 = (j : Int) := by omega
        obtain ⟨x, hx⟩ : ∃ x, x = ss[t[k].toNat - 1] := ⟨_, rfl⟩
        have Hn2 : Hid (nameAt ss t[k] = x) := by rw [hx]; exact Hn.out
        rw [← hx, ← hj] at hc
        have hxs : x.size ≤ 1048576 := by rw [hx]; exact Hss.out _ (List.getElem_mem _)
        have hjs : j < ss.length := by omega
        have Hr := Lib.hid hr
        have h2' : (1 : Int) ≤ (t[k].toNat : Int) := by omega
        clear hr h0 Hn hx hj
        have Hn := Hn2; clear Hn2
        by_cases hk0 : k = 0
        · have F := Lib.hid (Fin.out T (by rw [if_pos hk0]))
          have hk1 : ¬ (0 : Int) < (k : Int) := by omega
          clear hk0
          go_wp2
          go_round
          case rel => exact ⟨k + 1, by omega, by go_num, by rw [HT2.out, ← F.out, Hn.out]⟩
          case measure => simp [intOf]; omega
        · have F := Lib.hid (Fin.out (T ++ ⟨#[32]⟩) (by rw [if_neg hk0]))
          have hk1 : (0 : Int) < (k : Int) := by omega
          clear hk0
          go_wp2
          go_round
          case rel => exact ⟨k + 1, by omega, by go_num, by rw [HT2.out, ← F.out, Hn.out]⟩
          case measure => simp [intOf]; omega
      · have h0' : ((t[k].toNat : Int) == 0) = false := by simp; omega
        have h1' : ¬ (t[k].toNat : Int) ≤ ss.length := by omega
        have Hn := Lib.hid hn; have Hr := Lib.hid hr; clear hn h0 h1 hr
        by_cases hk0 : k = 0
        · have F := Lib.hid (Fin.out T (by rw [if_pos hk0]))
          have hk1 : ¬ (0 : Int) < (k : Int) := by omega
          clear hk0
          go_wp2
          go_round
          case rel => exact ⟨k + 1, by omega, by go_num, by rw [HT2.out, ← F.out, Hn.out]⟩
          case measure => simp [intOf]; omega
        · have F := Lib.hid (Fin.out (T ++ ⟨#[32]⟩) (by rw [if_neg hk0]))
          have hk1 : (0 : Int) < (k : Int) := by omega
          clear hk0
          go_wp2
          go_round
          case rel => exact ⟨k + 1, by omega, by go_num, by rw [HT2.out, ← F.out, Hn.out]⟩
          case measure => simp [intOf]; omega
    · obtain rfl : k = t.size := by omega
      rw [show t.data.toList.take t.size = t.data.toList from by rw [List.take_of_length_le]; rw [blen]; exact Nat.le_refl _]
      go_wp2
      go_ret
      exact ⟨rfl, rfl⟩
end Go.Proofs.Ytjfehnjkijecpaa
