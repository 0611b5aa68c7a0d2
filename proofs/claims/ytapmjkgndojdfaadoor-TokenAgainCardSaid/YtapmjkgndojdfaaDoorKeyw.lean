/-
  Keywords: the walks over the tables of words.
-/
import Derived.Test.YtapmjkgndojdfaaDoorStab
import Derived.Lib.ItoaNum
import Derived.Lib.ItoaLen
import Derived.Deep.WholeRow
import Derived.Laws.Tables
import Derived.Deep.DeepCutAuto
namespace Go.Proofs.YtapmjkgndojdfaaDoor
open Go.RowKit
set_option linter.unusedVariables false

/-- Is the text among these? -/
def inB (s : ByteArray) (zs : List (List UInt8)) : Bool := zs.any fun z => s.toList == (bs z).toList
theorem inB_at (s : ByteArray) (zs : List (List UInt8)) (k : Nat) (hk : k < zs.length) (h : (s.toList == (bs (zs.getD k [])).toList) = true) : inB s zs = true := by
  unfold inB
  rw [List.any_eq_true]
  refine ⟨zs[k], List.getElem_mem hk, ?_⟩
  rw [List.getD_eq_getElem?_getD, List.getElem?_eq_getElem hk, Option.getD_some] at h
  exact h
theorem inB_not (s : ByteArray) (zs : List (List UInt8)) (h : ∀ j, j < zs.length → (s.toList == (bs (zs.getD j [])).toList) = false) : inB s zs = false := by
  unfold inB
  rw [List.any_eq_false]
  intro z hz
  obtain ⟨j, hj, rfl⟩ := List.getElem_of_mem hz
  have := h j hj
  rw [List.getD_eq_getElem?_getD, List.getElem?_eq_getElem hj, Option.getD_some] at this
  simp [this]
theorem notStep (s : ByteArray) (zs : List (List UInt8)) (m : Nat) (h : ∀ j, j < m → (s.toList == (bs (zs.getD j [])).toList) = false) (hm : (s.toList == (bs (zs.getD m [])).toList) = false) : ∀ j, j < m + 1 → (s.toList == (bs (zs.getD j [])).toList) = false := by
  intro j hj
  rcases Nat.lt_or_ge j m with h1 | h1
  · exact h j h1
  · obtain rfl : j = m := by omega
    exact hm
theorem ret_i {a b : Int} (h : a = b) : Ending.returned (.int .i64 a) = .returned (.int .i64 b) := by rw [h]
theorem cell_add (w : World) (g : Nat) (cs : Array Value) (t : TypeId) (fr : Nat × Nat) (h : w.heap[g]? = some (.cells cs t fr)) (j : Nat) : w.cell? (Addr.add ⟨g, 0, none⟩ j) = cs[j]? := by
  by_cases h0 : j = 0
  · subst h0; simp [Addr.add, World.cell?, h]
  · simp [Addr.add, World.cell?, h0, h]
/-- Texts as values. -/
def sv (l : List ByteArray) : List Value := l.map .string
theorem sv_length (l : List ByteArray) : (sv l).length = l.length * 1 := by simp [sv]
theorem sv_at (l : List ByteArray) (j : Nat) (hj : j < l.length) : (sv l)[j]? = some (.string l[j]) := by simp [sv, hj]
/-- The first place of a text among others; -1, if it is not there. -/
def findI (s : ByteArray) (l : List ByteArray) : Int := if l.findIdx (fun z => z.toList == s.toList) < l.length then (l.findIdx (fun z => z.toList == s.toList) : Nat) else -1
theorem findI_at (s : ByteArray) (l : List ByteArray) (k : Nat) (hk : k < l.length) (h : (l[k].toList == s.toList) = true) (hb : ∀ j (hj : j < l.length), j < k → (l[j].toList == s.toList) = false) : findI s l = (k : Nat) := by
  have : l.findIdx (fun z => z.toList == s.toList) = k := (List.findIdx_eq hk).2 ⟨h, fun j hj => hb j (by omega) hj⟩
  unfold findI
  rw [this, if_pos hk]
theorem findI_not (s : ByteArray) (l : List ByteArray) (hb : ∀ j (hj : j < l.length), j < l.length → (l[j].toList == s.toList) = false) : findI s l = -1 := by
  unfold findI
  rw [if_neg]
  intro h
  have := List.findIdx_getElem (w := h)
  rw [hb _ h h] at this
  cases this
theorem lstep (s : ByteArray) (l : List ByteArray) (k : Nat) (hk : k < l.length) (h : ∀ j (hj : j < l.length), j < k → (l[j].toList == s.toList) = false) (hm : (l[k].toList == s.toList) = false) : ∀ j (hj : j < l.length), j < k + 1 → (l[j].toList == s.toList) = false := by
  intro j hj hjk
  rcases Nat.lt_or_ge j k with h1 | h1
  · exact h j hj h1
  · obtain rfl : j = k := by omega
    exact hm
theorem findI_in (s : ByteArray) (zs : List (List UInt8)) : decide (0 ≤ findI s (zs.map bs)) = inB s zs := by
  unfold findI
  by_cases h : (zs.map bs).findIdx (fun z => z.toList == s.toList) < (zs.map bs).length
  · rw [if_pos h]
    have h1 := List.findIdx_getElem (w := h)
    have h2 : inB s zs = true := by
      unfold inB
      rw [List.any_eq_true]
      rw [List.getElem_map] at h1
      exact ⟨_, List.getElem_mem _, by simpa [BEq.comm] using h1⟩
    rw [h2, decide_eq_true (by omega)]
  · rw [if_neg h]
    have h2 : inB s zs = false := by
      rw [← Bool.not_eq_true]
      intro h3
      unfold inB at h3
      obtain ⟨z, hz, h4⟩ := List.any_eq_true.1 h3
      exact h (List.findIdx_lt_length.2 ⟨bs z, List.mem_map_of_mem hz, by simpa [BEq.comm] using h4⟩)
    rw [h2]
    rfl
def kwT : List (List UInt8) := [[103, 114, 97, 109, 109, 97, 114], [108, 111, 111, 107], [115, 121, 110, 99], [116, 111, 107, 101, 110]]
def resT : List (List UInt8) := [[98, 111, 111, 108], [99, 97, 115, 101], [100, 101, 102, 97, 117, 108, 116], [101, 108, 115, 101], [102, 97, 108, 115, 101], [102, 111, 114], [102, 117, 110, 99], [105, 102], [105, 110, 116], [108, 111, 111, 107], [110, 101, 119], [110, 105, 108], [112, 97, 99, 107, 97, 103, 101], [114, 101, 116, 117, 114, 110], [115, 116, 114, 117, 99, 116], [115, 119, 105, 116, 99, 104], [116, 114, 117, 101], [116, 121, 112, 101]]
theorem kwT_length : kwT.length = 4 := by decide
theorem resT_length : resT.length = 18 := by decide

theorem str_some : (Tryd.prog.info? 9).isSome = true := by kernel_rfl
theorem str_info : ∃ d, Tryd.prog.info? 9 = some d := Option.isSome_iff_exists.1 str_some
theorem str_cells : Tryd.prog.cellsOf 9 = 1 := by kernel_rfl
theorem res_info : (Tryd.prog.info? 52).map (·.size) = some 18 := by kernel_rfl

set_option maxRecDepth 100000 in
set_option maxHeartbeats 1600000 in
theorem reserved_any (s : ByteArray) (w : World) (hs : s.size ≤ maxLen) (hkw : StrsIs w 1 resT) :
    Calls Tryd.prog 31 #[.string s] w fun e w' => e = .returned (.bool (inB s resT)) ∧ w = w' := by
  obtain ⟨t, fr, hg⟩ := hkw
  obtain ⟨ds, hds⟩ := str_info
  have hix := run_index_strs 52 9 18 resT Tryd.underlying52 Tryd.underlying9 hds str_cells
  generalize hT : (resT.map fun z => Value.string (bs z)).toArray = cs at hg hix
  have hsz : cs.size = 18 := by rw [← hT]; simp [resT_length]
  have hinfo : (Tryd.prog.info? 52).map (·.size) = some cs.size := by rw [hsz]; exact res_info
  clear hds hT
  have Hix := Lib.hid hix; clear hix
  go_enter Tryd.func31, Tryd.ntmps31
  go_upto_region 2 with (refine wpList_load_row rfl 52 (.global 1) rfl 1 rfl t cs fr _ hg Tryd.underlying52 rfl hinfo ?_)
  go_loop [6] (fun i => ∃ k : Nat, k ≤ 18 ∧ i = .int .i64 k ∧ ∀ j, j < k → (s.toList == (bs (resT.getD j [])).toList) = false) (fun i => 18 - (intOf i).toNat)
  case atStart => exact ⟨0, by omega, rfl, fun j hj => by omega⟩
  case round =>
    obtain ⟨k, hk, rfl, hall⟩ := hrel
    have Hall := Lib.hid hall; clear hall
    by_cases hlt : k < 18
    · have hx := fun w => Hix.out k hlt resT_length.symm w (bs (resT.getD k [])) rfl
      generalize hz : bs (resT.getD k []) = z at hx
      have Hz := Lib.hid hz; clear hz
      rcases Bool.eq_false_or_eq_true (s.toList == z.toList) with h | h
      · have HT := Lib.hid (inB_at s resT k (by rw [resT_length]; exact hlt) (by rw [Hz.out]; exact h))
        go_wp2
        go_ret
        exact ⟨ret_bool HT.out.symm, rfl⟩
      · have hnext := Lib.hid (notStep s resT k Hall.out (by rw [Hz.out]; exact h))
        go_wp2
        go_round
        case rel => exact ⟨k + 1, by omega, by go_num, hnext.out⟩
        case measure => simp [intOf]; omega
    · obtain rfl : k = 18 := by omega
      have HF := Lib.hid (inB_not s resT (by rw [resT_length]; exact Hall.out))
      go_wp2
      go_ret
      exact ⟨ret_bool HF.out.symm, rfl⟩

set_option maxRecDepth 100000 in
set_option maxHeartbeats 1600000 in
theorem refFind_any (s : ByteArray) (v : Value) (l : List ByteArray) (B : Nat) (w : World) (hs : s.size ≤ maxLen) (hr : Row w B 1 v l.length (sv l)) :
    Calls Tryd.prog 33 #[.string s, v] w fun e w' => e = .returned (.int .i64 (findI s l)) ∧ w = w' := by
  obtain ⟨ao, c, rfl, hc1, hc2⟩ := hr.val
  have hl63 : l.length ≤ 9223372036854775807 := by unfold maxLen at hc2; omega
  go_enter Tryd.func33, Tryd.ntmps33
  go_wp2
  go_loop [5] (fun i => ∃ k : Nat, k ≤ l.length ∧ i = .int .i64 k ∧ ∀ j (hj : j < l.length), j < k → (l[j].toList == s.toList) = false) (fun i => l.length - (intOf i).toNat)
  case atStart => exact ⟨0, by omega, rfl, fun j _ hj => by omega⟩
  case round =>
    obtain ⟨k, hk, rfl, hall⟩ := hrel
    have Hall := Lib.hid hall; clear hall
    by_cases hlt : k < l.length
    · obtain ⟨b, off, rfl, hbB, _⟩ := hr.at (by rw [sv_length]; omega)
      have hc := hr.cell k _ (sv_at l k hlt)
      have Hr := Lib.hid hr; clear hr
      rcases Bool.eq_false_or_eq_true (l[k].toList == s.toList) with h | h
      · have HT := Lib.hid (findI_at s l k hlt h Hall.out)
        go_wp2
        go_ret
        exact ⟨ret_i HT.out.symm, rfl⟩
      · have hnext := Lib.hid (lstep s l k hlt Hall.out h)
        go_wp2
        go_round
        case rel => exact ⟨k + 1, by omega, by go_num, hnext.out⟩
        case measure => simp [intOf]; omega
    · obtain rfl : k = l.length := by omega
      have HF := Lib.hid (findI_not s l Hall.out)
      go_wp2
      go_ret
      exact ⟨ret_i HF.out.symm, rfl⟩

set_option maxRecDepth 100000 in
theorem refReserved_any (s : ByteArray) (w : World) (hs : s.size ≤ maxLen) :
    Calls Tryd.prog 25 #[.string s] w fun e w' => e = .returned (.bool (inB s resT)) ∧ Below w.heap.size w w' := by
  go_enter Tryd.func25, Tryd.ntmps25
  go_wp2_with fail
  refine (refFind_any s _ (resT.map bs) (w.heap.size + 1) _ hs ?_).mono ?_
  · refine ⟨by rw [sv_length], by simp [resT_length, maxLen], .inr ⟨_, 18, rfl, by simp [resT_length], by unfold maxLen; omega, .inr (by show w.heap.size < _; omega), fun j u hu => ?_⟩⟩
    rw [cell_add _ _ _ _ _ (heap_alloc_new w _)]
    simpa [sv, resT, bs] using hu
  · rintro e w' ⟨rfl, rfl⟩
    have HF := Lib.hid (findI_in s resT)
    generalize findI s (resT.map bs) = z at *
    go_wp2_with fail
    go_ret
    exact ⟨ret_bool HF.out, (Below.refl _ w).alloc (Nat.le_refl _) _⟩
end Go.Proofs.YtapmjkgndojdfaaDoor
