/-
  The maps of package name: what was seen so far.
-/
import Derived.Test.YtjfehnjkijecpaaDoorNameF
import Derived.Maps.OwnSet
import Derived.Maps.Views
import Derived.StringKeys
import Derived.WalkSpells
namespace Go.Proofs.YtjfehnjkijecpaaDoor
open Go.RowKit Go.Maps Go.WideMaps
set_option linter.unusedVariables false

def kx (x : ByteArray) : Lit := .string x.data.toList
/-- Is the text among the first k? -/
def seenB (l : List ByteArray) (k : Nat) (x : ByteArray) : Bool := (l.take k).any fun z => z.toList == x.toList
def Knows {H : Type} (D : DataW H) (l : List ByteArray) (k : Nat) : Prop := IsMap D ∧ ∀ x, Maps.has D (kx x) = seenB l k x
theorem kx_eq (x y : ByteArray) : kx x = kx y ↔ x.toList = y.toList := by
  unfold kx
  rw [ByteArray.toList_eq, ByteArray.toList_eq]
  exact ⟨fun h => by injection h, fun h => by rw [h]⟩
theorem seenB_step (l : List ByteArray) (k : Nat) (hk : k < l.length) (x : ByteArray) : seenB l (k + 1) x = (seenB l k x || l[k].toList == x.toList) := by
  unfold seenB
  rw [List.take_add_one, List.getElem?_eq_getElem hk, List.any_append]
  simp
theorem knows_zero {H : Type} (l : List ByteArray) : Knows (H := H) (.map []) l 0 := ⟨⟨[], rfl⟩, fun x => rfl⟩
theorem knows_put {H : Type} {D : DataW H} {l : List ByteArray} {k : Nat} (h : Knows D l k) (hk : k < l.length) (d : DataW H) : Knows (D.put (kx l[k]) d) l (k + 1) := by
  refine ⟨?_, fun x => ?_⟩
  · obtain ⟨es, rfl⟩ := h.1
    exact ⟨_, rfl⟩
  · rw [seenB_step l k hk x]
    by_cases e : kx x = kx l[k]
    · have hsame := has_put_same (k := kx l[k]) h.1 (by unfold kx; trivial) d
      rw [e, hsame, ((kx_eq _ _).1 e)]
      simp
    · rw [has_put_other e, h.2 x]
      have : (l[k].toList == x.toList) = false := by
        rw [Bool.eq_false_iff]
        intro h2
        exact e ((kx_eq _ _).2 (eq_of_beq h2).symm)
      rw [this, Bool.or_false]
/-- The first place of one that stands ahead of it; -1, if there is none. -/
def twI (l : List ByteArray) : Int := if (List.range l.length).findIdx (fun k => seenB l k (l.getD k ByteArray.empty)) < l.length then ((List.range l.length).findIdx (fun k => seenB l k (l.getD k ByteArray.empty)) : Nat) else -1
theorem getD_at (l : List ByteArray) (k : Nat) (hk : k < l.length) : l.getD k ByteArray.empty = l[k] := by
  rw [List.getD_eq_getElem?_getD, List.getElem?_eq_getElem hk, Option.getD_some]
theorem twI_at (l : List ByteArray) (k : Nat) (hk : k < l.length) (h : seenB l k l[k] = true) (hb : ∀ j (hj : j < l.length), j < k → seenB l j l[j] = false) : twI l = (k : Nat) := by
  have : (List.range l.length).findIdx (fun k => seenB l k (l.getD k ByteArray.empty)) = k := by
    refine (List.findIdx_eq (by simpa using hk)).2 ⟨?_, fun j hj => ?_⟩
    · rw [List.getElem_range, getD_at l k hk]; exact h
    · rw [List.getElem_range, getD_at l j (by omega)]; exact hb j (by omega) hj
  unfold twI
  rw [this, if_pos hk]
theorem twI_not (l : List ByteArray) (hb : ∀ j (hj : j < l.length), j < l.length → seenB l j l[j] = false) : twI l = -1 := by
  unfold twI
  rw [if_neg]
  intro h
  have h2 := List.findIdx_getElem (w := (by simpa using h : (List.range l.length).findIdx (fun k => seenB l k (l.getD k ByteArray.empty)) < (List.range l.length).length))
  rw [List.getElem_range, getD_at l _ h] at h2
  rw [hb _ h h] at h2
  cases h2
theorem sstep (l : List ByteArray) (k : Nat) (hk : k < l.length) (h : ∀ j (hj : j < l.length), j < k → seenB l j l[j] = false) (hm : seenB l k l[k] = false) : ∀ j (hj : j < l.length), j < k + 1 → seenB l j l[j] = false := by
  intro j hj hjk
  rcases Nat.lt_or_ge j k with h1 | h1
  · exact h j hj h1
  · obtain rfl : j = k := by omega
    exact hm
theorem keyLaw : Keyed Tryd.prog 9 := string_keyed Tryd.underlying9
theorem zeroInt (w : World) : (zeroValue 3).run Tryd.prog w = .ok (.int .i64 0) w := by kernel_rfl

set_option maxRecDepth 100000 in
set_option maxHeartbeats 1600000 in
theorem twice_any (v : Value) (l : List ByteArray) (w : World) (hs : ∀ x ∈ l, x.size ≤ maxLen) (hr : Row w w.heap.size 1 v l.length (sv l)) :
    Calls Tryd.prog 26 #[v] w fun e w' => e = .returned (.int .i64 (twI l)) ∧ Below w.heap.size w w' := by
  obtain ⟨ao, c, rfl, hc1, hc2⟩ := hr.val
  have hl63 : l.length ≤ 9223372036854775807 := by unfold maxLen at hc2; omega
  have hmm := @run_makeMap Tryd.prog
  go_enter Tryd.func26, Tryd.ntmps26
  go_wp2
  go_loopw [11] (fun i wr => ∃ (k : Nat) (D : DataW Unit), k ≤ l.length ∧ i = .int .i64 k ∧ wr.ownsMap Tryd.prog 9 (plainElem Tryd.prog 3) w.heap.size k D ∧ Hid (Knows D l k) ∧ Below w.heap.size w wr ∧ Hid (∀ j (hj : j < l.length), j < k → seenB l j l[j] = false))
    (fun i _ => l.length - (intOf i).toNat)
  case atStart => exact ⟨0, _, Nat.zero_le _, rfl, World.ownsMap_made _ _ _ _, Lib.hid (knows_zero l), (Below.refl _ _).alloc (Nat.le_refl _) _, Lib.hid (fun j _ hj => by omega)⟩
  case round =>
    obtain ⟨k, D, hk, rfl, hown, Hkn, hbel, Hall⟩ := hrel
    by_cases hlt : k < l.length
    · have hrk := hr.below hbel
      obtain ⟨b, off, rfl, hbB, _⟩ := hrk.at (by rw [sv_length]; omega)
      have hc := hrk.cell k _ (sv_at l k hlt)
      have hkey : keyOf Tryd.prog 9 (.string l[k]) = some (kx l[k]) := keyOf_string_mk Tryd.underlying9 (hs _ (List.getElem_mem hlt))
      have hhas : Maps.has D (kx l[k]) = seenB l k l[k] := Hkn.out.2 _
      have Hr := Lib.hid hr; have Hrk := Lib.hid hrk
      clear hr hrk
      cases hsn : seenB l k l[k]
      · rw [hsn] at hhas
        have hnext := Lib.hid (sstep l k hlt Hall.out hsn)
        have Hp := Lib.hid fun d => knows_put Hkn.out hlt d
        clear hsn
        go_wp2_with (first
          | (at_lookup; refine wpList_lookup_own_ok_int _ rfl _ _ 57 rfl 9 3 .i64 keyLaw Tryd.underlying57 Tryd.underlying3 (zeroInt _) w.heap.size k D rfl hown _ _ rfl hkey ?_; intro c hat hwc)
          | (at_mapUpdate; refine wpList_mapUpdate_own _ rfl _ _ _ 57 rfl 9 3 keyLaw Tryd.underlying57 _ w.heap.size k _ rfl hown (by unfold maxLen; omega) _ _ _ rfl rfl hkey _ [] (plainElem_int Tryd.underlying3 (WalkArith.wf_i64 (by omega))) ?_; intro w1 hown1 hgrow1)
          | go_in)
        go_roundw
        case rel => exact ⟨k + 1, _, by omega, by go_num, hown1, Lib.hid (Hp.out _), hbel.grown hgrow1 hbel.size (fun j hj => by cases hj; exact Nat.le_refl _), hnext⟩
        case measure => simp [intOf]; omega
      · rw [hsn] at hhas
        have HT := Lib.hid (twI_at l k hlt hsn Hall.out)
        clear hsn
        go_wp2_with (first
          | (at_lookup; refine wpList_lookup_own_ok_int _ rfl _ _ 57 rfl 9 3 .i64 keyLaw Tryd.underlying57 Tryd.underlying3 (zeroInt _) w.heap.size k D rfl hown _ _ rfl hkey ?_; intro c hat hwc)
          | go_in)
        go_ret
        exact ⟨ret_i HT.out.symm, hbel⟩
    · obtain rfl : k = l.length := by omega
      have HF := Lib.hid (twI_not l Hall.out)
      go_wp2
      go_ret
      exact ⟨ret_i HF.out.symm, hbel⟩
end Go.Proofs.YtjfehnjkijecpaaDoor
