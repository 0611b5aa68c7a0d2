/-
  What holds of rows, cells and blocks, whatever the program; the base's Ints, SameInts, HasInt.
-/
import Derived.Test.YtimgnbacgdmiiaaRows
import Derived.Test.YtimgnbacgdmiiaaSlB
import Derived.Test.YtimgnbacgdmiiaaSlC
import Derived.Lib.OwnBridge
import Derived.Laws.Rows
import Derived.Laws.ResultCell
import Derived.Maps.AppendAt
namespace Go.Proofs.Ytimgnbacgdmiiaa
open Go.RowKit
set_option linter.unusedVariables false
set_option linter.unusedSimpArgs false
attribute [local go_sem ↓] append_appM

theorem owns_belowP {w w' : World} {base e size v n xs} (h : w.ownsRow base e size v n xs) (hb : Below w.heap.size w w') : w'.ownsRow base e size v n xs := by
  refine ⟨h.1, ?_⟩
  rcases h.2 with hn | ⟨g, cap, cur, rfl, hb', hg, rest⟩
  · exact .inl hn
  · refine .inr ⟨g, cap, cur, rfl, hb', ?_, rest⟩
    rw [hb.block g (Array.getElem?_eq_some_iff.1 hg).1]
    exact hg
theorem owns_baseP {w : World} {base base' e size v n xs} (h : w.ownsRow base e size v n xs) (hb : base' ≤ base) : w.ownsRow base' e size v n xs := by
  refine ⟨h.1, ?_⟩
  rcases h.2 with hn | ⟨g, cap, cur, rfl, hb', rest⟩
  · exact .inl hn
  · exact .inr ⟨g, cap, cur, rfl, by omega, rest⟩
theorem owns_valP {w : World} {base e size v n xs} (h : w.ownsRow base e size v n xs) : ∃ ao c, v = .slice ao n c ∧ n ≤ c ∧ c ≤ maxLen := by
  rcases h.2 with ⟨rfl, rfl⟩ | ⟨g, cap, cur, rfl, hb', hg, h1, h2, _⟩
  · exact ⟨none, 0, rfl, Nat.le_refl _, Nat.zero_le _⟩
  · exact ⟨_, cap, rfl, h1, h2⟩
def BoolB (w : World) (b : Bool) (en : Ending) (w' : World) : Prop := en = .returned (.bool b) ∧ Below w.heap.size w w'
theorem below_drewsP (w : World) (n : Nat) : Below w.heap.size w (w.drewN n) := ⟨rfl, rfl, rfl, Nat.le_refl _, fun _ _ => rfl⟩
theorem ret_boolP {a b : Bool} (h : a = b) : Ending.returned (.bool a) = .returned (.bool b) := by rw [h]
theorem cell_new (w : World) (cs : Array Value) (t : TypeId) (i : Nat) (v : Value) (h : cs[i]? = some v) : (w.alloc (.cells cs t)).cell? ⟨w.heap.size, i, none⟩ = some v := by
  have h1 : (w.alloc (.cells cs t)).heap[w.heap.size]? = some (.cells cs t) := Array.getElem?_push_size
  unfold World.cell?; simp only [h1]; exact h
theorem owns_setN {w : World} {base e size n c g : Nat} {xs : List Value} (h : w.ownsRow base e size (.slice (some ⟨g, 0, none⟩) n c) n xs) (j : Nat) (hj : j < xs.length) (u : Value) :
    (w.setCell ⟨g, j, none⟩ u).ownsRow base e size (.slice (some ⟨g, 0, none⟩) n c) n (xs.set j u) := by
  refine ⟨by rw [List.length_set]; exact h.1, ?_⟩
  rcases h.2 with ⟨hv, _⟩ | ⟨g', cap, cur, hv, hb, hg, h1, h2, h3, h4⟩
  · simp at hv
  · simp only [Value.slice.injEq, Option.some.injEq, Addr.mk.injEq, and_true, true_and] at hv
    obtain ⟨rfl, rfl⟩ := hv
    refine .inr ⟨g, c, cur.setIfInBounds j u, rfl, hb, ?_, h1, h2, by rw [Array.size_setIfInBounds]; exact h3, ?_⟩
    · have hlt := lt_of_block hg
      have h' : w.heap[g] = .cells cur e (0, 0) := by simpa [Array.getElem?_eq_getElem hlt] using hg
      show (w.heap.modify g _)[g]? = _
      rw [Array.getElem?_eq_getElem (by simpa using hlt), Array.getElem_modify_self, h']
      rfl
    · rw [Array.toList_setIfInBounds, ← h4, List.take_set]
theorem ptr_set {w : World} {g : Nat} {cs : Array Value} {T : TypeId} (h : w.heap[g]? = some (.cells cs T (0, 0))) (j : Nat) (u : Value) :
    (w.setCell ⟨g, j, none⟩ u).heap[g]? = some (.cells (cs.setIfInBounds j u) T (0, 0)) := by
  have hlt := lt_of_block h
  have h' : w.heap[g] = .cells cs T (0, 0) := by simpa [Array.getElem?_eq_getElem hlt] using h
  show (w.heap.modify g _)[g]? = _
  rw [Array.getElem?_eq_getElem (by simpa using hlt), Array.getElem_modify_self, h']
  rfl
theorem set_same {α : Type} (l : List α) (k : Nat) (u : α) (h : l[k]? = some u) : l.set k u = l := by
  apply List.ext_getElem?
  intro j
  rw [List.getElem?_set]
  by_cases e : k = j
  · subst e
    have hk : k < l.length := by
      rcases Nat.lt_or_ge k l.length with h1 | h1
      · exact h1
      · rw [List.getElem?_eq_none h1] at h; cases h
    rw [if_pos rfl, if_pos hk, h]
  · rw [if_neg e]
theorem info_intT : (Try.prog.info? 3).map (fun i => (i.zero, i.size, i.bytes)) = some (some (.int .i64 0), 1, 8) := by kernel_rfl
theorem owns_drewN {w : World} {base e size v n xs} (h : w.ownsRow base e size v n xs) : w.drew.ownsRow base e size v n xs := h
theorem ints_oneT (l : List Int) : ∀ u ∈ ints l, u.oneCell' = true := by
  intro u hu; simp only [ints, List.mem_map] at hu; obtain ⟨x, _, rfl⟩ := hu; rfl
theorem cell_eq {w w2 : World} {p : Addr} (h : w2.heap[p.block]? = w.heap[p.block]?) : w2.cell? p = w.cell? p := World.cell?_of_block (w := w) h
theorem frozen_eq {w w2 : World} {p : Addr} (h : w2.heap[p.block]? = w.heap[p.block]?) : w2.frozen? p = w.frozen? p := by
  unfold World.frozen?; rw [h]
theorem ints_take (l : List Int) (k : Nat) : (ints l).take (k * 1) = ints (l.take k) := by simp [ints, List.map_take]
theorem owns_cellN {w : World} {base e size ao n c xs} (h : w.ownsRow base e size (.slice ao n c) n xs) (hn : 0 < n) : ∃ g, ao = some ⟨g, 0, none⟩ ∧ base ≤ g ∧ g < w.heap.size ∧ (∀ j u, xs[j]? = some u → w.cell? ⟨g, j, none⟩ = some u) ∧ (∀ j, w.frozen? ⟨g, j, none⟩ = false) := by
  rcases h.2 with ⟨_, h0⟩ | ⟨g, cap, cur, hv, hb', hg, h1, h2, h3, h4⟩
  · omega
  · simp only [Value.slice.injEq] at hv
    obtain ⟨rfl, _, rfl⟩ := hv
    refine ⟨g, rfl, hb', (Array.getElem?_eq_some_iff.1 hg).1, fun j u hu => ?_, fun j => by simp [World.frozen?, hg]⟩
    rw [cell_of_row w g j cur e (0, 0) hg]
    rw [← h4, List.getElem?_take] at hu
    split at hu
    · simpa using hu
    · cases hu
theorem owns_blockN {w w' : World} {base e size v n xs} (h : w.ownsRow base e size v n xs) (hk : ∀ k, v.ownBlock = some k → w'.heap[k]? = w.heap[k]?) : w'.ownsRow base e size v n xs := by
  refine ⟨h.1, ?_⟩
  rcases h.2 with hn | ⟨g, cap, cur, rfl, hb', hg, rest⟩
  · exact .inl hn
  · exact .inr ⟨g, cap, cur, rfl, hb', by rw [hk g rfl]; exact hg, rest⟩
theorem i64_of_wfT {a : Int} (h : (Lit.int .i64 a).wf = true) : -9223372036854775808 ≤ a ∧ a ≤ 9223372036854775807 := by
  simpa [Lit.wf, IntKind.min, IntKind.max, IntKind.signed, IntKind.bits] using h
def OwnI (w : World) (l : List Int) (en : Ending) (w' : World) : Prop := ∃ v, en = .returned v ∧ w'.ownsRow w.heap.size 3 1 v l.length (ints l) ∧ Below w.heap.size w w'
set_option maxHeartbeats 1000000 in
set_option maxRecDepth 100000 in
theorem baseInts_any (v : Value) (l : List Int) (B : Nat) (w : World) (hB : B ≤ w.heap.size) (r : Row w B 1 v l.length (ints l)) (hl : l.length ≤ 100000) :
    Calls Try.prog 57 #[v] w (OwnI w l) := by
  obtain ⟨ao, c, rfl, hc1, hc2⟩ := r.val
  obtain ⟨i0, hi, hz0, hz1, hz2⟩ := info_parts info_intT
  have hbel := (Below.refl w.heap.size w).alloc (Nat.le_refl _) (.cells #[] 3)
  have hown0 := World.ownsRow_made (base := w.heap.size) (e := 3) (size := 1) w #[] 0 (Nat.le_refl _) (Nat.zero_le _) rfl
  obtain ⟨v', w', e1, e2, e3, e4⟩ := run_append_row (P := Try.prog) (w.alloc (.cells #[] 3)) 22 22 w.heap.size 3 i0 (.int .i64 0) 1 8 Try.underlying22 hi hz0 hz1 hz2 rfl (by decide) _ 0 [] hown0 B (.slice ao l.length c) l.length (ints l) (r.below (hbel.mono hB)) (ints_oneT l) (by unfold maxLen; omega) (by omega) hbel.size
  have happ := (show Sem.run Try.prog (appM _ _ _) _ = _ from e1)
  have HB := Lib.hid (hbel.grown e3 hbel.size (fun g hg => (hown0.lt g hg).1))
  have Ho : Hid (w'.ownsRow w.heap.size 3 1 v' l.length (ints l)) := Lib.hid (by simpa using e2)
  clear e1 e2 e3 e4 hown0 hbel r hi hz0 hz1 hz2 hc1 hc2
  go_enter Try.func57, Try.ntmps57
  go_wp2_with fail
  go_ret
  exact ⟨_, rfl, Ho.out, HB.out⟩
theorem int_ext_take (a b : List Int) (hl : a.length = b.length) (h : ∀ j (h1 : j < a.length) (h2 : j < b.length), a[j] = b[j]) : a = b := List.ext_getElem hl h
set_option maxHeartbeats 1000000 in
theorem hasInt_any (v : Value) (l : List Int) (t : Int) (B : Nat) (w : World) (hB : B ≤ w.heap.size) (r : Row w B 1 v l.length (ints l)) :
    Calls Try.prog 51 #[v, .int .i64 t] w (BoolB w (decide (t ∈ l))) := by
  obtain ⟨ao, c, rfl, hc1, hc2⟩ := r.val
  have hl63 : l.length ≤ 9223372036854775807 := by unfold maxLen at hc2; omega
  have R := Lib.hid r
  clear r
  go_enter Try.func51, Try.ntmps51
  go_wp2_with fail
  go_loopw [5] (fun i wr => ∃ k : Nat, k ≤ l.length ∧ i = .int .i64 k ∧ Below w.heap.size w wr ∧ t ∉ l.take k) (fun i _ => l.length - (intOf i).toNat)
  case atStart => exact ⟨0, Nat.zero_le _, rfl, Below.refl _ _, by simp⟩
  case round =>
    obtain ⟨k, hk, rfl, hbel, hall⟩ := hrel
    have Hall := Lib.hid hall; clear hall
    by_cases hlt : k < l.length
    · have a1 := R.out.below (hbel.mono hB)
      obtain ⟨b1, o1, rfl, hb1, _⟩ := a1.at (by rw [ints_length]; omega)
      have c10 := a1.cell k _ (ints_at l k hlt)
      have hk0 : (k : Int) < (l.length : Int) := by omega
      have hk1 : (0 : Int) ≤ (k : Int) := by omega
      have Hin : Hid (l[k] = t → t ∈ l) := Lib.hid fun e => by rw [← e]; exact List.getElem_mem hlt
      have Hst : Hid (l[k] ≠ t → t ∉ l.take (k + 1)) := Lib.hid fun e => by
        rw [List.take_succ_eq_append_getElem hlt, List.mem_append]
        rintro (h | h)
        · exact Hall.out h
        · exact e (List.mem_singleton.1 h).symm
      clear a1 Hall
      generalize l[k] = x at *
      by_cases hxt : x = t
      · replace Hin := Lib.hid (Hin.out hxt)
        have hq : (x == t) = true := by simpa using hxt
        clear hxt Hst
        go_wp2_with fail
        go_ret
        exact ⟨ret_boolP (decide_eq_true Hin.out).symm, hbel⟩
      · replace Hst := Lib.hid (Hst.out hxt)
        have hq : (x == t) = false := by simpa using hxt
        clear hxt Hin
        go_wp2_with fail
        go_roundw
        case rel => exact ⟨k + 1, hlt, by go_num, hbel, Hst.out⟩
        case measure => simp [intOf]; omega
    · obtain rfl : k = l.length := by omega
      have H : Hid (t ∉ l) := Lib.hid (by have := Hall.out; rw [List.take_length] at this; exact this)
      clear Hall
      go_wp2_with fail
      go_ret
      exact ⟨ret_boolP (decide_eq_false H.out).symm, hbel⟩
end Go.Proofs.Ytimgnbacgdmiiaa
