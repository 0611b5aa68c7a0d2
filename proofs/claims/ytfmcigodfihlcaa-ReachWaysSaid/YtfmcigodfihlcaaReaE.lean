/-
  The closures of reach; come's list.
-/
import Derived.Test.YtfmcigodfihlcaaReaS
import Derived.Test.YtfmcigodfihlcaaAskB
namespace Go.Proofs.Ytfmcigodfihlcaa
open Go.RowKit PK
set_option linter.unusedVariables false
set_option linter.unusedSimpArgs false
attribute [local go_sem ↓] append_appM

theorem gone_all (s : Sy) (w : World) : Calls Try.prog 50 #[.agg #[.bool s.tok, .int .i64 s.n]] w (BoolB w true) := by
  have Hb := Lib.hid ((Below.refl w.heap.size w).alloc (Nat.le_refl _) (.cells #[.bool s.tok, .int .i64 s.n] 54))
  go_enter Try.func50, Try.ntmps50
  go_wp2_with fail
  go_ret
  exact ⟨rfl, Hb.out⟩
set_option maxHeartbeats 1000000 in
theorem gone_begun (st : List Bool) (gp g N c : Nat) (s : Sy) (w : World) (hp : w.cell? ⟨gp, 0, none⟩ = some (.slice (some ⟨g, 0, none⟩) N c)) (hgp : gp < w.heap.size) (hl : st.length = N) (hN : N ≤ 1000) (hc : ∀ j (hj : j < st.length), w.cell? ⟨g, j, none⟩ = some (.bool st[j])) (hg : g < w.heap.size) (hs : s.tok = false → 0 ≤ s.n ∧ s.n < N) :
    Calls Try.prog 65 #[.agg #[.bool s.tok, .int .i64 s.n], .pointer (some ⟨gp, 0, none⟩)] w (BoolB w (goneF false st s)) := by
  obtain ⟨t, n⟩ := s
  simp only at hs ⊢
  have hb := Lib.hid ((Below.refl w.heap.size w).alloc (Nat.le_refl _) (.cells #[.bool t, .int .i64 n] 54))
  have hp2 := (hb.out.cell (p := ⟨gp, 0, none⟩) hgp).trans hp
  cases t with
  | true =>
    clear hs hc hg hN
    go_enter Try.func65, Try.ntmps65
    go_wp2_with fail
    go_ret
    exact ⟨ret_boolP rfl, hb.out⟩
  | false =>
    obtain ⟨h0, h1⟩ := hs rfl
    obtain ⟨q, rfl⟩ : ∃ q : Nat, n = (q : Int) := ⟨n.toNat, by omega⟩
    have hq : q < st.length := by omega
    have c0 := hc q hq
    have c1 := (hb.out.cell (p := ⟨g, q, none⟩) hg).trans c0
    have hgd : goneF false st ⟨false, (q : Int)⟩ = st[q] := by
      unfold goneF goodB; simp [List.getElem?_eq_getElem hq]
    have Hgd := Lib.hid hgd
    generalize st[q] = v at *
    clear hc hgd hq hl hs
    cases v with
    | true =>
      go_enter Try.func65, Try.ntmps65
      go_wp2_with fail
      go_ret
      exact ⟨ret_boolP Hgd.out.symm, hb.out⟩
    | false =>
      go_enter Try.func65, Try.ntmps65
      go_wp2_with fail
      go_ret
      exact ⟨ret_boolP Hgd.out.symm, hb.out⟩
/-- The function that parts makes. -/
theorem next_any (w : World) (n g N : Nat) (vo : Value) (X : List (Value × List Int)) (h : Ofs w n g vo X) (hN : X.length = N) (hN2 : N ≤ 1000) (j : Nat) (x : Value × List Int) (hx : X[j]? = some x) :
    Calls Try.prog 64 #[.int .i64 (j : Nat), .pointer (some ⟨g, 0, none⟩)] w fun e w' => w' = w ∧ e = .returned x.1 := by
  have hj : j < N := by have := (List.getElem?_eq_some_iff.1 hx).1; omega
  have ho := h.out
  rw [hN] at ho
  obtain ⟨a, c, rfl, _, _⟩ := owns_valP ho
  obtain ⟨b, rfl, _, _, hcd, _, _⟩ := h.atN hN j x hx
  obtain ⟨c5, _, _⟩ := h.box
  have hown := h.each _ (List.mem_of_getElem? hx)
  obtain ⟨xv, xl⟩ := x
  simp only at hcd hown ⊢
  obtain ⟨xa, xc, rfl, _, _⟩ := owns_valP hown
  have hj1 : (j : Int) < (N : Int) := by omega
  have hj2 : (0 : Int) ≤ (j : Int) := by omega
  clear hx h ho hown
  go_enter Try.func64, Try.ntmps64
  go_wp2_with fail
  go_ret
  exact ⟨rfl, rfl⟩
/-- Numbers that are put behind others, each once. -/
def noteL (L : List Int) : List Int → List Int
  | [] => L
  | y :: r => noteL (if y ∈ L then L else L ++ [y]) r
theorem noteL_succ (L l : List Int) (k : Nat) (hk : k < l.length) : noteL L (l.take (k + 1)) = (if l[k] ∈ noteL L (l.take k) then noteL L (l.take k) else noteL L (l.take k) ++ [l[k]]) := by
  induction l generalizing L k with
  | nil => simp at hk
  | cons y r ih =>
    cases k with
    | zero => simp [noteL]
    | succ k =>
      simp only [List.take_succ_cons, noteL, List.getElem_cons_succ]
      exact ih _ k (by simpa using hk)
theorem noteL_mem (L l : List Int) (x : Int) : x ∈ noteL L l ↔ x ∈ L ∨ x ∈ l := by
  induction l generalizing L with
  | nil => simp [noteL]
  | cons y r ih =>
    unfold noteL
    rw [ih]
    split
    · rename_i h
      constructor
      · rintro (h1 | h1)
        · exact .inl h1
        · exact .inr (List.mem_cons_of_mem _ h1)
      · rintro (h1 | h1)
        · exact .inl h1
        · rcases List.mem_cons.1 h1 with rfl | h1
          · exact .inl h
          · exact .inr h1
    · rw [List.mem_append, List.mem_singleton, List.mem_cons, or_assoc]
theorem noteL_nodup (L l : List Int) (h : L.Nodup) : (noteL L l).Nodup := by
  induction l generalizing L with
  | nil => exact h
  | cons y r ih =>
    unfold noteL
    apply ih
    split
    · exact h
    · rename_i h1
      rw [List.nodup_append]
      exact ⟨h, by simp, fun a ha b hb e => h1 (by rw [← List.mem_singleton.1 hb, ← e]; exact ha)⟩
theorem noteL_pre (L l : List Int) : L <+: noteL L l := by
  induction l generalizing L with
  | nil => exact List.prefix_refl _
  | cons y r ih =>
    unfold noteL
    refine List.IsPrefix.trans ?_ (ih _)
    split
    · exact List.prefix_refl _
    · exact List.prefix_append _ _
/-- Marks of what stands in a list. -/
def marksL (N : Nat) (L : List Int) : List Bool := (List.range N).map fun j => decide (((j : Nat) : Int) ∈ L)
theorem marksL_len (N : Nat) (L : List Int) : (marksL N L).length = N := by simp [marksL]
theorem marksL_at (N : Nat) (L : List Int) (j : Nat) (h : j < N) : (marksL N L)[j]? = some (decide ((j : Int) ∈ L)) := by simp [marksL, h]
theorem marksL_put (N : Nat) (L : List Int) (j : Nat) : (marksL N L).set j true = marksL N (L ++ [(j : Int)]) := by
  apply List.ext_getElem?
  intro k
  rw [List.getElem?_set]
  by_cases hk : k < N
  · rw [marksL_at _ _ _ hk, marksL_at _ _ _ hk, marksL_len]
    by_cases e : j = k
    · subst e; simp [hk]
    · rw [if_neg e]
      have : ((k : Int) = (j : Int)) = False := by simp; omega
      simp [this]
  · rw [List.getElem?_eq_none (by rw [marksL_len]; omega), List.getElem?_eq_none (by rw [marksL_len]; omega), marksL_len]
    split
    · split
      · omega
      · rfl
    · rfl
theorem nodup_leN (N : Nat) : ∀ L : List Nat, L.Nodup → (∀ x ∈ L, x < N) → L.length ≤ N := by
  induction N with
  | zero =>
    intro L _ h
    cases L with
    | nil => simp
    | cons a r => exact absurd (h a List.mem_cons_self) (by omega)
  | succ N ih =>
    intro L hn h
    by_cases hm : N ∈ L
    · have h1 := ih (L.erase N) (hn.erase N) fun x hx => by
        have h2 := (List.Nodup.mem_erase_iff hn).1 hx
        have h3 := h x h2.2
        have := h2.1
        omega
      rw [List.length_erase_of_mem hm] at h1
      omega
    · have h1 := ih L hn fun x hx => by
        have h3 := h x hx
        have : x ≠ N := fun e => hm (by rw [← e]; exact hx)
        omega
      omega
theorem nodup_le {L : List Int} {N : Nat} (h : L.Nodup) (hr : ∀ x ∈ L, 0 ≤ x ∧ x < N) : L.length ≤ N := by
  have h1 : (L.map Int.toNat).Nodup := by
    unfold List.Nodup at *
    rw [List.pairwise_map]
    refine List.Pairwise.imp_of_mem ?_ h
    intro a b ha hb hne e
    have := hr a ha; have := hr b hb
    exact hne (by omega)
  have h2 := nodup_leN N _ h1 (fun x hx => by
    obtain ⟨y, hy, rfl⟩ := List.mem_map.1 hx
    have := hr y hy
    omega)
  simpa using h2
end Go.Proofs.Ytfmcigodfihlcaa
