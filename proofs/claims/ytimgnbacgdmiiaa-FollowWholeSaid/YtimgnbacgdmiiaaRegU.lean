/-
  The same, with several operations at the end behind which the condition need not hold.
-/
import Derived.StillTail
import Derived.OrdersHeld
import Derived.Tactics
import Derived.Lib.Hide
import Derived.Test.YtimgnbacgdmiiaaRegT
namespace Go.Proofs.Ytimgnbacgdmiiaa
open Go Go.RowKit
set_option linter.unusedVariables false

section
variable {P : Program} {ops : Array Oper} {Q : Exit → Act → World → Prop} {S : World → Prop} {n : Nat}

/-- An order: number, and 0: it is only read; 1: it is done, and S holds behind it; 2: it is done, S or not, and so is all behind it. -/
def ordB2 (ops : Array Oper) (n : Nat) : List (Nat × Nat) → Array Bool → Bool
  | [], listed => (Region.ready .any ops listed).isEmpty
  | (i, 0) :: r, listed => decide (i < n) && (Region.ready .any ops listed).contains i && Region.free .any ops listed i && (ops[i]?).isSome && ordB2 ops n r (listed.setIfInBounds i true)
  | (i, 1) :: r, listed => decide (Region.ready .any ops listed = [i]) && decide (i < n) && (ops[i]?).isSome && ordB2 ops n r (listed.setIfInBounds i true)
  | (i, _ + 2) :: r, listed => decide (Region.ready .any ops listed = [i]) && decide (n ≤ i) && r.all (fun p => decide (2 ≤ p.2)) && (ops[i]?).isSome && ordB2 ops n r (listed.setIfInBounds i true)
def ordL2 (ops : Array Oper) : List (Nat × Nat) → List (Oper × Nat)
  | [] => []
  | (i, b) :: r => match ops[i]? with
    | some o => (o, b) :: ordL2 ops r
    | none => ordL2 ops r
/-- The walk in that order. -/
def ordV (P : Program) (ops : Array Oper) (Q : Exit → Act → World → Prop) (S : World → Prop) : List (Oper × Nat) → Act → World → Prop
  | [], a, w => Q .normal a w
  | (o, 0) :: r, a, w => ∃ v, YieldsIf P ops S o v a ∧ (∀ c a w, Q (.panic c) (a.put o.dst v) w → Q (.panic c) a w) ∧ ordV P ops Q S r (a.put o.dst v) w
  | (o, 1) :: r, a, w => Region.wanted o (yielded ops a.tmps) = true ∧ o.wp P a w (fun a' w' => S w' ∧ ordV P ops Q S r a' w') Q
  | (o, _ + 2) :: r, a, w => Region.wanted o (yielded ops a.tmps) = true ∧ o.wp P a w (fun a' w' => ordV P ops Q S r a' w') Q
theorem ordV_read {o : Oper} {r : List (Oper × Nat)} {a : Act} {w : World} {v : Value} (hw : Region.wanted o (yielded ops a.tmps) = true) (hv : ∀ w', S w' → (execOp a.eval o).run P w' = .ok (.value v) w') (hQ : ∀ c a w, Q (.panic c) (a.put o.dst v) w → Q (.panic c) a w)
    (k : ordV P ops Q S r (a.put o.dst v) w) : ordV P ops Q S ((o, 0) :: r) a w := ⟨v, .inl ⟨hw, hv⟩, hQ, k⟩
theorem ordV_do {o : Oper} {r : List (Oper × Nat)} {a : Act} {w : World} (hw : Region.wanted o (yielded ops a.tmps) = true) (h : ∀ K' : Act → World → Prop, Hid (∀ a' w', S w' → ordV P ops Q S r a' w' → K' a' w') → o.wp P a w K' Q) : ordV P ops Q S ((o, 1) :: r) a w :=
  ⟨hw, h _ (Lib.hid fun _ _ h1 h2 => ⟨h1, h2⟩)⟩
theorem ordV_end {o : Oper} {r : List (Oper × Nat)} {a : Act} {w : World} (hw : Region.wanted o (yielded ops a.tmps) = true) (h : ∀ K' : Act → World → Prop, Hid (∀ a' w', ordV P ops Q S r a' w' → K' a' w') → o.wp P a w K' Q) : ordV P ops Q S ((o, 2) :: r) a w :=
  ⟨hw, h _ (Lib.hid fun _ _ h2 => h2)⟩
theorem ordV_nil {a : Act} {w : World} (h : Q .normal a w) : ordV P ops Q S [] a w := h
theorem ord_V (hsel : Region.noSelect ops = true) (hs : Region.sinkB .any ops n = true) (hc : Region.chainB .any ops n = true) (hn : n < ops.size) : ∀ (ord : List (Nat × Nat)) (listed : Array Bool) (a : Act) (w : World),
    ordB2 ops n ord listed = true → (ord.all (fun p => decide (2 ≤ p.2)) = false → HeadInv .any ops n listed ∧ S w) → ordV P ops Q S (ordL2 ops ord) a w → wpAnyT P ops Q S n ord.length listed a w := by
  intro ord
  induction ord with
  | nil => intro listed a w hB _ h; exact ⟨by simpa [ordB2] using hB, h⟩
  | cons p r ih =>
    obtain ⟨i, b⟩ := p
    intro listed a w hB hinv h
    have one : ∀ {o : Oper}, ops[i]? = some o → Region.ready .any ops listed = [i] → (∀ a' w', ordV P ops Q S (ordL2 ops r) a' w' → (i < n → S w') → (i < n → S w') ∧ wpAnyT P ops Q S n r.length (listed.setIfInBounds i true) a' w') → Region.wanted o (yielded ops a.tmps) = true → o.wp P a w (fun a' w' => (i < n → S w') ∧ ordV P ops Q S (ordL2 ops r) a' w') Q → wpAnyT P ops Q S n (r.length + 1) listed a w := by
      intro o ho h1 hgo hw hwp
      refine ⟨(fun h0 => by rw [h1] at h0; cases h0), fun j hj => ?_⟩
      rw [h1] at hj
      obtain rfl : j = i := by simpa using hj
      unfold wpOp
      simp only [ho]
      rw [if_pos hw]
      exact .inl (Oper.wp_mono (fun a' w' hk => hgo a' w' hk.2 hk.1) hwp)
    cases ho : ops[i]? with
    | none =>
      match b with
      | 0 => simp [ordB2, ho] at hB
      | 1 => simp [ordB2, ho] at hB
      | _ + 2 => simp [ordB2, ho] at hB
    | some o =>
      simp only [ordL2, ho] at h
      match b with
      | 0 =>
        obtain ⟨inv, hS⟩ := hinv (by simp)
        simp only [ordB2, ho, Bool.and_eq_true, decide_eq_true_eq] at hB
        obtain ⟨⟨⟨⟨h1, h2⟩, h3⟩, _⟩, h5⟩ := hB
        obtain ⟨v, hy, hQ, hk⟩ := h
        have h2' : i ∈ Region.ready .any ops listed := by simpa using h2
        exact wpAnyT_first ho (Region.noSelect_spec hsel) hQ hs hc hn h1 r.length listed a w inv (Region.free_spec ho h3) h2' hy hS (ih _ _ _ h5 (fun _ => ⟨inv.set h2' h1, hS⟩) hk)
      | 1 =>
        obtain ⟨inv, hS⟩ := hinv (by simp)
        simp only [ordB2, ho, Bool.and_eq_true, decide_eq_true_eq] at hB
        obtain ⟨⟨⟨h1, h2⟩, _⟩, h5⟩ := hB
        have hri : i ∈ Region.ready .any ops listed := by rw [h1]; simp
        refine one ho h1 (fun a' w' hk hS' => ⟨hS', ih _ _ _ h5 (fun _ => ⟨inv.set hri h2, hS' h2⟩) hk⟩) h.1 (Oper.wp_mono (fun a' w' hk => ⟨fun _ => hk.1, hk.2⟩) h.2)
      | m + 2 =>
        simp only [ordB2, ho, Bool.and_eq_true, decide_eq_true_eq] at hB
        obtain ⟨⟨⟨⟨h1, h2⟩, h3⟩, _⟩, h5⟩ := hB
        exact one ho h1 (fun a' w' hk _ => ⟨fun hlt => absurd hlt (by omega), ih _ _ _ h5 (fun hf => by rw [h3] at hf; cases hf) hk⟩) h.1 (Oper.wp_mono (fun a' w' hk => ⟨fun hlt => absurd hlt (by omega), hk⟩) h.2)
/-- All that is asked of an order, as one reckoning. -/
def ordAll2 (ops : Array Oper) (n : Nat) (ord : List (Nat × Nat)) : Bool :=
  Region.noSelect ops && decide (n < ops.size) && Region.sinkB .any ops n && Region.chainB .any ops n && decide (ord.length = ops.size) && ordB2 ops n ord (Array.replicate ops.size false)
theorem wp_region_ord2 {id : Nat} {a : Act} {w : World} (n : Nat) (ord : List (Nat × Nat)) (S : World → Prop) (hm : P.follows .mixedOrders = true) (hB : ordAll2 ops n ord = true) (hS : S w.drew)
    (h : ordV P ops Q S (ordL2 ops ord) a w.drew) : (Code.region id ops true).wp P Q a w := by
  simp only [ordAll2, Bool.and_eq_true, decide_eq_true_eq] at hB
  obtain ⟨⟨⟨⟨⟨hsel, hn⟩, hs⟩, hc⟩, hl⟩, hB⟩ := hB
  refine wp_region_any hm ?_
  have inv0 : HeadInv .any ops n (Array.replicate ops.size false) :=
    ⟨by simp, fun j oj _ hl => (by rw [getD_replicate_false] at hl; cases hl), fun t _ ht => getD_in (by simpa using ht) (getD_replicate_false _ _)⟩
  have H := wpAny_ofT _ _ _ _ (ord_V (P := P) (Q := Q) (S := S) hsel hs hc hn ord _ a w.drew hB (fun _ => ⟨inv0, hS⟩) h)
  rw [hl] at H
  exact H
end
end Go.Proofs.Ytimgnbacgdmiiaa
