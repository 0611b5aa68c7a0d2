/-
  A region that draws its order, whose calls and changes of memory wait for one another, walked once in an order of one's own: what is read may be read first, as long as a condition on the world holds; behind the last operation of all (a store into a cell that was read, say) it need not hold.
-/
import Derived.StillTail
import Derived.OrdersHeld
import Derived.Tactics
import Derived.Lib.Hide
namespace Go.Proofs.Ytimgnbacgdmiiaa
open Go Go.RowKit
set_option linter.unusedVariables false

section
variable {P : Program} {ops : Array Oper} {Q : Exit → Act → World → Prop} {S : World → Prop} {n : Nat}

/-- Whatever order is picked: S holds behind every operation but number n. -/
def wpAnyT (P : Program) (ops : Array Oper) (Q : Exit → Act → World → Prop) (S : World → Prop) (n : Nat) : Nat → Array Bool → Act → World → Prop
  | 0, listed, a, w => Region.ready .any ops listed = [] ∧ Q .normal a w
  | f + 1, listed, a, w => (Region.ready .any ops listed = [] → Q .normal a w) ∧
      ∀ i ∈ Region.ready .any ops listed, wpOp P ops Q i (fun a' w' => (i < n → S w') ∧ wpAnyT P ops Q S n f (listed.setIfInBounds i true) a' w') a w
theorem wpAny_ofT : ∀ (f : Nat) (listed : Array Bool) (a : Act) (w : World), wpAnyT P ops Q S n f listed a w → wpAny P .any ops Q f listed a w
  | 0, _, _, _, h => h
  | f + 1, _, _, _, h => ⟨h.1, fun i hi => wpOp_mono (fun a' w' k => wpAny_ofT f _ a' w' k.2) (h.2 i hi)⟩
theorem wpAnyT_first {i : Nat} {oi : Oper} {v : Value} (hi : ops[i]? = some oi) (hsel : ∀ (j : Nat) (o : Oper) cs b, ops[j]? = some o → o.op ≠ .select cs b)
    (hQ : ∀ c a w, Q (.panic c) (a.put oi.dst v) w → Q (.panic c) a w) (hs : Region.sinkB .any ops n = true) (hc : Region.chainB .any ops n = true) (hn : n < ops.size) (hin : i < n) :
    ∀ (f : Nat) (listed : Array Bool) (a : Act) (w : World), HeadInv .any ops n listed →
      (∀ j oj, ops[j]? = some oj → j ≠ i → listed.getD j true = false → (∀ e ∈ oj.after, Region.binds .any e = true → e.on ≠ i) → oi.apart ops oj = true) →
      i ∈ Region.ready .any ops listed → YieldsIf P ops S oi v a → S w →
      wpAnyT P ops Q S n f (listed.setIfInBounds i true) (a.put oi.dst v) w → wpAnyT P ops Q S n (f + 1) listed a w := by
  intro f
  induction f with
  | zero =>
    intro listed a w inv _ hr hy hS H
    refine ⟨fun h => (by rw [h] at hr; cases hr), fun j hj => ?_⟩
    by_cases hji : j = i
    · subst hji; exact hy.wpOp hi hS ⟨fun _ => hS, H⟩
    · have := ready_mono hj hji
      rw [H.1] at this
      cases this
  | succ f ih =>
    intro listed a w inv hfree hr hy hS H
    have hun := (mem_ready.1 hr).1
    refine ⟨fun h => (by rw [h] at hr; cases hr), fun j hj => ?_⟩
    by_cases hji : j = i
    · subst hji; exact hy.wpOp hi hS ⟨fun _ => hS, H⟩
    · have hjn : j < n := by
        rcases Nat.lt_or_ge j n with h | h
        · exact h
        · exact absurd hj (tail_waits hs hc hn inv _ i rfl hin hun j h)
      have h1 := H.2 j (ready_mono hj hji)
      obtain ⟨hjun, oj, hoj, hall⟩ := mem_ready.1 hj
      have hnot : ∀ e ∈ oj.after, Region.binds .any e = true → e.on ≠ i := fun e he hb heq => by
        have h2 := hall e he hb
        rw [heq, getD_both hun] at h2
        cases h2
      have h2 := wpOp_putIf hoj (hfree j oj hoj hji hjun hnot) (fun cs b => hsel i oi cs b hi) (fun cs b => hsel j oj cs b hoj) hQ hy h1
      have hfree' : ∀ k ok, ops[k]? = some ok → k ≠ i → (listed.setIfInBounds j true).getD k true = false →
          (∀ e ∈ ok.after, Region.binds .any e = true → e.on ≠ i) → oi.apart ops ok = true := fun k ok hk hki hu hno => by
        refine hfree k ok hk hki ?_ hno
        by_cases hjk : j = k
        · subst hjk; exact hjun
        · rw [getD_set_ne true hjk] at hu; exact hu
      refine wpOp_mono (fun a' w' h3 => ⟨h3.2.1, ih (listed.setIfInBounds j true) a' w' (inv.set hj hjn) hfree' (ready_mono hr (Ne.symm hji)) h3.1 (h3.2.1 hjn) ?_⟩) h2
      rw [Array.setIfInBounds_comm _ _ hji]
      exact h3.2.2

/-- An order: number and 'is it only read?'. -/
def ordB (ops : Array Oper) (n : Nat) : List (Nat × Bool) → Array Bool → Bool
  | [], listed => (Region.ready .any ops listed).isEmpty
  | (i, true) :: r, listed => decide (i < n) && (Region.ready .any ops listed).contains i && Region.free .any ops listed i && (ops[i]?).isSome && ordB ops n r (listed.setIfInBounds i true)
  | (i, false) :: r, listed => decide (Region.ready .any ops listed = [i]) && (decide (i < n) && !r.isEmpty || !decide (i < n) && r.isEmpty) && (ops[i]?).isSome && ordB ops n r (listed.setIfInBounds i true)
def ordL (ops : Array Oper) : List (Nat × Bool) → List (Oper × Bool)
  | [] => []
  | (i, b) :: r => match ops[i]? with
    | some o => (o, b) :: ordL ops r
    | none => ordL ops r
/-- The walk in that order. -/
def ordW (P : Program) (ops : Array Oper) (Q : Exit → Act → World → Prop) (S : World → Prop) : List (Oper × Bool) → Act → World → Prop
  | [], a, w => Q .normal a w
  | (o, true) :: r, a, w => ∃ v, YieldsIf P ops S o v a ∧ (∀ c a w, Q (.panic c) (a.put o.dst v) w → Q (.panic c) a w) ∧ ordW P ops Q S r (a.put o.dst v) w
  | (o, false) :: r, a, w => (Region.wanted o (yielded ops a.tmps) = true ∧ o.wp P a w (fun a' w' => (r ≠ [] → S w') ∧ ordW P ops Q S r a' w') Q) ∨ (Region.wanted o (yielded ops a.tmps) = false ∧ (r ≠ [] → S w) ∧ ordW P ops Q S r (a.put o.dst undef) w)
theorem ordW_read {o : Oper} {r : List (Oper × Bool)} {a : Act} {w : World} {v : Value} (hw : Region.wanted o (yielded ops a.tmps) = true) (hv : ∀ w', S w' → (execOp a.eval o).run P w' = .ok (.value v) w') (hQ : ∀ c a w, Q (.panic c) (a.put o.dst v) w → Q (.panic c) a w)
    (k : ordW P ops Q S r (a.put o.dst v) w) : ordW P ops Q S ((o, true) :: r) a w := ⟨v, .inl ⟨hw, hv⟩, hQ, k⟩
theorem ordW_skip {o : Oper} {r : List (Oper × Bool)} {a : Act} {w : World} (hw : Region.wanted o (yielded ops a.tmps) = false) (hQ : ∀ c a w, Q (.panic c) (a.put o.dst undef) w → Q (.panic c) a w)
    (k : ordW P ops Q S r (a.put o.dst undef) w) : ordW P ops Q S ((o, true) :: r) a w := ⟨undef, .inr ⟨hw, rfl⟩, hQ, k⟩
theorem ordW_do {o : Oper} {r : List (Oper × Bool)} {a : Act} {w : World} (hw : Region.wanted o (yielded ops a.tmps) = true) (h : ∀ K' : Act → World → Prop, Hid (∀ a' w', (r ≠ [] → S w') → ordW P ops Q S r a' w' → K' a' w') → o.wp P a w K' Q) : ordW P ops Q S ((o, false) :: r) a w :=
  .inl ⟨hw, h _ (Lib.hid fun _ _ h1 h2 => ⟨h1, h2⟩)⟩
theorem ordW_pass {o : Oper} {r : List (Oper × Bool)} {a : Act} {w : World} (hw : Region.wanted o (yielded ops a.tmps) = false) (hS : r ≠ [] → S w) (k : ordW P ops Q S r (a.put o.dst undef) w) : ordW P ops Q S ((o, false) :: r) a w := .inr ⟨hw, hS, k⟩
theorem ordW_nil {a : Act} {w : World} (h : Q .normal a w) : ordW P ops Q S [] a w := h
theorem ord_T (hsel : Region.noSelect ops = true) (hs : Region.sinkB .any ops n = true) (hc : Region.chainB .any ops n = true) (hn : n < ops.size) : ∀ (ord : List (Nat × Bool)) (listed : Array Bool) (a : Act) (w : World),
    ordB ops n ord listed = true → (ord ≠ [] → HeadInv .any ops n listed ∧ S w) → ordW P ops Q S (ordL ops ord) a w → wpAnyT P ops Q S n ord.length listed a w := by
  intro ord
  induction ord with
  | nil => intro listed a w hB _ h; exact ⟨by simpa [ordB] using hB, h⟩
  | cons p r ih =>
    obtain ⟨i, b⟩ := p
    intro listed a w hB hinv h
    obtain ⟨inv, hS⟩ := hinv (by simp)
    cases ho : ops[i]? with
    | none => cases b <;> simp [ordB, ho] at hB
    | some o =>
      simp only [ordL, ho] at h
      cases b with
      | true =>
        simp only [ordB, ho, Bool.and_eq_true, decide_eq_true_eq] at hB
        obtain ⟨⟨⟨⟨h1, h2⟩, h3⟩, _⟩, h5⟩ := hB
        obtain ⟨v, hy, hQ, hk⟩ := h
        have h2' : i ∈ Region.ready .any ops listed := by simpa using h2
        exact wpAnyT_first ho (Region.noSelect_spec hsel) hQ hs hc hn h1 r.length listed a w inv (Region.free_spec ho h3) h2' hy hS (ih _ _ _ h5 (fun _ => ⟨inv.set h2' h1, hS⟩) hk)
      | false =>
        simp only [ordB, ho, Bool.and_eq_true, Bool.or_eq_true, decide_eq_true_eq, Bool.not_eq_true', decide_eq_false_iff_not, List.isEmpty_iff, List.isEmpty_eq_false_iff] at hB
        obtain ⟨⟨⟨h1, h2⟩, _⟩, h5⟩ := hB
        refine ⟨(fun h0 => by rw [h1] at h0; cases h0), fun j hj => ?_⟩
        rw [h1] at hj
        obtain rfl : j = i := by simpa using hj
        have hri : j ∈ Region.ready .any ops listed := by rw [h1]; simp
        have hne : ∀ r : List (Nat × Bool), ordB ops n r (listed.setIfInBounds j true) = true → r ≠ [] → ordL ops r ≠ [] := fun r hb hr => by
          cases r with
          | nil => exact absurd rfl hr
          | cons q r =>
            obtain ⟨x, y⟩ := q
            cases hx : ops[x]? with
            | none => cases y <;> simp [ordB, hx] at hb
            | some z => simp [ordL, hx]
        have hr2 : j < n → r ≠ [] := fun hjn => by
          rcases h2 with h2 | h2
          · exact h2.2
          · exact absurd hjn h2.1
        have hgo : ∀ a' w', (ordL ops r ≠ [] → S w') → ordW P ops Q S (ordL ops r) a' w' → (j < n → S w') ∧ wpAnyT P ops Q S n r.length (listed.setIfInBounds j true) a' w' := fun a' w' hS' hk =>
          ⟨fun hjn => hS' (hne _ h5 (hr2 hjn)), ih _ _ _ h5 (fun hr => by
            rcases h2 with h2 | h2
            · exact ⟨inv.set hri h2.1, hS' (hne _ h5 hr)⟩
            · exact absurd h2.2 hr) hk⟩
        unfold wpOp
        simp only [ho]
        rcases h with ⟨hw, h⟩ | ⟨hw, h1', h2'⟩
        · rw [if_pos hw]
          exact .inl (Oper.wp_mono (fun a' w' hk => hgo a' w' hk.1 hk.2) h)
        · rw [if_neg (by rw [hw]; decide)]
          exact hgo _ _ h1' h2'
/-- All that is asked of an order, as one reckoning. -/
def ordAll (ops : Array Oper) (n : Nat) (ord : List (Nat × Bool)) : Bool :=
  Region.noSelect ops && decide (n < ops.size) && Region.sinkB .any ops n && Region.chainB .any ops n && decide (ord.length = ops.size) && ordB ops n ord (Array.replicate ops.size false)
theorem wp_region_ord {id : Nat} {a : Act} {w : World} (n : Nat) (ord : List (Nat × Bool)) (S : World → Prop) (hm : P.follows .mixedOrders = true) (hB : ordAll ops n ord = true) (hS : S w.drew)
    (h : ordW P ops Q S (ordL ops ord) a w.drew) : (Code.region id ops true).wp P Q a w := by
  simp only [ordAll, Bool.and_eq_true, decide_eq_true_eq] at hB
  obtain ⟨⟨⟨⟨⟨hsel, hn⟩, hs⟩, hc⟩, hl⟩, hB⟩ := hB
  refine wp_region_any hm ?_
  have inv0 : HeadInv .any ops n (Array.replicate ops.size false) :=
    ⟨by simp, fun j oj _ hl => (by rw [getD_replicate_false] at hl; cases hl), fun t _ ht => getD_in (by simpa using ht) (getD_replicate_false _ _)⟩
  have H := wpAny_ofT _ _ _ _ (ord_T (P := P) (Q := Q) (S := S) hsel hs hc hn ord _ a w.drew hB (fun _ => ⟨inv0, hS⟩) h)
  rw [hl] at H
  exact H
end
end Go.Proofs.Ytimgnbacgdmiiaa
