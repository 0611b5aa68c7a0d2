/-
  The statement that a reader of any tokens answers what the document says: its walk.
-/
import Derived.Test.YteijndfacjgfbaaDoorLexD
import Derived.Deep.SlicePairs
import Derived.Deep.RegionHeld3
namespace Go.Proofs.YteijndfacjgfbaaDoor
open Go.RowKit LX
set_option linter.unusedVariables false

theorem toksC_one (l : List Tok) : ∀ u ∈ toksC l, u.oneCell' = true := by
  intro u hu
  obtain ⟨t, _, h⟩ := List.mem_flatMap.1 hu
  exact tokC_one t u h
def AmongPost (w : World) (e : Ending) (w' : World) : Prop := ∃ q : Nat, q < 4 ∧ e = .returned (.int .i64 q) ∧ w = w'
set_option maxRecDepth 100000 in
theorem among4_any (x : Int) (w : World) (hx : -9223372036854775808 ≤ x ∧ x ≤ 9223372036854775807) :
    Calls Tryd.prog 16 #[.int .i64 x, .int .i64 4] w (AmongPost w) := by
  go_enter Tryd.func16, Tryd.ntmps16
  have hy : 0 ≤ IntKind.u64.wrap x := by
    unfold IntKind.wrap
    simp [IntKind.signed, IntKind.bits]
    omega
  obtain ⟨q, hq, hq4⟩ : ∃ q : Nat, wrap64 ((IntKind.u64.wrap x).tmod 4) = (q : Int) ∧ q < 4 := by
    rw [Int.tmod_eq_emod_of_nonneg hy]
    have h1 := Int.emod_nonneg (IntKind.u64.wrap x) (show (4 : Int) ≠ 0 by decide)
    have h2 := Int.emod_lt_of_pos (IntKind.u64.wrap x) (show (0 : Int) < 4 by decide)
    refine ⟨(IntKind.u64.wrap x % 4).toNat, ?_, by omega⟩
    rw [IntWalk.wrap64_in _ ⟨by omega, by omega⟩]; omega
  have Hq := Lib.hid hq
  clear hq hy
  go_wp2_with fail
  go_ret
  exact ⟨q, hq4, by rw [← Hq.out]; rfl, rfl⟩
/-- Steps of a reader as values. -/
def actsC (l : List (Int × Bool)) : List Value := l.flatMap fun a => [.int .i64 a.1, .bool a.2]
theorem actsC_length (l : List (Int × Bool)) : (actsC l).length = l.length * 2 := by
  induction l with
  | nil => rfl
  | cons a r ih =>
    have : actsC (a :: r) = [.int .i64 a.1, .bool a.2] ++ actsC r := rfl
    rw [this, List.length_append, ih]; simp; omega
theorem actsC_at (l : List (Int × Bool)) (k : Nat) (hk : k < l.length) : (actsC l)[k * 2]? = some (.int .i64 l[k].1) ∧ (actsC l)[k * 2 + 1]? = some (.bool l[k].2) := by
  induction l generalizing k with
  | nil => simp at hk
  | cons a r ih =>
    have e : actsC (a :: r) = [.int .i64 a.1, .bool a.2] ++ actsC r := rfl
    rw [e]
    cases k with
    | zero => exact ⟨rfl, rfl⟩
    | succ k =>
      have := ih k (by simpa using hk)
      rw [List.getElem?_append_right (by simp; omega), List.getElem?_append_right (by simp; omega)]
      simp only [List.length_cons, List.length_nil, List.getElem_cons_succ]
      rw [show (k + 1) * 2 - 2 = k * 2 from by omega, show (k + 1) * 2 + 1 - 2 = k * 2 + 1 from by omega]
      exact this
theorem allS_len (s : ByteArray) : (allS s).1.length ≤ s.size := by
  obtain ⟨r, hr⟩ : ∃ r, r = allS s := ⟨_, rfl⟩
  obtain ⟨l, n, e⟩ := r
  rw [← hr]
  by_cases he : e = 0
  · subst he
    have := rises_len (allS_rises s hr.symm); simp; omega
  · have := (allS_err s hr.symm he).1; subst this; simp
theorem fair_small (t : Tok) (h : LX.Fair kwB numB decS t) : t.s.size ≤ 20 := by
  rcases h with ⟨h0, h1, h2, h3, h4, h5⟩ | ⟨h0, h0', h1, h2, h3, h4⟩ | ⟨h0, h1, h2, h3, h4⟩ | ⟨h0, h0', h1, h2⟩
  · exact h4
  · exact h4
  · rw [h1]; exact Nat.zero_le _
  · omega
theorem allS_small (s : ByteArray) : ∀ k (h : k < (allS s).1.length), (allS s).1[k].s.size ≤ 20 := by
  obtain ⟨r, hr⟩ : ∃ r, r = allS s := ⟨_, rfl⟩
  obtain ⟨l, n, e⟩ := r
  rw [← hr]
  intro k h
  by_cases he : e = 0
  · subst he
    exact fair_small _ (rises_get (allS_rises s hr.symm) k h).2.2
  · have := (allS_err s hr.symm he).1; subst this; simp at h
/-- What lex.New makes. -/
def NewPost (w : World) (n : Nat) (xs : List Value) (en : Int) (e : Ending) (w' : World) : Prop :=
  ∃ g v, e = .returned (.pointer (some ⟨g, 0, none⟩)) ∧ RdH w' g 70 v 0 en ∧ Row w' g 4 v n xs ∧ Below w.heap.size w w' ∧ w.heap.size ≤ g
set_option maxRecDepth 100000 in
theorem lexNew_any (v : Value) (l : List Tok) (en : Int) (w : World) (B : Nat) (hr : Row w B 4 v l.length (toksC l)) (hl : l.length ≤ 1000000) :
    Calls Tryd.prog 14 #[v, .int .i64 en] w (NewPost w l.length (toksC l) en) := by
  obtain ⟨i0, hinfo, hz0, hz1, hz2⟩ := info_parts info_tok
  have Hr := Lib.hid hr
  clear hr
  go_enter Tryd.func14, Tryd.ntmps14
  go_wp2_with (at_builtin; refine wpList_append_row rfl (.const (.slice none 0 0)) (.tmp 5) 23 rfl w.heap.size 37 i0 (.agg #[.int .i64 0, .string ByteArray.empty, .int .i64 0, .int .i64 0]) 4 40 Tryd.underlying23 hinfo hz0 hz1 hz2 rfl (by decide) _ 0 [] rfl (World.ownsRow_nil _ _ _ _) B _ l.length (toksC l) rfl Hr.out (toksC_one l) (by unfold maxLen; omega) (by omega) (Nat.le_refl _) ?_; intro v1 w1 hown1 hgrow1; simp only [Nat.zero_add, List.nil_append] at hown1; obtain ⟨ao, c, rfl, hc1, hc2⟩ := (Row.of_owns hown1).val)
  go_ret
  have hb1 : Below w.heap.size w w1 := (Below.refl _ w).grown hgrow1 (Nat.le_refl _) (fun k hk => by cases hk)
  refine ⟨w1.heap.size, _, rfl, heap_alloc_new w1 _, ?_, hb1.alloc hb1.size _, hb1.size⟩
  exact (Row.of_owns hown1).below ((Below.refl _ w1).alloc (Nat.le_refl _) _)
/-- What both readers and the steps' slice are in a world. -/
structure RdIn (w : World) (g1 g2 : Nat) (v1 v2 va : Value) (l : List Tok) (acts : List (Int × Bool)) (k : Nat) (en : Int) : Prop where
  r1 : RdH w g1 70 v1 k en
  r2 : RdH w g2 35 v2 k en
  t1 : Row w g1 4 v1 l.length (toksC l)
  t2 : Row w g1 4 v2 l.length (toksC l)
  a : Row w g1 2 va acts.length (actsC acts)
  lt : g1 < g2
theorem RdIn.below {w w' g1 g2 v1 v2 va l acts k en} (h : RdIn w g1 g2 v1 v2 va l acts k en) (hb : Below w.heap.size w w') : RdIn w' g1 g2 v1 v2 va l acts k en :=
  ⟨h.r1.below hb, h.r2.below hb, h.t1.below (hb.mono (Nat.le_of_lt h.r1.lt)), h.t2.below (hb.mono (Nat.le_of_lt h.r1.lt)), h.a.below (hb.mono (Nat.le_of_lt h.r1.lt)), h.lt⟩
theorem RdH.belowB {w w' b T v k en B} (h : RdH w b T v k en) (hb : Below B w w') (hB : b < B) : RdH w' b T v k en := by
  unfold RdH; rw [hb.block b hB]; exact h
theorem RdIn.belowB {w w' g1 g2 v1 v2 va l acts k en B} (h : RdIn w g1 g2 v1 v2 va l acts k en) (hb : Below B w w') (hB : g2 < B) : RdIn w' g1 g2 v1 v2 va l acts k en :=
  have hl := h.lt
  ⟨h.r1.belowB hb (by omega), h.r2.belowB hb hB, h.t1.below (hb.mono (by omega)), h.t2.below (hb.mono (by omega)), h.a.below (hb.mono (by omega)), h.lt⟩
theorem TkH.set1 {w b T x0 x1 x2 x3} (h : TkH w b T x0 x1 x2 x3) (u : Value) : TkH (w.setCell ⟨b, 1, none⟩ u) b T x0 u x2 x3 := by
  unfold TkH at h ⊢
  simp only [World.setCell, Array.getElem?_modify, h, Option.map_some, if_true]; rfl
theorem below_grown {w w' : World} {g B : Nat} (hg : w.grownBy w' (some g)) (h1 : B ≤ g) (h2 : B ≤ w.heap.size) : Below B w w' :=
  (Below.refl B w).grown hg h2 (fun k hk => by cases hk; exact h1)
theorem RdIn.htob {w w1 w2 g1 g2 v1 v2 va l acts k en} {k' : Nat} (h : RdIn w g1 g2 v1 v2 va l acts k en) (hg2 : w.grownBy w1 (some g2)) (hr2 : RdH w1 g2 35 v2 k' en) (hg1 : w1.grownBy w2 (some g1)) (hr1 : RdH w2 g1 70 v1 k' en) : RdIn w2 g1 g2 v1 v2 va l acts k' en := by
  have hlt := h.r1.lt
  have b1 := below_grown (B := g1) hg2 (Nat.le_of_lt h.lt) (Nat.le_of_lt hlt)
  have b2 := below_grown (B := g1) hg1 (Nat.le_refl _) (Nat.le_trans (Nat.le_of_lt hlt) hg2.size)
  exact ⟨hr1, hr2.other hg1 (by have := h.lt; omega), (h.t1.below b1).below b2, (h.t2.below b1).below b2, (h.a.below b1).below b2, h.lt⟩
theorem RdIn.both {w w1 w2 g1 g2 v1 v2 va l acts k en} {k' : Nat} (h : RdIn w g1 g2 v1 v2 va l acts k en) (hg1 : w.grownBy w1 (some g1)) (hr1 : RdH w1 g1 70 v1 k' en) (hg2 : w1.grownBy w2 (some g2)) (hr2 : RdH w2 g2 35 v2 k' en) : RdIn w2 g1 g2 v1 v2 va l acts k' en := by
  have hlt := h.r1.lt
  have b1 := below_grown (B := g1) hg1 (Nat.le_refl _) (Nat.le_of_lt hlt)
  have b2 := below_grown (B := g1) hg2 (Nat.le_of_lt h.lt) (Nat.le_trans (Nat.le_of_lt hlt) hg1.size)
  exact ⟨hr1.other hg2 (by have := h.lt; omega), hr2, (h.t1.below b1).below b2, (h.t2.below b1).below b2, (h.a.below b1).below b2, h.lt⟩

/-- What both readers answer at a place, whichever token stands there. -/
structure Answers (l : List Tok) (k : Nat) (en : Int) (tk : Int) (ts : ByteArray) (tn tp : Int) (k' : Nat) : Prop where
  le : k' ≤ l.length
  sz : ts.size ≤ 20
  p1 : ∀ w g1 g2 v1 v2 va acts, RdIn w g1 g2 v1 v2 va l acts k en → Calls Tryd.prog 17 #[.pointer (some ⟨g1, 0, none⟩)] w fun e w' => e = .returned (.agg #[.int .i64 tk, .string ts, .int .i64 tn, .int .i64 tp]) ∧ Below w.heap.size w w'
  p2 : ∀ w g1 g2 v1 v2 va acts, RdIn w g1 g2 v1 v2 va l acts k en → Calls Tryd.prog 15 #[.pointer (some ⟨g2, 0, none⟩)] w fun e w' => e = .returned (.agg #[.int .i64 tk, .string ts, .int .i64 tn, .int .i64 tp]) ∧ Below w.heap.size w w'
  n1 : ∀ w b v B, RdH w b 70 v k en → Row w B 4 v l.length (toksC l) → B ≤ w.heap.size → Calls Tryd.prog 18 #[.pointer (some ⟨b, 0, none⟩)] w fun e w' => e = .returned (.agg #[.int .i64 tk, .string ts, .int .i64 tn, .int .i64 tp]) ∧ w.grownBy w' (some b) ∧ RdH w' b 70 v k' en
  n2 : ∀ w b v B, RdH w b 35 v k en → Row w B 4 v l.length (toksC l) → B ≤ w.heap.size → Calls Tryd.prog 19 #[.pointer (some ⟨b, 0, none⟩)] w fun e w' => e = .returned (.agg #[.int .i64 tk, .string ts, .int .i64 tn, .int .i64 tp]) ∧ w.grownBy w' (some b) ∧ RdH w' b 35 v k' en
  h1 : ∀ w b v B, RdH w b 70 v k en → Row w B 4 v l.length (toksC l) → B ≤ w.heap.size → Calls Tryd.prog 20 #[.pointer (some ⟨b, 0, none⟩), .int .i64 tk, .string ts] w fun e w' => e = .returned (.bool (decide (k < l.length))) ∧ w.grownBy w' (some b) ∧ RdH w' b 70 v k' en
  h2 : ∀ w b v B, RdH w b 35 v k en → Row w B 4 v l.length (toksC l) → B ≤ w.heap.size → Calls Tryd.prog 21 #[.pointer (some ⟨b, 0, none⟩), .int .i64 tk, .string ts] w fun e w' => e = .returned (.bool (decide (k < l.length))) ∧ w.grownBy w' (some b) ∧ RdH w' b 35 v k' en
  m1 : ∀ w b v B, RdH w b 70 v k en → Row w B 4 v l.length (toksC l) → B ≤ w.heap.size → Calls Tryd.prog 20 #[.pointer (some ⟨b, 0, none⟩), .int .i64 tk, .string (ts ++ ⟨#[120]⟩)] w fun e w' => e = .returned (.bool false) ∧ w.grownBy w' (some b) ∧ RdH w' b 70 v k en
  m2 : ∀ w b v B, RdH w b 35 v k en → Row w B 4 v l.length (toksC l) → B ≤ w.heap.size → Calls Tryd.prog 21 #[.pointer (some ⟨b, 0, none⟩), .int .i64 tk, .string (ts ++ ⟨#[120]⟩)] w fun e w' => e = .returned (.bool false) ∧ w.grownBy w' (some b) ∧ RdH w' b 35 v k en
  d1 : ∀ w b v B, RdH w b 70 v k en → Row w B 4 v l.length (toksC l) → Calls Tryd.prog 22 #[.pointer (some ⟨b, 0, none⟩)] w fun e w' => e = .returned (.bool (decide (l.length ≤ k))) ∧ Below w.heap.size w w'
theorem more_ne (s : ByteArray) : s ++ ⟨#[120]⟩ ≠ s := by
  intro h
  have := congrArg ByteArray.size h
  rw [ByteArray.size_append] at this
  have e : (⟨#[120]⟩ : ByteArray).size = 1 := rfl
  omega
theorem answers (l : List Tok) (k : Nat) (en : Int) (hl : l.length ≤ 65537) (hsm : ∀ j (h : j < l.length), l[j].s.size ≤ 20) (hk : k ≤ l.length) : ∃ tk ts tn tp k', Answers l k en tk ts tn tp k' := by
  have hlm : l.length ≤ maxLen := by unfold maxLen; omega
  by_cases hlt : k < l.length
  · refine ⟨l[k].k, l[k].s, l[k].n, l[k].p, k + 1, ?_⟩
    rw [← Nat.add_zero (k + 1)]
    exact {
      le := hlt
      sz := hsm k hlt
      p1 := fun w g1 g2 v1 v2 va acts h => lexPeek_in g1 v1 l k en w g1 h.r1 h.t1 (Nat.le_of_lt h.r1.lt) hlm hlt
      p2 := fun w g1 g2 v1 v2 va acts h => refPeek_in g2 v2 l k en w g1 h.r2 h.t2 (Nat.le_of_lt h.r1.lt) hlm hlt
      n1 := fun w b v B h r hB => lexNext_in b v l k en w B h r hB (by omega) hlt
      n2 := fun w b v B h r hB => refNext_in b v l k en w B h r hB (by omega) hlt
      h1 := fun w b v B h r hB => by rw [decide_eq_true hlt]; exact lexTake_hit b v l k en _ _ w B h r hB (by omega) hlt ⟨rfl, rfl⟩
      h2 := fun w b v B h r hB => by rw [decide_eq_true hlt]; exact refTake_hit b v l k en _ _ w B h r hB (by omega) hlt ⟨rfl, rfl⟩
      m1 := fun w b v B h r hB => lexTake_miss b v l k en _ _ w B h r hB (by omega) hlt (fun h => more_ne _ h.2)
      m2 := fun w b v B h r hB => refTake_miss b v l k en _ _ w B h r hB (by omega) hlt (fun h => more_ne _ h.2)
      d1 := fun w b v B h r => by rw [decide_eq_false (by omega)]; exact lexDone_in b v l k en w B h r hlm hlt }
  · have hge : l.length ≤ k := by omega
    exact ⟨0, ⟨#[]⟩, 0, en, k, {
      le := hk
      sz := Nat.zero_le _
      p1 := fun w g1 g2 v1 v2 va acts h => lexPeek_out g1 v1 l k en w g1 h.r1 h.t1 (Nat.le_of_lt h.r1.lt) hlm hge
      p2 := fun w g1 g2 v1 v2 va acts h => refPeek_out g2 v2 l k en w g1 h.r2 h.t2 (Nat.le_of_lt h.r1.lt) hlm hge
      n1 := fun w b v B h r hB => lexNext_out b v l k en w B h r hB (by omega) hge
      n2 := fun w b v B h r hB => refNext_out b v l k en w B h r hB (by omega) hge
      h1 := fun w b v B h r hB => by rw [decide_eq_false hlt]; exact lexTake_out b v l k en _ _ w B h r hB (by omega) hge
      h2 := fun w b v B h r hB => by rw [decide_eq_false hlt]; exact refTake_out b v l k en _ _ w B h r hB (by omega) hge
      m1 := fun w b v B h r hB => lexTake_out b v l k en _ _ w B h r hB (by omega) hge
      m2 := fun w b v B h r hB => refTake_out b v l k en _ _ w B h r hB (by omega) hge
      d1 := fun w b v B h r => by rw [decide_eq_true hge]; exact lexDone_out b v l k en w B h r hlm hge }⟩
set_option maxRecDepth 100000 in
theorem nilPeek (w : World) : Calls Tryd.prog 17 #[.pointer none] w fun e w' => e = .returned (.agg #[.int .i64 0, .string ⟨#[]⟩, .int .i64 0, .int .i64 0]) ∧ Below w.heap.size w w' := by
  go_enter Tryd.func17, Tryd.ntmps17
  go_wp2_with fail
  exact bodyPost_ret (v := .agg #[.int .i64 0, .string ⟨#[]⟩, .int .i64 0, .int .i64 0]) (by simp [results, Tryd.results17, go_sem]) rfl ⟨rfl, (Below.refl _ _).alloc (Nat.le_refl _) _⟩
set_option maxRecDepth 100000 in
theorem nilDone (w : World) : Calls Tryd.prog 22 #[.pointer none] w fun e w' => e = .returned (.bool true) ∧ Below w.heap.size w w' := by
  go_enter Tryd.func22, Tryd.ntmps22
  go_wp2_with fail
  refine wp_region_quiet_lit (by kernel_rfl) (by kernel_rfl) ?_
  repeat (first | go_big_quiet_step (fail) | quiet_step (fail))
  refine wpQuiet_nil ?_
  intro _ hw'
  obtain ⟨nq, hw''⟩ := hw'
  subst hw''
  go_wp2_with fail
  go_ret
  exact ⟨rfl, below_drews w nq⟩
set_option maxRecDepth 100000 in
theorem nilTake (w : World) : Calls Tryd.prog 20 #[.pointer none, .int .i64 0, .string ⟨#[]⟩] w fun e w' => e = .returned (.bool false) ∧ Below w.heap.size w w' := by
  have hD := nilDone w
  go_enter Tryd.func20, Tryd.ntmps20
  go_wp2_with fail
  refine hD.mono ?_
  rintro e w1 ⟨rfl, hb1⟩
  go_wp2_with fail
  go_ret
  exact ⟨rfl, hb1⟩
set_option maxRecDepth 100000 in
theorem nilNext (w : World) : Calls Tryd.prog 18 #[.pointer none] w fun e w' => e = .returned (.agg #[.int .i64 0, .string ⟨#[]⟩, .int .i64 0, .int .i64 0]) ∧ Below w.heap.size w w' := by
  have HD := Lib.hid fun w' => nilDone w'
  have HP := Lib.hid fun w' => nilPeek w'
  have hA : Below w.heap.size w (w.alloc (.cells #[.int .i64 0, .string ⟨#[]⟩, .int .i64 0, .int .i64 0] 37)) := (Below.refl _ w).alloc (Nat.le_refl _) _
  have HZ := Lib.hid (TkH.new w 37 (.int .i64 0) (.string ⟨#[]⟩) (.int .i64 0) (.int .i64 0))
  go_enter Tryd.func18, Tryd.ntmps18
  go_wp2_with fail
  refine (HP.out _).mono ?_
  rintro e w1 ⟨rfl, hb1⟩
  have hs1 := hb1.size
  have hA2 : Below w1.heap.size w1 (w1.alloc (.cells #[.int .i64 0, .string ⟨#[]⟩, .int .i64 0, .int .i64 0] 37)) := (Below.refl _ w1).alloc (Nat.le_refl _) _
  have z2 := Lib.hid ((HZ.out.below hb1).below hA2)
  have t2 := Lib.hid (TkH.new w1 37 (.int .i64 0) (.string ⟨#[]⟩) (.int .i64 0) (.int .i64 0))
  have hb02 : Below w.heap.size w (w1.alloc (.cells #[.int .i64 0, .string ⟨#[]⟩, .int .i64 0, .int .i64 0] 37)) := (hA.trans (hb1.mono (by simp))).alloc (by simp at hs1; omega) _
  go_wp2_with fail
  refine (HD.out _).mono ?_
  rintro e w3 ⟨rfl, hb3⟩
  have hb03 := hb02.trans (hb3.mono hb02.size)
  obtain ⟨z0, z1, z2', z3, zf⟩ := (z2.out.below hb3).cells
  obtain ⟨t0, t1, t2', t3, _⟩ := (t2.out.below hb3).cells
  go_wp2_with fail
  exact bodyPost_ret (v := .agg #[.int .i64 0, .string ⟨#[]⟩, .int .i64 0, .int .i64 0]) (by simp [results, Tryd.results18, go_sem, z0, z1, z2', z3]) rfl ⟨rfl, (((hb03.setCell (Nat.le_refl _) _).setCell (Nat.le_refl _) _).setCell (Nat.le_refl _) _).setCell (Nat.le_refl _) _⟩

set_option maxRecDepth 100000 in
set_option maxHeartbeats 16000000 in
theorem lexReads_walk (s : ByteArray) (en : Int) (va : Value) (acts : List (Int × Bool)) (w : World) (hs : s.size ≤ maxLen) (hen : -9223372036854775808 ≤ en ∧ en ≤ 9223372036854775807)
    (hra : Row w w.heap.size 2 va acts.length (actsC acts)) (hwf : ∀ a ∈ acts, -9223372036854775808 ≤ a.1 ∧ a.1 ≤ 9223372036854775807) (hkw : StrsIs w 0 kwT) (htab : Tab10 w) :
    Calls Tryd.prog 4 #[.string s, .int .i64 en, va] w fun e w' => e = .returned (.bool true) ∧ Below w.heap.size w w' := by
  obtain ⟨i0, hinfo, hz0, hz1, hz2⟩ := info_parts info_tok
  have h1 := law04short_any s w hs
  have hz := shortS_le s
  have hzz : (shortS s).size ≤ 65537 := by
    unfold shortS; split <;> rw [ByteArray.size_extract] <;> omega
  generalize shortS s = t at *
  have hlen := allS_len t
  have hsm := allS_small t
  have h2 := refLexAll_any t w hz
  generalize allS t = r at *
  obtain ⟨l, n, e0⟩ := r
  simp only at hlen hsm
  have Hsm := Lib.hid hsm
  clear hsm
  have hl1 : l.length ≤ 65537 := by omega
  have Hkw := Lib.hid hkw; have Htab := Lib.hid htab; have Hra := Lib.hid hra; have Hwf := Lib.hid hwf
  have H2 := Lib.hid h2
  clear h2 hkw htab hra hwf
  go_enter Tryd.func4, Tryd.ntmps4
  go_wp2_with fail
  refine h1.mono ?_
  rintro e w' ⟨rfl, rfl⟩
  go_wp2_with fail
  refine H2.out.mono ?_
  rintro e w2 ⟨v2, rfl, hown2, hb2⟩
  have hs2 := hb2.size
  have hr2 := Row.of_owns hown2
  obtain ⟨ao, c, rfl, hc1, hc2⟩ := hr2.val
  have HR2 := Lib.hid hr2
  have hownE := World.ownsRow_made (base := w2.heap.size) (e := 37) (size := 4) w2 #[] 0 (Nat.le_refl _) (Nat.zero_le _) rfl
  have HrE := Lib.hid (hr2.below ((Below.refl _ w2).alloc (Nat.le_refl _) (.cells #[] 37)))
  clear hown2 hr2 H2
  go_upto_region 3 with (first
    | (at_builtin; refine wpList_append_row rfl (.tmp 23) (.tmp 24) 23 rfl w2.heap.size 37 i0 (.agg #[.int .i64 0, .string ByteArray.empty, .int .i64 0, .int .i64 0]) 4 40 Tryd.underlying23 hinfo hz0 hz1 hz2 rfl (by decide) _ 0 [] rfl hownE w2.heap.size _ l.length (toksC l) rfl HrE.out (toksC_one l) (by unfold maxLen; omega) (by omega) (by simp) ?_; intro v3 w3 hown3 hgrow3; simp only [Nat.zero_add, List.nil_append] at hown3; have hb3 := ((Below.refl _ w2).alloc (Nat.le_refl _) (.cells #[] 37)).grown hgrow3 (by simp) (fun k hk => by cases hk; exact Nat.le_refl _); have HR3 := Lib.hid (Row.of_owns hown3); clear hown3 hgrow3)
    | (go_at_call 14; refine (lexNew_any v3 l en w3 w3.heap.size HR3.out (by omega)).mono ?_; rintro e w4 ⟨g1, v1, rfl, hd1, hv1, hb4, hg1⟩))
  have hs3 := hb3.size; have hs4 := hb4.size
  have hb24 : Below w2.heap.size w2 w4 := hb3.trans (hb4.mono hs3)
  have hb04 : Below w.heap.size w w4 := hb2.trans (hb24.mono hs2)
  have hI : RdIn (w4.alloc (.cells #[.slice ao l.length c, .int .i64 0, .int .i64 en] 35)) g1 w4.heap.size v1 (.slice ao l.length c) va l acts 0 en := by
    have hx : Below w4.heap.size w4 (w4.alloc (.cells #[.slice ao l.length c, .int .i64 0, .int .i64 en] 35)) := (Below.refl _ w4).alloc (Nat.le_refl _) _
    exact ⟨hd1.below hx, heap_alloc_new w4 _, hv1.below (hx.mono (Nat.le_of_lt hd1.lt)), ((HR2.out.below hb24).below (hx.mono hb24.size)).mono (by omega), ((Hra.out.below hb04).below (hx.mono hb04.size)).mono (by omega), hd1.lt⟩
  have hb05 : Below w.heap.size w (w4.alloc (.cells #[.slice ao l.length c, .int .i64 0, .int .i64 en] 35)) := hb04.alloc hb04.size _
  have HI := Lib.hid hI
  have hgw : w.heap.size ≤ g1 := by omega
  generalize w4.heap.size = g2 at *
  clear hI hd1 hv1 HR3 HrE hownE
  generalize hw5 : w4.alloc (.cells #[.slice ao l.length c, .int .i64 0, .int .i64 en] 35) = w5 at *
  clear hw5
  obtain ⟨va0, vac, rfl, hva1, hva2⟩ := HI.out.a.val
  have hacts : acts.length ≤ 9223372036854775807 := by unfold maxLen at hva2; omega
  go_wp2_with fail
  go_loopw [12] (fun i wr => ∃ (m k : Nat), i = .int .i64 m ∧ m ≤ acts.length ∧ m ≤ 60 ∧ k ≤ l.length ∧ RdIn wr g1 g2 v1 (.slice ao l.length c) (.slice va0 acts.length vac) l acts k en ∧ Below w.heap.size w wr) (fun i _ => acts.length - (intOf i).toNat)
  case atStart => exact ⟨0, 0, rfl, by omega, by omega, by omega, HI.out, hb05⟩
  case round =>
    obtain ⟨m, k, rfl, hm, hm60, hk, hI, hbel⟩ := hrel
    obtain ⟨tk, ts, tn, tp, k', hA⟩ := answers l k en hl1 Hsm.out hk
    have HA := Lib.hid hA
    have HI2 := Lib.hid hI
    clear hA hI
    by_cases hlt : m < acts.length ∧ m < 60
    · obtain ⟨hlt1, hlt2⟩ := hlt
      have hsz := hbel.size
      have hm0 : (m : Int) < (acts.length : Int) := by omega
      have hm1 : (m : Int) < 60 := by omega
      have ha := HI2.out.a
      obtain ⟨ba, oa, rfl, hba, _⟩ := ha.at (by rw [actsC_length]; omega)
      obtain ⟨ca0, ca1⟩ := actsC_at acts m hlt1
      have d0 := ha.cell (m * 2) _ ca0
      have d1 := ha.cell (m * 2 + 1) _ ca1
      simp only [← Nat.add_assoc] at d1
      have hd0 : ∀ w', Row w' g1 2 (.slice (some ⟨ba, oa, none⟩) acts.length vac) acts.length (actsC acts) → w'.cell? ⟨ba, oa + m * 2, none⟩ = some (.int .i64 acts[m].1) := fun w' h => h.cell (m * 2) _ ca0
      have hd1 : ∀ w', Row w' g1 2 (.slice (some ⟨ba, oa, none⟩) acts.length vac) acts.length (actsC acts) → w'.cell? ⟨ba, oa + m * 2 + 1, none⟩ = some (.bool acts[m].2) := fun w' h => h.cell (m * 2 + 1) _ ca1
      have Hd0 := Lib.hid hd0; have Hd1 := Lib.hid hd1
      clear hd0 hd1
      have hx := Hwf.out acts[m] (List.getElem_mem hlt1)
      generalize acts[m] = act at *
      obtain ⟨ad, an⟩ := act
      simp only at d0 d1 hx
      have hgl := HI2.out.r1.lt
      clear ca0 ca1 ha
      go_upto_region 7 with (go_at_call 15; refine (HA.out.p2 _ _ _ _ _ _ _ HI2.out).mono ?_; rintro e w6 ⟨rfl, hb6⟩)
      have hs6 := hb6.size
      have hA6 : Below w6.heap.size w6 (w6.alloc (.cells #[.int .i64 tk, .string ts, .int .i64 tn, .int .i64 tp] 37)) := (Below.refl _ w6).alloc (Nat.le_refl _) _
      have HI7 := Lib.hid ((HI2.out.below hb6).below hA6)
      have HT7 := Lib.hid (TkH.new w6 37 (.int .i64 tk) (.string ts) (.int .i64 tn) (.int .i64 tp))
      have hb07 : Below w.heap.size w (w6.alloc (.cells #[.int .i64 tk, .string ts, .int .i64 tn, .int .i64 tp] 37)) := (hbel.trans (hb6.mono hsz)).alloc (by omega) _
      have hg6 : g2 < w6.heap.size := (HI2.out.below hb6).r2.lt
      have hg6w : w.heap.size ≤ w6.heap.size := by omega
      clear hA6 d0 d1 hb6
      generalize w6.alloc (.cells #[.int .i64 tk, .string ts, .int .i64 tn, .int .i64 tp] 37) = w7 at *
      generalize w6.heap.size = g5 at *
      have ha := HI7.out.a
      have e0 := Hd0.out w7 ha
      have e1 := Hd1.out w7 ha
      obtain ⟨t0, t1, t2, t3, tf⟩ := HT7.out.cells
      have tf1 := tf 1
      have htz := HA.out.sz
      clear tf
      obtain ⟨tx, htx⟩ : ∃ tx : ByteArray, tx = (if an then ts ++ ⟨#[120]⟩ else ts) := ⟨_, rfl⟩
      have hstep : ∀ (ty : ByteArray) (w8 : World), RdIn w8 g1 g2 v1 (.slice ao l.length c) (.slice (some ⟨ba, oa, none⟩) acts.length vac) l acts k en → True := fun _ _ _ => trivial
      clear hstep
      cases an
      · obtain rfl : tx = ts := htx
        go_upto_region 10 with fail
        have HI8 := HI7
        have HT8 := HT7
        have hb08 := hb07
        generalize w7 = w8 at *
        clear e0 e1 t0 t1 t2 t3 tf1 ha
        have ha := HI8.out.a
        have e0 := Hd0.out w8 ha
        clear ha
        go_upto_region 12 with (go_at_call 16; refine (among4_any ad _ hx).mono ?_; rintro e w' ⟨q, hq, rfl, rfl⟩)
        clear e0
        have hs8 := hb08.size
        rcases (show q = 0 ∨ q = 1 ∨ q = 2 ∨ q = 3 from by omega) with rfl | rfl | rfl | rfl
        · go_wp2_with (first | (go_at_call 17; refine (HA.out.p1 _ _ _ _ _ _ _ HI8.out).mono ?_; rintro e w9 ⟨rfl, hb9⟩; have HI9 := Lib.hid (HI8.out.below hb9)) | (go_at_call 15; refine (HA.out.p2 _ _ _ _ _ _ _ HI9.out).mono ?_; rintro e w10 ⟨rfl, hb10⟩; have HI10 := Lib.hid (HI9.out.below hb10)))
          go_roundw
          case rel => exact ⟨m + 1, k, by go_num, hlt1, by omega, hk, HI10.out, hb08.trans ((hb9.mono hs8).trans (hb10.mono (Nat.le_trans hs8 hb9.size)))⟩
          case measure => simp [intOf]; omega
        · go_wp2_with (first | (go_at_call 18; refine (HA.out.n1 w8 g1 v1 g1 HI8.out.r1 HI8.out.t1 (Nat.le_of_lt HI8.out.r1.lt)).mono ?_; rintro e w9 ⟨rfl, hg9, hr9⟩; have hb9 := below_grown (B := g1) hg9 (Nat.le_refl _) (Nat.le_of_lt HI8.out.r1.lt)) | (go_at_call 19; refine (HA.out.n2 w9 g2 _ g1 (HI8.out.r2.other hg9 (by have := HI8.out.lt; omega)) (HI8.out.t2.below hb9) (Nat.le_trans (Nat.le_of_lt HI8.out.r1.lt) hg9.size)).mono ?_; rintro e w10 ⟨rfl, hg10, hr10⟩; have HI10 := Lib.hid (HI8.out.both hg9 hr9 hg10 hr10)))
          go_roundw
          case rel => exact ⟨m + 1, k', by go_num, hlt1, by omega, HA.out.le, HI10.out, hb08.trans ((hb9.mono hgw).trans (below_grown hg10 (Nat.le_trans hgw (Nat.le_of_lt HI8.out.lt)) (Nat.le_trans hs8 hg9.size)))⟩
          case measure => simp [intOf]; omega
        · go_wp2_with fail
          obtain ⟨t0, t1, t2, t3, tf⟩ := HT8.out.cells
          have tg := HT8.out.lt
          clear tf
          have HD := Lib.hid (HI8.out.below (Below.refl _ _).drew)
          have d0 : w8.drew.cell? ⟨g5, 0, none⟩ = some (.int .i64 tk) := t0
          have d1 : w8.drew.cell? ⟨g5, 1, none⟩ = some (.string tx) := t1
          have n1 : some g5 ≠ some g1 := by have := HI8.out.lt; have := hg6; simp; omega
          have n2 : some g5 ≠ some g2 := by have := hg6; simp; omega
          have hbd : Below w.heap.size w w8.drew := hb08.drew
          go_region_held3 (fun w' => w'.cell? ⟨g5, 0, none⟩ = some (.int .i64 tk) ∧ w'.cell? ⟨g5, 1, none⟩ = some (.string tx)) (go_keep) (first
            | (go_at_call 20; ((with_reducible refine (HA.out.h1 w8.drew g1 v1 g1 HD.out.r1 HD.out.t1 (Nat.le_of_lt HD.out.r1.lt)).mono ?_); rintro e w9 ⟨rfl, hg9, hr9⟩; have hb9 := below_grown (B := g1) hg9 (Nat.le_refl _) (Nat.le_of_lt HD.out.r1.lt); have c0 := hg9.cell d0 n1; have c1 := hg9.cell d1 n1))
            | (go_at_call 21; ((with_reducible refine (HA.out.h2 w9 g2 _ g1 (HD.out.r2.other hg9 (by have := HD.out.lt; omega)) (HD.out.t2.below hb9) (Nat.le_trans (Nat.le_of_lt HD.out.r1.lt) hg9.size)).mono ?_); rintro e w10 ⟨rfl, hg10, hr10⟩; have HI10 := Lib.hid (HD.out.both hg9 hr9 hg10 hr10); have f0 := hg10.cell c0 n2; have f1 := hg10.cell c1 n2))
            | (go_at_call 21; ((with_reducible refine (HA.out.h2 w8.drew g2 _ g1 HD.out.r2 HD.out.t2 (Nat.le_of_lt HD.out.r1.lt)).mono ?_); rintro e w9 ⟨rfl, hg9, hr9⟩; have hb9 := below_grown (B := g1) hg9 (Nat.le_of_lt HD.out.lt) (Nat.le_of_lt HD.out.r1.lt); have c0 := hg9.cell d0 n2; have c1 := hg9.cell d1 n2))
            | (go_at_call 20; ((with_reducible refine (HA.out.h1 w9 g1 v1 g1 (HD.out.r1.other hg9 (by have := HD.out.lt; omega)) (HD.out.t1.below hb9) (Nat.le_trans (Nat.le_of_lt HD.out.r1.lt) hg9.size)).mono ?_); rintro e w10 ⟨rfl, hg10, hr10⟩; have HI10 := Lib.hid (HD.out.htob hg9 hr9 hg10 hr10); have f0 := hg10.cell c0 n1; have f1 := hg10.cell c1 n1)))
          all_goals
            go_wp2_with fail
            go_roundw
            case rel => exact ⟨m + 1, k', by go_num, hlt1, by omega, HA.out.le, HI10.out, hbd.trans ((hb9.mono hgw).trans (by first | exact below_grown hg10 (Nat.le_trans hgw (Nat.le_of_lt HD.out.lt)) (Nat.le_trans hs8 hg9.size) | exact below_grown hg10 hgw (Nat.le_trans hs8 hg9.size)))⟩
            case measure => simp [intOf]; omega
        · have HD := Lib.hid (HI8.out.below (Below.refl _ _).drew)
          have d0 : w8.drew.cell? ⟨g2, 1, none⟩ = some (.int .i64 k) := HI8.out.r2.cells.2.1
          have hbd : Below w.heap.size w w8.drew := hb08.drew
          go_wp2_with fail
          go_region_held3 (fun w' => w'.cell? ⟨g2, 1, none⟩ = some (.int .i64 k)) (go_keep) (first
            | (go_at_call 22; ((with_reducible refine (HA.out.d1 w8.drew g1 v1 g1 HD.out.r1 HD.out.t1).mono ?_); rintro e w9 ⟨rfl, hb9⟩; have HI9 := Lib.hid (HD.out.below hb9); have f0 := HI9.out.r2.cells.2.1)))
          all_goals
            go_wp2_with fail
            go_roundw
            case rel => exact ⟨m + 1, k, by go_num, hlt1, by omega, hk, HI9.out, hbd.trans (hb9.mono hs8)⟩
            case measure => simp [intOf]; omega
      · obtain rfl : tx = ts ++ ⟨#[120]⟩ := htx
        go_upto_region 10 with fail
        have hst : Below g5 w7 (w7.setCell ⟨g5, 1, none⟩ (.string (ts ++ ⟨#[120]⟩))) := (Below.refl g5 w7).setCell (p := ⟨g5, 1, none⟩) (Nat.le_refl g5) _
        have HI8 := Lib.hid (HI7.out.belowB hst hg6)
        have HT8 := Lib.hid (HT7.out.set1 (.string (ts ++ ⟨#[120]⟩)))
        have hb08 := hb07.trans (hst.mono hg6w)
        clear e0 e1 t0 t1 t2 t3 tf1 ha hst
        generalize w7.setCell ⟨g5, 1, none⟩ (.string (ts ++ ⟨#[120]⟩)) = w8 at *
        have ha := HI8.out.a
        have e0 := Hd0.out w8 ha
        clear ha
        go_upto_region 12 with (go_at_call 16; refine (among4_any ad _ hx).mono ?_; rintro e w' ⟨q, hq, rfl, rfl⟩)
        clear e0
        have hs8 := hb08.size
        rcases (show q = 0 ∨ q = 1 ∨ q = 2 ∨ q = 3 from by omega) with rfl | rfl | rfl | rfl
        · go_wp2_with (first | (go_at_call 17; refine (HA.out.p1 _ _ _ _ _ _ _ HI8.out).mono ?_; rintro e w9 ⟨rfl, hb9⟩; have HI9 := Lib.hid (HI8.out.below hb9)) | (go_at_call 15; refine (HA.out.p2 _ _ _ _ _ _ _ HI9.out).mono ?_; rintro e w10 ⟨rfl, hb10⟩; have HI10 := Lib.hid (HI9.out.below hb10)))
          go_roundw
          case rel => exact ⟨m + 1, k, by go_num, hlt1, by omega, hk, HI10.out, hb08.trans ((hb9.mono hs8).trans (hb10.mono (Nat.le_trans hs8 hb9.size)))⟩
          case measure => simp [intOf]; omega
        · go_wp2_with (first | (go_at_call 18; refine (HA.out.n1 w8 g1 v1 g1 HI8.out.r1 HI8.out.t1 (Nat.le_of_lt HI8.out.r1.lt)).mono ?_; rintro e w9 ⟨rfl, hg9, hr9⟩; have hb9 := below_grown (B := g1) hg9 (Nat.le_refl _) (Nat.le_of_lt HI8.out.r1.lt)) | (go_at_call 19; refine (HA.out.n2 w9 g2 _ g1 (HI8.out.r2.other hg9 (by have := HI8.out.lt; omega)) (HI8.out.t2.below hb9) (Nat.le_trans (Nat.le_of_lt HI8.out.r1.lt) hg9.size)).mono ?_; rintro e w10 ⟨rfl, hg10, hr10⟩; have HI10 := Lib.hid (HI8.out.both hg9 hr9 hg10 hr10)))
          go_roundw
          case rel => exact ⟨m + 1, k', by go_num, hlt1, by omega, HA.out.le, HI10.out, hb08.trans ((hb9.mono hgw).trans (below_grown hg10 (Nat.le_trans hgw (Nat.le_of_lt HI8.out.lt)) (Nat.le_trans hs8 hg9.size)))⟩
          case measure => simp [intOf]; omega
        · go_wp2_with fail
          obtain ⟨t0, t1, t2, t3, tf⟩ := HT8.out.cells
          have tg := HT8.out.lt
          clear tf
          have HD := Lib.hid (HI8.out.below (Below.refl _ _).drew)
          have d0 : w8.drew.cell? ⟨g5, 0, none⟩ = some (.int .i64 tk) := t0
          have d1 : w8.drew.cell? ⟨g5, 1, none⟩ = some (.string (ts ++ ⟨#[120]⟩)) := t1
          have n1 : some g5 ≠ some g1 := by have := HI8.out.lt; have := hg6; simp; omega
          have n2 : some g5 ≠ some g2 := by have := hg6; simp; omega
          have hbd : Below w.heap.size w w8.drew := hb08.drew
          go_region_held3 (fun w' => w'.cell? ⟨g5, 0, none⟩ = some (.int .i64 tk) ∧ w'.cell? ⟨g5, 1, none⟩ = some (.string (ts ++ ⟨#[120]⟩))) (go_keep) (first
            | (go_at_call 20; ((with_reducible refine (HA.out.m1 w8.drew g1 v1 g1 HD.out.r1 HD.out.t1 (Nat.le_of_lt HD.out.r1.lt)).mono ?_); rintro e w9 ⟨rfl, hg9, hr9⟩; have hb9 := below_grown (B := g1) hg9 (Nat.le_refl _) (Nat.le_of_lt HD.out.r1.lt); have c0 := hg9.cell d0 n1; have c1 := hg9.cell d1 n1))
            | (go_at_call 21; ((with_reducible refine (HA.out.m2 w9 g2 _ g1 (HD.out.r2.other hg9 (by have := HD.out.lt; omega)) (HD.out.t2.below hb9) (Nat.le_trans (Nat.le_of_lt HD.out.r1.lt) hg9.size)).mono ?_); rintro e w10 ⟨rfl, hg10, hr10⟩; have HI10 := Lib.hid (HD.out.both hg9 hr9 hg10 hr10); have f0 := hg10.cell c0 n2; have f1 := hg10.cell c1 n2))
            | (go_at_call 21; ((with_reducible refine (HA.out.m2 w8.drew g2 _ g1 HD.out.r2 HD.out.t2 (Nat.le_of_lt HD.out.r1.lt)).mono ?_); rintro e w9 ⟨rfl, hg9, hr9⟩; have hb9 := below_grown (B := g1) hg9 (Nat.le_of_lt HD.out.lt) (Nat.le_of_lt HD.out.r1.lt); have c0 := hg9.cell d0 n2; have c1 := hg9.cell d1 n2))
            | (go_at_call 20; ((with_reducible refine (HA.out.m1 w9 g1 v1 g1 (HD.out.r1.other hg9 (by have := HD.out.lt; omega)) (HD.out.t1.below hb9) (Nat.le_trans (Nat.le_of_lt HD.out.r1.lt) hg9.size)).mono ?_); rintro e w10 ⟨rfl, hg10, hr10⟩; have HI10 := Lib.hid (HD.out.htob hg9 hr9 hg10 hr10); have f0 := hg10.cell c0 n1; have f1 := hg10.cell c1 n1)))
          all_goals
            go_wp2_with fail
            go_roundw
            case rel => exact ⟨m + 1, k, by go_num, hlt1, by omega, hk, HI10.out, hbd.trans ((hb9.mono hgw).trans (by first | exact below_grown hg10 (Nat.le_trans hgw (Nat.le_of_lt HD.out.lt)) (Nat.le_trans hs8 hg9.size) | exact below_grown hg10 hgw (Nat.le_trans hs8 hg9.size)))⟩
            case measure => simp [intOf]; omega
        · have HD := Lib.hid (HI8.out.below (Below.refl _ _).drew)
          have d0 : w8.drew.cell? ⟨g2, 1, none⟩ = some (.int .i64 k) := HI8.out.r2.cells.2.1
          have hbd : Below w.heap.size w w8.drew := hb08.drew
          go_wp2_with fail
          go_region_held3 (fun w' => w'.cell? ⟨g2, 1, none⟩ = some (.int .i64 k)) (go_keep) (first
            | (go_at_call 22; ((with_reducible refine (HA.out.d1 w8.drew g1 v1 g1 HD.out.r1 HD.out.t1).mono ?_); rintro e w9 ⟨rfl, hb9⟩; have HI9 := Lib.hid (HD.out.below hb9); have f0 := HI9.out.r2.cells.2.1)))
          all_goals
            go_wp2_with fail
            go_roundw
            case rel => exact ⟨m + 1, k, by go_num, hlt1, by omega, hk, HI9.out, hbd.trans (hb9.mono hs8)⟩
            case measure => simp [intOf]; omega
    · have hend : (acts.length : Int) ≤ (m : Int) ∨ (60 : Int) ≤ (m : Int) := by omega
      have hkwr := Hkw.out.below hbel (Nat.le_refl _)
      have htbr := Htab.out.below hbel (Nat.le_refl _)
      have HKr := Lib.hid hkwr; have HTr := Lib.hid htbr
      clear hkwr htbr HI2
      have hsr := hbel.size
      have fin : ∀ w', Below wr.heap.size wr w' → Below w.heap.size w w' := fun w' h => hbel.trans (h.mono hsr)
      have Hfin := Lib.hid fin
      clear fin
      have hm00 : m ≤ 60 := hm60
      rcases (show (acts.length : Int) ≤ (m : Int) ∨ ((m : Int) < (acts.length : Int) ∧ (60 : Int) ≤ (m : Int)) from by omega) with hq | ⟨hq, hq2⟩
      all_goals
        clear hend hlt
        go_wp2_with fail
        refine (nilPeek _).mono ?_
        rintro e w6 ⟨rfl, hb6⟩
        have hs6 := hb6.size
        go_wp2_with fail
        refine (nilNext _).mono ?_
        rintro e w7 ⟨rfl, hb7⟩
        have hb67 := hb6.trans (hb7.mono hs6)
        go_wp2_with fail
        refine (nilTake _).mono ?_
        rintro e w8 ⟨rfl, hb8⟩
        have hb68 := hb67.trans (hb8.mono hb67.size)
        go_wp2_with fail
        refine (nilDone _).mono ?_
        rintro e w9 ⟨rfl, hb9⟩
        have hb69 := hb68.trans (hb9.mono hb68.size)
        have hall := Hfin.out w9 hb69
        go_wp2_with fail
        refine (law04works_any w9 (Hkw.out.below hall (Nat.le_refl _)) (Htab.out.below hall (Nat.le_refl _))).mono ?_
        rintro e w10 ⟨rfl, hb10⟩
        go_wp2_with fail
        go_ret
        exact ⟨rfl, hall.trans (hb10.mono hall.size)⟩
theorem i64w {a : Int} (h : (Lit.int .i64 a).wf = true) : -9223372036854775808 ≤ a ∧ a ≤ 9223372036854775807 := by
  simpa [Lit.wf, IntKind.min, IntKind.max, IntKind.signed, IntKind.bits] using h
theorem acts_of {H : Type} {enc : TypeId × Value → H} {w : World} {base : Nat} {spare : Nat → Bool} {held : Bool} {v : Value} {d : DataW H} {p : List MemPlace}
    (hok : ∃ a len cap, v = .slice a len cap) (h : DataW.Trod enc Tryd.prog w base spare held 30 v d p) :
    ∃ acts : List (Int × Bool), Row w w.heap.size 2 v acts.length (actsC acts) ∧ ∀ a ∈ acts, -9223372036854775808 ≤ a.1 ∧ a.1 ≤ 9223372036854775807 := by
  obtain ⟨fuel, hf⟩ := h
  obtain ⟨a0, len, cap, rfl⟩ := hok
  have hst : ∃ f0 f1, Tryd.prog.underlying 40 = some (.struct #[f0, f1]) ∧ f0.offset = 0 ∧ f1.offset = 1 ∧ f0.type = 3 ∧ f1.type = 4 := ⟨_, _, Tryd.underlying40, rfl, rfl, rfl, rfl⟩
  obtain ⟨f0, f1, he, o0, o1, ty0, ty1⟩ := hst
  rcases Go.Deep.open_slice_pairs Tryd.underlying30 he (by kernel_rfl) o0 o1 (by rw [ty0]; kernel_rfl) (by rw [ty1]; kernel_rfl) hf with ⟨hcs, _⟩ | ⟨a, len', cap', m, n, V0, V1, D0, D1, P0, P1, hcs, _, hl, hm, hmm, _, hi⟩
  · simp [Value.cells] at hcs
    obtain ⟨rfl, rfl, rfl⟩ := hcs
    exact ⟨[], ⟨rfl, Nat.zero_le _, .inl ⟨rfl, rfl⟩⟩, fun n hn => by cases hn⟩
  · simp [Value.cells] at hcs
    obtain ⟨rfl, rfl, rfl⟩ := hcs
    have hlm : len ≤ m := by rw [hmm]; split <;> omega
    have each : ∀ i, i < len → ∃ q : Int × Bool, V0 i = .int .i64 q.1 ∧ V1 i = .bool q.2 ∧ (Lit.int .i64 q.1).wf = true := by
      intro i hil
      obtain ⟨_, _, g0, g1⟩ := hi i (by omega)
      rw [ty0] at g0; rw [ty1] at g1
      obtain ⟨z, hz, _, hw⟩ := DataW.trod_int Tryd.underlying3 g0
      obtain ⟨b, hb, _⟩ := DataW.trod_bool Tryd.underlying4 g1
      simp at hz hb
      exact ⟨(z, b), hz, hb, hw⟩
    obtain ⟨q, hq⟩ := Go.Deep.choose_lt each
    have hlen : ((List.range len).map q).length = len := by simp
    refine ⟨(List.range len).map q, ⟨by rw [actsC_length], by rw [hlen]; omega, .inr ⟨a, cap, by rw [hlen], by rw [hlen]; exact hl, hm, ?_, ?_⟩⟩, ?_⟩
    · rw [hlen]
      rcases Nat.eq_zero_or_pos len with h0 | h0
      · exact .inl h0
      · right
        have := World.block_lt_of_cell? w _ (hi 0 (by omega)).1
        simpa [Addr.add] using this
    · intro j u hu
      have hj : j < ((List.range len).map q).length * 2 := by
        rw [← actsC_length]; exact (List.getElem?_eq_some_iff.1 hu).1
      rw [hlen] at hj
      have hk : j / 2 < ((List.range len).map q).length := by rw [hlen]; omega
      obtain ⟨c0, c1⟩ := actsC_at ((List.range len).map q) (j / 2) hk
      obtain ⟨e0, e1, _, _⟩ := hi (j / 2) (by omega)
      obtain ⟨x0, x1, _⟩ := hq (j / 2) (by omega)
      simp only [List.getElem_map, List.getElem_range] at c0 c1
      rcases (show j = j / 2 * 2 ∨ j = j / 2 * 2 + 1 from by omega) with h | h
      · rw [h, c0] at hu
        rw [h, e0, x0]; exact hu
      · rw [h, c1] at hu
        rw [h, e1, x1]; exact hu
    · intro x hx
      obtain ⟨i, hil, rfl⟩ := List.mem_map.1 hx
      exact i64w (hq i (by simpa using hil)).2.2
set_option maxRecDepth 100000 in
theorem lexReads_law {H : Type} {base : Nat} (enc : TypeId × Value → H) (W : World) (a0 : ByteArray) (w0 : a0.size ≤ maxLen) (a1 : Int) (w1 : (Lit.int .i64 a1).wf = true)
    (v2 : Value) (d2 : DataW H) (p2 : List MemPlace) (k2 : Value.okWide Tryd.prog W .any base 30 v2) (h2 : DataW.Trod enc Tryd.prog W 0 (fun _ => true) true 30 v2 d2 p2)
    (hL : laidMetH Tryd.prog Rows.lexReadsRow.laid W) :
    Calls Tryd.prog 4 #[.string a0, .int .i64 a1, v2] W fun e w' => e = .returned (.bool true) ∧ Below W.heap.size W w' := by
  obtain ⟨acts, hr, hs⟩ := acts_of (Go.WideShapes.okWide_slice Tryd.underlying30 k2) h2
  exact lexReads_walk a0 a1 v2 acts W w0 (i64w w1) hr hs (kw4_of hL (by rfl)) (tab10_of hL (by rfl))
end Go.Proofs.YteijndfacjgfbaaDoor
