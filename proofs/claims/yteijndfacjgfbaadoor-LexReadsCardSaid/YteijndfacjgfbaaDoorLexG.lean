/-
  The statement that tokens lie within the text, and rise, and are read anew as they were: its walk.
-/
import Derived.Test.YteijndfacjgfbaaDoorLexL
import Derived.BigRegion
import Derived.Deep.DeepCutAuto
namespace Go.Proofs.YteijndfacjgfbaaDoor
open Go.RowKit LX
set_option linter.unusedVariables false

theorem lexFrom_err (kw : ByteArray → Bool) (num : ByteArray → Option Nat) (s : ByteArray) (f : Nat) : ∀ (i : Nat) (acc : List Tok), i ≤ s.size → (lexFrom kw num s f i acc).2.2 = 0 ∨ ((lexFrom kw num s f i acc).1 = [] ∧ (lexFrom kw num s f i acc).2.1 ≤ s.size ∧ (lexFrom kw num s f i acc).2.2 = 5) := by
  induction f with
  | zero => intro i acc _; exact .inl rfl
  | succ f ih =>
    intro i acc hi
    rw [lexFrom_s]
    split
    · exact .inl rfl
    · split
      · exact ih (i + 1) acc (by omega)
      · split
        · exact ih _ acc (runEnd_le notFeed s (i + 1) (by omega))
        · cases ho : one kw num s i with
          | none => exact .inr ⟨rfl, hi, rfl⟩
          | some x =>
            obtain ⟨t, j⟩ := x
            exact ih j _ (one_le kw num s i t j (by omega) ho)
theorem allS_err (s : ByteArray) {l : List Tok} {n e : Nat} (h : allS s = (l, n, e)) (he : e ≠ 0) : l = [] ∧ n ≤ s.size ∧ e ≤ 7 := by
  unfold allS at h
  split at h
  · simp only [Prod.mk.injEq] at h; obtain ⟨rfl, rfl, rfl⟩ := h; exact ⟨rfl, Nat.zero_le _, by omega⟩
  · have h1 := lexFrom_err kwB numB s (s.size - 0 + 1) 0 [] (Nat.zero_le _)
    unfold lexS at h
    rw [h] at h1
    simp only at h1
    rcases h1 with h1 | ⟨h1, h2, h3⟩
    · exact absurd h1 he
    · exact ⟨h1, h2, by omega⟩
theorem numB_dec (x : ByteArray) (n : Nat) (h : numB x = some n) : x = decS n := (numB_some h).1
theorem allS_rises (s : ByteArray) {l : List Tok} {n : Nat} (h : allS s = (l, n, 0)) : Rises kwB numB decS s 0 l := by
  unfold allS at h
  split at h
  · simp at h
  · obtain ⟨m, h1, h2⟩ := lexFrom_rises kwB numB decS numB_dec s _ 0 [] l n (Nat.zero_le _) h
    rw [h1]; simpa using h2
theorem rises_len {s : ByteArray} : ∀ {l : List Tok} {i : Nat}, Rises kwB numB decS s i l → l.length ≤ s.size - i := by
  intro l
  induction l with
  | nil => intro i _; simp
  | cons t r ih => intro i h; have := ih h.2.2.2; have := h.2.1; have := h.2.2.1; simp; omega
theorem rises_get {s : ByteArray} : ∀ {l : List Tok} {i : Nat}, Rises kwB numB decS s i l → ∀ k (h : k < l.length), i ≤ l[k].p ∧ l[k].p < s.size ∧ LX.Fair kwB numB decS l[k] := by
  intro l
  induction l with
  | nil => intro i _ k h; simp at h
  | cons t r ih =>
    intro i h k hk
    cases k with
    | zero => exact ⟨h.2.1, h.2.2.1, h.1⟩
    | succ k =>
      have := ih h.2.2.2 k (by simpa using hk)
      have h1 := h.2.1
      simp only [List.getElem_cons_succ]
      exact ⟨by omega, this.2⟩
theorem rises_step {s : ByteArray} : ∀ {l : List Tok} {i : Nat}, Rises kwB numB decS s i l → ∀ k (h : k + 1 < l.length), l[k].p < l[k + 1].p := by
  intro l
  induction l with
  | nil => intro i _ k h; simp at h
  | cons t r ih =>
    intro i h k hk
    cases k with
    | zero =>
      have := rises_get h.2.2.2 0 (by simpa using hk)
      simp only [List.getElem_cons_zero, List.getElem_cons_succ]; omega
    | succ k => simpa using ih h.2.2.2 k (by simpa using hk)
theorem join_append (a b : List Tok) : join decS (a ++ b) = join decS a ++ join decS b := by
  induction a with
  | nil => rfl
  | cons t r ih => simp [join, ih]
/-- The text of the first k tokens. -/
def jt (l : List Tok) (k : Nat) : List UInt8 := join decS (l.take k)
theorem jt_succ (l : List Tok) (k : Nat) (h : k < l.length) : jt l (k + 1) = jt l k ++ ((txt decS l[k]).data.toList ++ [32]) := by
  unfold jt
  rw [List.take_succ_eq_append_getElem h, join_append]; rfl
theorem fair_txt (t : Tok) (h : LX.Fair kwB numB decS t) : (txt decS t).size ≤ 20 := by
  rcases h with ⟨h0, h1, h2, h3, h4, h5⟩ | ⟨h0, h0', h1, h2, h3, h4⟩ | ⟨h0, h1, h2, h3, h4⟩ | ⟨h0, h0', h1, h2⟩
  · unfold txt; rw [if_neg (by rw [h5]; split <;> decide)]; exact h4
  · unfold txt; rw [if_neg (by rw [h0]; decide)]; exact h4
  · unfold txt; rw [if_pos h0]; exact decS_size t.n (by have := (numB_some h2).2; omega)
  · unfold txt; rw [if_neg (by rw [h0]; decide)]; omega
theorem fair_num (t : Tok) (h : LX.Fair kwB numB decS t) : t.n ≤ 2147483647 ∧ t.k ≤ 5 := by
  rcases h with ⟨h0, h1, h2, h3, h4, h5⟩ | ⟨h0, h0', h1, h2, h3, h4⟩ | ⟨h0, h1, h2, h3, h4⟩ | ⟨h0, h0', h1, h2⟩
  · exact ⟨by omega, by rw [h5]; split <;> omega⟩
  · omega
  · exact ⟨(numB_some h2).2, by omega⟩
  · omega
theorem jt_len {s : ByteArray} {l : List Tok} {i : Nat} (h : Rises kwB numB decS s i l) (k : Nat) (hk : k ≤ l.length) : (jt l k).length ≤ 21 * k := by
  induction k with
  | zero => simp [jt, join]
  | succ k ih =>
    rw [jt_succ l k (by omega), List.length_append, List.length_append]
    have h1 := fair_txt _ (rises_get h k (by omega)).2.2
    have h2 : (txt decS l[k]).data.toList.length = (txt decS l[k]).size := by rw [Array.length_toList]; rfl
    have := ih (by omega)
    simp; omega
theorem placed_get (l : List Tok) : ∀ (i k : Nat), (placed decS i l)[k]? = (l[k]?).map fun t => ({ t with p := i + (jt l k).length } : Tok) := by
  induction l with
  | nil => intro i k; simp [placed]
  | cons t r ih =>
    intro i k
    cases k with
    | zero => simp [placed, jt, join]
    | succ k =>
      have h2 : (txt decS t).data.toList.length = (txt decS t).size := by rw [Array.length_toList]; rfl
      simp only [placed, List.getElem?_cons_succ]
      rw [ih]
      congr 1
      funext u
      have : (jt (t :: r) (k + 1)).length = (txt decS t).size + 1 + (jt r k).length := by
        show (join decS (t :: r.take k)).length = _
        simp only [join, List.length_append, List.length_cons, h2]; unfold jt; omega
      rw [this]; congr 1; omega
theorem placed_len (l : List Tok) : ∀ i, (placed decS i l).length = l.length := by
  induction l with
  | nil => intro i; rfl
  | cons t r ih => intro i; simp [placed, ih]
/-- Where the first k tokens stand in that text. -/
def ats (l : List Tok) (k : Nat) : List Int := (List.range k).map fun j => ((jt l j).length : Int)
theorem ats_succ (l : List Tok) (k : Nat) : ats l (k + 1) = ats l k ++ [((jt l k).length : Int)] := by
  unfold ats; rw [List.range_succ, List.map_append]; rfl
theorem ints_append (a b : List Int) : ints (a ++ b) = ints a ++ ints b := by simp [ints]
theorem ats_len (l : List Tok) (k : Nat) : (ats l k).length = k := by simp [ats]
theorem ats_at (l : List Tok) (n k : Nat) (h : k < n) : (ints (ats l n))[k]? = some (.int .i64 ((jt l k).length : Int)) := by
  simp [ints, ats, h]
theorem allS_again (s : ByteArray) {l : List Tok} {n : Nat} (h : allS s = (l, n, 0)) (ht : (⟨(jt l l.length).toArray⟩ : ByteArray).size ≤ 65536) :
    allS ⟨(jt l l.length).toArray⟩ = (placed decS 0 l, (jt l l.length).length, 0) := by
  have hr := allS_rises s h
  have hj : jt l l.length = join decS l := by unfold jt; rw [List.take_length]
  have h1 := again kwB numB decS l [] [] ⟨(jt l l.length).toArray⟩ 0 (rises_fair kwB numB decS hr) (by rw [hj]; rfl) rfl
  unfold allS
  rw [if_neg (by omega), h1]
  simp [ByteArray.size]
theorem strJt (l : List Tok) (k : Nat) (h : k < l.length) : (⟨(jt l k).toArray⟩ : ByteArray) ++ (txt decS l[k] ++ ⟨#[32]⟩) = ⟨(jt l (k + 1)).toArray⟩ := by
  apply strEq
  rw [jt_succ l k h, ByteArray.data_append, ByteArray.data_append]
  simp
theorem info_int' : (Tryd.prog.info? 3).map (fun i => (i.zero, i.size, i.bytes)) = some (some (.int .i64 0), 1, 8) := by kernel_rfl

theorem below_drews (w : World) (n : Nat) : Below w.heap.size w (w.drewN n) := ⟨rfl, rfl, rfl, Nat.le_refl _, fun _ _ => rfl⟩
set_option maxRecDepth 100000 in
set_option maxHeartbeats 8000000 in
theorem lexAgain_walk (s0 : ByteArray) (w0 : World) (hs : s0.size ≤ maxLen) (hkw : StrsIs w0 0 kwT) (htab : Tab10 w0) :
    Calls Tryd.prog 5 #[.string s0] w0 fun e w' => e = .returned (.bool true) ∧ Below w0.heap.size w0 w' := by
  obtain ⟨i0, hinfo, hz0, hz1, hz2⟩ := info_parts info_int'
  have h0 := law04works_any w0 hkw htab
  have h1 := fun w' => law04short_any s0 w' hs
  have hz := shortS_le s0
  have hzz : (shortS s0).size ≤ 65537 := by
    unfold shortS; split <;> rw [ByteArray.size_extract] <;> omega
  generalize shortS s0 = s at *
  have h2 := fun w' a b => lexAll_any s w' hz a b
  have Hkw := Lib.hid hkw; have Htab := Lib.hid htab
  obtain ⟨r, hr⟩ : ∃ r, r = allS s := ⟨_, rfl⟩
  rw [← hr] at h2
  obtain ⟨l, n, e⟩ := r
  have Hr := Lib.hid hr.symm
  have H1 := Lib.hid h1; have H2 := Lib.hid h2
  clear h1 h2 hkw htab hr
  go_enter Tryd.func5, Tryd.ntmps5
  go_wp2_with fail
  refine h0.mono ?_
  rintro e' w1 ⟨rfl, hb1⟩
  go_wp2_with fail
  refine (H1.out _).mono ?_
  rintro e' w' ⟨rfl, rfl⟩
  go_wp2_with fail
  refine (H2.out w1 (Hkw.out.below hb1 (Nat.le_refl _)) (Htab.out.below hb1 (Nat.le_refl _))).mono ?_
  rintro e' w2 ⟨v1, rfl, hown1, hb2⟩
  have hs1 := hb1.size; have hs2 := hb2.size
  have hb12 := hb1.trans (hb2.mono hs1)
  have r1 := Row.of_owns hown1
  clear hown1 h0 H1 H2
  by_cases he : e = 0
  · subst he
    have hR := allS_rises s Hr.out
    have hlen := rises_len hR
    have HR := Lib.hid hR
    obtain ⟨ao, c, rfl, hc1, hc2⟩ := r1.val
    have R1 := Lib.hid r1
    clear r1 hR
    go_wp2_with fail
    obtain ⟨ws, hws⟩ : ∃ ws : World, ws = w2 := ⟨_, rfl⟩
    go_loopw [6, 7, 8] (fun t a i wr => ∃ (k : Nat) (T : ByteArray), k ≤ l.length ∧ i = .int .i64 k ∧ t = .string T ∧ Hid (T = ⟨(jt l k).toArray⟩) ∧ wr.ownsRow w2.heap.size 3 1 a k (ints (ats l k)) ∧ Below w2.heap.size w2 wr) (fun _ _ i _ => l.length - (intOf i).toNat)
    case atStart => exact ⟨0, _, Nat.zero_le _, rfl, rfl, Lib.hid rfl, World.ownsRow_made _ _ _ (Nat.le_refl _) (Nat.zero_le _) rfl, (Below.refl _ _).alloc (Nat.le_refl _) _⟩
    case round =>
      obtain ⟨k, T, hk, rfl, rfl, HTj, hown, hbel⟩ := hrel
      have hjl := jt_len HR.out k hk
      have hTs : T.size = (jt l k).length := by rw [HTj.out]; rfl
      have hTz : T.size ≤ 2000000 := by omega
      have HTs := Lib.hid hTs
      clear hTs
      by_cases hlt : k < l.length
      · obtain ⟨_, hp2, hF⟩ := rises_get HR.out k hlt
        have hst : ∀ j (h1 : j < l.length), j + 1 = k → l[j].p < l[k].p := fun j h1 h2 => by subst h2; exact rises_step HR.out j hlt
        obtain ⟨hn1, hk5⟩ := fair_num _ hF
        have HX := Lib.hid (strJt l k hlt)
        have hsz := hbel.size
        have hsb : s.size ≤ 9223372036854775807 := by unfold maxLen at hz; omega
        have a1 := (R1.out.below hbel)
        obtain ⟨b1, o1, rfl, hbb1, _⟩ := a1.at (by rw [toksC_length]; omega)
        have hcc : ∀ m (hm : m < l.length), wr.cell? ⟨b1, o1 + m * 4, none⟩ = some (.int .i64 l[m].k) ∧ wr.cell? ⟨b1, o1 + m * 4 + 1, none⟩ = some (.string l[m].s) ∧ wr.cell? ⟨b1, o1 + m * 4 + 2, none⟩ = some (.int .i64 l[m].n) ∧ wr.cell? ⟨b1, o1 + m * 4 + 3, none⟩ = some (.int .i64 l[m].p) := fun m hm =>
          ⟨a1.cell (m * 4 + 0) _ (toksC_at l m hm 0 (by omega)), a1.cell (m * 4 + 1) _ (toksC_at l m hm 1 (by omega)), a1.cell (m * 4 + 2) _ (toksC_at l m hm 2 (by omega)), a1.cell (m * 4 + 3) _ (toksC_at l m hm 3 (by omega))⟩
        obtain ⟨c10, c11, c12, c13⟩ := hcc k hlt
        have hk0 : (k : Int) < (l.length : Int) := by omega
        have hl63 : l.length ≤ 9223372036854775807 := by omega
        have hprev : 0 < k → ∃ pp : Nat, wr.cell? ⟨b1, o1 + (k - 1) * 4 + 3, none⟩ = some (.int .i64 pp) ∧ pp < l[k].p := fun hpos => by
          exact ⟨l[k - 1].p, (hcc (k - 1) (by omega)).2.2.2, hst (k - 1) (by omega) (by omega)⟩
        have HT : Hid (∃ t, t = l[k] ∧ LX.Fair kwB numB decS t) := ⟨l[k], rfl, hF⟩
        clear a1 hcc hst
        have Hown := Lib.hid hown
        have Hprev := Lib.hid hprev
        have HF := Lib.hid hF
        clear hown hprev hF
        obtain ⟨t, ht⟩ : ∃ t, t = l[k] := ⟨_, rfl⟩
        have Ht := Lib.hid ht
        rw [← ht] at c10 c11 c12 c13 hp2 hn1 hk5
        have hpt : (0 : Int) ≤ (t.p : Int) := by omega
        have hpt2 : (t.p : Int) < (s.size : Int) := by omega
        clear ht HT
        go_upto_region 11 with fail
        go_cut [75] (fun s75 wx => s75 = .bool false ∧ Below wr.heap.size wr wx)
        case first =>
          have q1 : decide ((t.p : Int) < 0) = false := by simp
          have q2 : decide (s.size ≤ t.p) = false := by simp; omega
          rcases Nat.eq_zero_or_pos k with hk00 | hpos
          · have q4 : decide ((0 : Int) < (k : Int)) = false := by simp; omega
            have q5 : decide (0 < k) = false := by simp; omega
            clear hk00
            clear Hown Hprev HX HF Ht HR R1 Hr Hkw Htab
            refine wp_region_quiet_lit (by kernel_rfl) (by kernel_rfl) ?_
            repeat (first | go_big_quiet_step (fail) | quiet_step (fail))
            refine wpQuiet_nil ?_
            intro _ hw'
            obtain ⟨nq, hw''⟩ := hw'
            subst hw''
            go_wp2_with fail
            go_meet
            case rel => exact ⟨rfl, below_drews wr nq⟩
          · obtain ⟨pp, c3p, hpp⟩ := Hprev.out hpos
            rw [← Ht.out] at hpp
            have hpp' : (pp : Int) < (t.p : Int) := by omega
            have q3 : decide (t.p ≤ pp) = false := by simp; omega
            have q4 : decide ((0 : Int) < (k : Int)) = true := by simp; omega
            have q5 : decide (0 < k) = true := by simp; omega
            clear Hown Hprev HX HF Ht HR R1 Hr Hkw Htab
            refine wp_region_quiet_lit (by kernel_rfl) (by kernel_rfl) ?_
            repeat (first | go_big_quiet_step (fail) | quiet_step (fail))
            refine wpQuiet_nil ?_
            intro _ hw'
            obtain ⟨nq, hw''⟩ := hw'
            subst hw''
            go_wp2_with fail
            go_meet
            case rel => exact ⟨rfl, below_drews wr nq⟩
        case rest =>
          obtain ⟨rfl, hbw⟩ := hcut
          have Hown1 := Lib.hid (owns_below Hown.out hbw)
          have hsw := hbw.size
          clear c10 c11 c12 c13
          have hbel1 := hbel.trans (hbw.mono hsz)
          have hown := Hown1.out
          have hkk : k < 9223372036854775807 := by omega
          by_cases hk4 : t.k = 4
          · have hq4 : ((t.k : Int) == 4) = true := by simp; omega
            have HTx : Hid (T ++ (decS t.n ++ ⟨#[32]⟩) = ⟨(jt l (k + 1)).toArray⟩) := by
              show _ = _
              have h := HX.out
              rw [← Ht.out] at h
              unfold txt at h
              rw [if_pos hk4] at h
              rw [HTj.out]; exact h
            have hdz := decS_size t.n (by omega)
            clear hk4 hown
            have hown := Hown1.out
            go_wp2_with (first
              | (at_builtin; refine wpList_append_row rfl (.tmp 76) (.tmp 79) 44 rfl w2.heap.size 3 i0 (.int .i64 0) 1 8 Tryd.underlying44 hinfo hz0 hz1 hz2 rfl (by decide) _ k (ints (ats l k)) rfl (Hown1.out.alloc _) _ _ 1 [.int .i64 (T.size : Nat)] rfl (row_cells wc [.int .i64 (T.size : Nat)] 1 1 1 _ rfl (Nat.le_refl _) (by unfold maxLen; omega)) (fun u hu => by simp at hu; subst hu; rfl) (by unfold maxLen; omega) (by omega) (by simp; omega) ?_; intro v3 w3 hown3 hgrow3; have hb3 := (hbel1.alloc (by omega) (.cells #[.int .i64 (T.size : Nat)] 3)).grown hgrow3 (by simp; omega) (fun q hq => (hown.lt q hq).1); have a3 := R1.out.below hb3; have d10 := a3.cell (k * 4 + 0) _ (toksC_at l k hlt 0 (by omega)); have d11 := a3.cell (k * 4 + 1) _ (toksC_at l k hlt 1 (by omega)); have d12 := a3.cell (k * 4 + 2) _ (toksC_at l k hlt 2 (by omega)); simp only [Nat.add_zero, ← Nat.add_assoc] at d10 d11 d12; rw [← Ht.out] at d10 d11 d12; clear a3)
              | (go_at_call 23; refine (baseItoa_any t.n w3 (by omega)).mono ?_; rintro e w4 ⟨rfl, hb4⟩))
            have hs3 := hb3.size
            go_roundw
            case rel => exact ⟨k + 1, _, hlt, by go_num, rfl, HTx, by rw [ats_succ, ints_append, ← HTs.out]; exact owns_below hown3 hb4, hb3.trans (hb4.mono hs3)⟩
            case measure => simp [intOf]; omega
          · have hq4 : ((t.k : Int) == 4) = false := by simp; omega
            have HTx : Hid (T ++ (t.s ++ ⟨#[32]⟩) = ⟨(jt l (k + 1)).toArray⟩) := by
              show _ = _
              have h := HX.out
              rw [← Ht.out] at h
              unfold txt at h
              rw [if_neg hk4] at h
              rw [HTj.out]; exact h
            have hdz : t.s.size ≤ 20 := by
              have h := fair_txt _ HF.out
              rw [← Ht.out] at h
              unfold txt at h; rw [if_neg hk4] at h; exact h
            clear hk4 hown
            have hown := Hown1.out
            go_wp2_with (at_builtin; refine wpList_append_row rfl (.tmp 76) (.tmp 79) 44 rfl w2.heap.size 3 i0 (.int .i64 0) 1 8 Tryd.underlying44 hinfo hz0 hz1 hz2 rfl (by decide) _ k (ints (ats l k)) rfl (Hown1.out.alloc _) _ _ 1 [.int .i64 (T.size : Nat)] rfl (row_cells wc [.int .i64 (T.size : Nat)] 1 1 1 _ rfl (Nat.le_refl _) (by unfold maxLen; omega)) (fun u hu => by simp at hu; subst hu; rfl) (by unfold maxLen; omega) (by omega) (by simp; omega) ?_; intro v3 w3 hown3 hgrow3; have hb3 := (hbel1.alloc (by omega) (.cells #[.int .i64 (T.size : Nat)] 3)).grown hgrow3 (by simp; omega) (fun q hq => (hown.lt q hq).1); have a3 := R1.out.below hb3; have d10 := a3.cell (k * 4 + 0) _ (toksC_at l k hlt 0 (by omega)); have d11 := a3.cell (k * 4 + 1) _ (toksC_at l k hlt 1 (by omega)); have d12 := a3.cell (k * 4 + 2) _ (toksC_at l k hlt 2 (by omega)); simp only [Nat.add_zero, ← Nat.add_assoc] at d10 d11 d12; rw [← Ht.out] at d10 d11 d12; clear a3)
            go_roundw
            case rel => exact ⟨k + 1, _, hlt, by go_num, rfl, HTx, by rw [ats_succ, ints_append, ← HTs.out]; exact hown3, hb3⟩
            case measure => simp [intOf]; omega
      · obtain rfl : k = l.length := by omega
        have hsz := hbel.size
        have hb02 := hb12.trans (hbel.mono hb12.size)
        by_cases hmx : 65536 < T.size
        · have hmx' : (65536 : Int) < (T.size : Int) := by omega
          go_wp2_with fail
          go_ret
          exact ⟨rfl, hb02⟩
        · have hmx' : ¬ (65536 : Int) < (T.size : Int) := by omega
          have hAll := allS_again s Hr.out (by rw [← HTj.out]; omega)
          rw [← HTj.out, ← HTs.out] at hAll
          have h2 := lexAll_any T wr (by unfold maxLen; omega) (Hkw.out.below hb02 (Nat.le_refl _)) (Htab.out.below hb02 (Nat.le_refl _))
          rw [hAll] at h2
          have hpl := placed_len l 0
          have HPg := Lib.hid (placed_get l 0)
          have HRA := Lib.hid (Row.of_owns hown)
          generalize hM : placed decS 0 l = M at *
          have H2 := Lib.hid h2
          clear h2 hAll hM hmx hown
          go_wp2_with fail
          refine H2.out.mono ?_
          rintro e' w4 ⟨v2, rfl, hown4, hb4⟩
          have hs4 := hb4.size
          have r4 := Row.of_owns hown4
          obtain ⟨mo, mc, rfl, hmc1, hmc2⟩ := r4.val
          have hra := (HRA.out.below hb4).mono hs4
          obtain ⟨qo, qc, rfl, hqc1, hqc2⟩ := hra.val
          have RM := Lib.hid r4; have RA := Lib.hid hra
          have R14 := Lib.hid ((R1.out.below (hbel.trans (hb4.mono hsz))).mono (show w2.heap.size ≤ w4.heap.size by omega))
          have hb04 := hb02.trans (hb4.mono hb02.size)
          clear r4 hra hown4 H2 HRA
          rw [hpl] at RM hmc1
          go_wp2_with fail
          go_loopw [12] (fun i wx => ∃ k : Nat, k ≤ l.length ∧ i = .int .i64 k ∧ Below w4.heap.size w4 wx) (fun i _ => l.length - (intOf i).toNat)
          case atStart => exact ⟨0, Nat.zero_le _, rfl, Below.refl _ _⟩
          case round =>
            obtain ⟨k, hk, rfl, hbx⟩ := hrel
            have hl63 : l.length ≤ 9223372036854775807 := by omega
            by_cases hlt : k < l.length
            · have hsx := hbx.size
              have a1 := R14.out.below hbx
              have a2 := RM.out.below hbx
              have a3 := RA.out.below hbx
              have hMk : ∃ h : k < M.length, M[k] = { l[k] with p := (jt l k).length } := by
                have h1 := HPg.out k
                rw [List.getElem?_eq_getElem hlt] at h1
                obtain ⟨h2, h3⟩ := List.getElem?_eq_some_iff.1 h1
                refine ⟨h2, ?_⟩
                rw [h3, Nat.zero_add]
              obtain ⟨hkM, hMk⟩ := hMk
              obtain ⟨b1, o1, rfl, hbb1, _⟩ := a1.at (by rw [toksC_length]; omega)
              obtain ⟨b2, o2, rfl, hbb2, _⟩ := a2.at (by rw [toksC_length]; omega)
              obtain ⟨b3, o3, rfl, hbb3, _⟩ := a3.at (by rw [ints_length, ats_len]; omega)
              have c10 := a1.cell (k * 4 + 0) _ (toksC_at l k hlt 0 (by omega)); have c11 := a1.cell (k * 4 + 1) _ (toksC_at l k hlt 1 (by omega)); have c12 := a1.cell (k * 4 + 2) _ (toksC_at l k hlt 2 (by omega)); have c13 := a1.cell (k * 4 + 3) _ (toksC_at l k hlt 3 (by omega))
              have c20 := a2.cell (k * 4 + 0) _ (toksC_at M k hkM 0 (by omega)); have c21 := a2.cell (k * 4 + 1) _ (toksC_at M k hkM 1 (by omega)); have c22 := a2.cell (k * 4 + 2) _ (toksC_at M k hkM 2 (by omega)); have c23 := a2.cell (k * 4 + 3) _ (toksC_at M k hkM 3 (by omega))
              have c30 := a3.cell k _ (ats_at l l.length k hlt)
              simp only [Nat.add_zero, ← Nat.add_assoc] at c10 c11 c12 c13 c20 c21 c22 c23
              rw [hMk] at c20 c21 c22 c23
              have hk0 : (k : Int) < (l.length : Int) := by omega
              have n1 : b1 < wr.heap.size := by omega
              have n2 : b2 < wr.heap.size := by omega
              have n3 : b3 < wr.heap.size := by omega
              obtain ⟨pos, hpos⟩ : ∃ pos, pos = (jt l k).length := ⟨_, rfl⟩
              rw [← hpos] at c20 c21 c22 c23 c30
              generalize l[k] = t at *
              clear a1 a2 a3 hMk hpos
              go_wp2_with fail
              go_region
              all_goals
                go_wp2_with fail
                go_roundw
                case rel => exact ⟨k + 1, hlt, by go_num, by first | exact (hbx.alloc hsx _).drew | exact hbx.alloc hsx _⟩
                case measure => simp [intOf]; omega
            · obtain rfl : k = l.length := by omega
              go_wp2_with fail
              go_ret
              exact ⟨rfl, hb04.trans (hbx.mono hb04.size)⟩
  · obtain ⟨rfl, hn, hee⟩ := allS_err s Hr.out he
    have he' : ((e : Int) != 0) = true := by simp; omega
    have hn' : (n : Int) ≤ (s.size : Int) := by omega
    obtain ⟨ao, c, rfl, hc1, hc2⟩ := r1.val
    clear r1 he
    go_wp2_with fail
    go_ret
    exact ⟨rfl, hb12⟩
theorem lexAgain_law {H : Type} (enc : TypeId × Value → H) (W : World) (a0 : ByteArray) (w0 : a0.size ≤ maxLen) (hL : laidMetH Tryd.prog Rows.lexAgainRow.laid W) :
    Calls Tryd.prog 5 #[.string a0] W fun e w' => e = .returned (.bool true) ∧ Below W.heap.size W w' :=
  lexAgain_walk a0 W w0 (kw4_of hL (by rfl)) (tab10_of hL (by rfl))
end Go.Proofs.YteijndfacjgfbaaDoor
