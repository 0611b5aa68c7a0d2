/-
  The statement that tokens of a program's text rise, and are read anew as they were: its walk.
-/
import Derived.Test.YtapmjkgndojdfaaDoorTokX
import Derived.BigRegion
import Derived.Deep.DeepCutAuto
namespace Go.Proofs.YtapmjkgndojdfaaDoor
open Go.RowKit LX
set_option linter.unusedVariables false
set_option linter.unusedSimpArgs false

/-- What each token of a text is good for. -/
def OkT (t : Tok) : Prop := (txt decS t).size ≤ 40 ∧ t.n ≤ 2147483647 ∧ t.k ≤ 5
def RiseP (s : ByteArray) (lo : Nat) : List Tok → Prop
  | [] => True
  | t :: r => lo ≤ t.p ∧ t.p < s.size ∧ OkT t ∧ RiseP s (t.p + 1) r
theorem RiseP.mono {s : ByteArray} {i j : Nat} {l : List Tok} (h : RiseP s j l) (hij : i ≤ j) : RiseP s i l := by
  cases l with
  | nil => trivial
  | cons t r => exact ⟨Nat.le_trans hij h.1, h.2⟩
theorem okT_nl (p : Nat) : OkT (nl p) := ⟨by show (ByteArray.mk #[10]).size ≤ 40; decide, by show 0 ≤ _; omega, by show 5 ≤ 5; omega⟩
theorem sign_short : ∀ x ∈ signT, x.length ≤ 2 := by decide
theorem okT_fair (t : Tok) (h : FairT kwR numB decS t) : OkT t := by
  rcases h with ⟨h0, h1, h2, h3, h4, h5⟩ | ⟨h0, h1, h2, h3, h4⟩ | ⟨h0, h0', h1⟩
  · refine ⟨?_, by omega, by rw [h5]; split <;> omega⟩
    unfold txt; rw [if_neg (by rw [h5]; split <;> decide)]; exact h4
  · have hn := (numB_some h2).2
    refine ⟨?_, hn, by omega⟩
    unfold txt; rw [if_pos h0]
    have := decS_size t.n (by omega); omega
  · refine ⟨?_, by omega, by omega⟩
    unfold txt; rw [if_neg (by omega)]
    have h2 := sign_short _ h1
    have h3 : t.s.data.toList.length = t.s.size := by rw [Array.length_toList]; rfl
    omega
theorem riseP_of {s : ByteArray} : ∀ {gs : List (Option Nat × Tok)} {lo : Nat}, RiseG kwR numB decS s lo gs → RiseP s lo (gs.flatMap flat) := by
  intro gs
  induction gs with
  | nil => intro lo _; trivial
  | cons g r ih =>
    intro lo h
    obtain ⟨fd, t⟩ := g
    cases fd with
    | none => exact ⟨h.1, h.2.1, okT_fair t h.2.2.1, ih h.2.2.2⟩
    | some p => exact ⟨h.1, by have := h.2.1; have := h.2.2.1; show p < s.size; omega, okT_nl p, by have := h.2.1; show p + 1 ≤ t.p; omega, h.2.2.1, okT_fair t h.2.2.2.1, ih h.2.2.2.2⟩
theorem riseP_len {s : ByteArray} : ∀ {l : List Tok} {i : Nat}, RiseP s i l → l.length ≤ s.size - i := by
  intro l
  induction l with
  | nil => intro i _; simp
  | cons t r ih => intro i h; have := ih h.2.2.2; have := h.2.1; have := h.1; simp; omega
theorem riseP_get {s : ByteArray} : ∀ {l : List Tok} {i : Nat}, RiseP s i l → ∀ k (h : k < l.length), i ≤ l[k].p ∧ l[k].p < s.size ∧ OkT l[k] := by
  intro l
  induction l with
  | nil => intro i _ k h; simp at h
  | cons t r ih =>
    intro i h k hk
    cases k with
    | zero => exact ⟨h.1, h.2.1, h.2.2.1⟩
    | succ k =>
      have := ih h.2.2.2 k (by simpa using hk)
      have h1 := h.1
      simp only [List.getElem_cons_succ]
      exact ⟨by omega, this.2⟩
theorem riseP_step {s : ByteArray} : ∀ {l : List Tok} {i : Nat}, RiseP s i l → ∀ k (h : k + 1 < l.length), l[k].p < l[k + 1].p := by
  intro l
  induction l with
  | nil => intro i _ k h; simp at h
  | cons t r ih =>
    intro i h k hk
    cases k with
    | zero =>
      have := riseP_get h.2.2.2 0 (by simpa using hk)
      simp only [List.getElem_cons_zero, List.getElem_cons_succ]; omega
    | succ k => simpa using ih h.2.2.2 k (by simpa using hk)
theorem numB_dec28 (x : ByteArray) (n : Nat) (h : numB x = some n) : x = decS n := (numB_some h).1
theorem allT_err (s : ByteArray) {l : List Tok} {n e : Nat} (h : allT s = (l, n, e)) (he : e ≠ 0) : l = [] ∧ n ≤ s.size := by
  have key : ∀ (f i : Nat) (fd : Option Nat) (acc : List Tok), i ≤ s.size → (tokFrom kwR numB s f i fd acc).2.2 = 0 ∨ ((tokFrom kwR numB s f i fd acc).1 = [] ∧ (tokFrom kwR numB s f i fd acc).2.1 ≤ s.size) := by
    intro f
    induction f with
    | zero => intro i fd acc _; exact .inl rfl
    | succ f ih =>
      intro i fd acc hi
      rw [tokFrom_s]
      split
      · exact .inl rfl
      · split
        · exact ih (i + 1) fd acc (by omega)
        · split
          · exact ih (i + 1) _ acc (by omega)
          · cases ho : oneT kwR numB s i with
            | none => exact .inr ⟨rfl, hi⟩
            | some x =>
              obtain ⟨t, j⟩ := x
              exact ih j _ _ (oneT_le kwR numB s i t j (by omega) ho)
  unfold allT at h
  split at h
  · simp only [Prod.mk.injEq] at h; obtain ⟨rfl, rfl, rfl⟩ := h; exact ⟨rfl, Nat.zero_le _⟩
  · have h1 := key (s.size - 0 + 1) 0 none [] (Nat.zero_le _)
    unfold tokS at h
    rw [h] at h1
    rcases h1 with h1 | h1
    · exact absurd h1 he
    · exact h1
theorem allT_groups (s : ByteArray) {l : List Tok} {n : Nat} (h : allT s = (l, n, 0)) : ∃ gs, l = gs.flatMap flat ∧ RiseG kwR numB decS s 0 gs ∧ (∀ g r, gs = g :: r → g.1 = none) := by
  unfold allT at h
  split at h
  · simp at h
  · obtain ⟨gs, h1, h2, h3⟩ := tokFrom_rises kwR numB decS numB_dec28 s _ 0 0 none [] l n (Nat.zero_le _) (Nat.le_refl _) (fun p hp => by cases hp) h
    exact ⟨gs, by rw [h1]; rfl, h2, h3 rfl⟩
/-- The text of the first k tokens. -/
def jt28 (l : List Tok) (k : Nat) : List UInt8 := join decS (l.take k)
theorem join_append28 (a b : List Tok) : join decS (a ++ b) = join decS a ++ join decS b := by
  induction a with
  | nil => rfl
  | cons t r ih => simp [join, ih]
theorem jt28_succ (l : List Tok) (k : Nat) (h : k < l.length) : jt28 l (k + 1) = jt28 l k ++ ((txt decS l[k]).data.toList ++ [32]) := by
  unfold jt28
  rw [List.take_succ_eq_append_getElem h, join_append28]; rfl
theorem jt28_len {s : ByteArray} {l : List Tok} {i : Nat} (h : RiseP s i l) (k : Nat) (hk : k ≤ l.length) : (jt28 l k).length ≤ 41 * k := by
  induction k with
  | zero => simp [jt28, join]
  | succ k ih =>
    rw [jt28_succ l k (by omega), List.length_append, List.length_append]
    have h1 := (riseP_get h k (by omega)).2.2.1
    have h2 : (txt decS l[k]).data.toList.length = (txt decS l[k]).size := by rw [Array.length_toList]; rfl
    have := ih (by omega)
    simp; omega
theorem strEq28 {a b : ByteArray} (h : a.data.toList = b.data.toList) : a = b := by
  rw [← bs_data a, h, bs_data]
theorem strJt28 (l : List Tok) (k : Nat) (h : k < l.length) : (⟨(jt28 l k).toArray⟩ : ByteArray) ++ (txt decS l[k] ++ ⟨#[32]⟩) = ⟨(jt28 l (k + 1)).toArray⟩ := by
  apply strEq28
  rw [jt28_succ l k h, ByteArray.data_append, ByteArray.data_append]
  simp
theorem textT_txt (t : Tok) (h : OkT t) : textT t.k t.s t.n = txt decS t := by
  unfold textT txt
  by_cases hk : t.k = 4
  · rw [if_pos (by omega), if_pos hk]
    have : clamp (t.n : Int) = t.n := by unfold clamp; have := h.2.1; split <;> (try split) <;> omega
    rw [this]
  · rw [if_neg (by omega), if_neg hk]
theorem allT_again (s : ByteArray) {l : List Tok} {n : Nat} (h : allT s = (l, n, 0)) (hl : (jt28 l l.length).length ≤ 1000000) :
    ∃ m : List Tok, allT ⟨(jt28 l l.length).toArray⟩ = (m, (jt28 l l.length).length, 0) ∧ m.map core = l.map core := by
  obtain ⟨gs, hg, hr, h0⟩ := allT_groups s h
  have hj : jt28 l l.length = join decS l := by unfold jt28; rw [List.take_length]
  obtain ⟨m, h1, h2⟩ := againT kwR numB decS gs [] [] ⟨(jt28 l l.length).toArray⟩ 0 (riseG_fair kwR numB decS hr) (fun _ => h0) (by rw [hj, hg]; rfl) rfl
  refine ⟨m, ?_, by rw [h2, hg]⟩
  have hsz : (⟨(jt28 l l.length).toArray⟩ : ByteArray).size = (jt28 l l.length).length := by show (jt28 l l.length).toArray.size = _; simp
  unfold allT
  rw [if_neg (by rw [hsz]; omega), h1, hsz]
  rfl
set_option maxRecDepth 100000 in
set_option maxHeartbeats 8000000 in
theorem tokenAgain_walk (s0 : ByteArray) (w0 : World) (hs : s0.size ≤ maxLen) (hkw : StrsIs w0 1 resT) (hsg : StrsIs w0 0 sigT) (htab : Tab10 w0) :
    Calls Tryd.prog 5 #[.string s0] w0 fun e w' => e = .returned (.bool true) ∧ Below w0.heap.size w0 w' := by
  have h0 := law28works_any w0 hkw hsg htab
  have h1 := fun w' => law28short_any s0 w' hs
  have hzz := short28_le s0
  generalize short28 s0 = s at *
  have h2 := fun w' a b c => tokAll_any s w' (by unfold maxLen; omega) a b c
  have Hkw := Lib.hid hkw; have Htab := Lib.hid htab; have Hsg := Lib.hid hsg
  obtain ⟨r, hr⟩ : ∃ r, r = allT s := ⟨_, rfl⟩
  rw [← hr] at h2
  obtain ⟨l, n, e⟩ := r
  have Hr := Lib.hid hr.symm
  have H1 := Lib.hid h1; have H2 := Lib.hid h2
  clear h1 h2 hkw htab hsg hr
  go_enter Tryd.func5, Tryd.ntmps5
  go_wp2_with fail
  refine h0.mono ?_
  rintro e' w1 ⟨rfl, hb1⟩
  go_wp2_with fail
  refine (H1.out _).mono ?_
  rintro e' w' ⟨rfl, rfl⟩
  go_wp2_with fail
  refine (H2.out w1 (Hkw.out.below hb1 (Nat.le_refl _)) (Hsg.out.below hb1 (Nat.le_refl _)) (Htab.out.below hb1 (Nat.le_refl _))).mono ?_
  rintro e' w2 ⟨v1, rfl, hown1, hb2⟩
  have hs1 := hb1.size; have hs2 := hb2.size
  have hb12 := hb1.trans (hb2.mono hs1)
  have r1 := Row.of_owns hown1
  clear hown1 h0 H1 H2
  by_cases he : e = 0
  · subst he
    obtain ⟨gs, hg1, hg2, _⟩ := allT_groups s Hr.out
    have hR : RiseP s 0 l := by rw [hg1]; exact riseP_of hg2
    clear hg1 hg2
    have hlen := riseP_len hR
    have HR := Lib.hid hR
    obtain ⟨ao, c, rfl, hc1, hc2⟩ := r1.val
    have R1 := Lib.hid r1
    clear r1 hR
    go_wp2_with fail
    obtain ⟨ws, hws⟩ : ∃ ws : World, ws = w2 := ⟨_, rfl⟩
    go_loopw [6, 7] (fun t i wr => ∃ (k : Nat) (T : ByteArray), k ≤ l.length ∧ i = .int .i64 k ∧ t = .string T ∧ Hid (T = ⟨(jt28 l k).toArray⟩) ∧ Below w2.heap.size w2 wr) (fun _ i _ => l.length - (intOf i).toNat)
    case atStart => exact ⟨0, _, Nat.zero_le _, rfl, rfl, Lib.hid rfl, Below.refl _ _⟩
    case round =>
      obtain ⟨k, T, hk, rfl, rfl, HTj, hbel⟩ := hrel
      have hjl := jt28_len HR.out k hk
      have hTs : T.size = (jt28 l k).length := by rw [HTj.out]; show (jt28 l k).toArray.size = _; simp
      have hTz : T.size ≤ 100000 := by omega
      have HTs := Lib.hid hTs
      clear hTs
      by_cases hlt : k < l.length
      · obtain ⟨_, hp2, hF⟩ := riseP_get HR.out k hlt
        have hst : ∀ j (h1 : j < l.length), j + 1 = k → l[j].p < l[k].p := fun j h1 h2 => by subst h2; exact riseP_step HR.out j hlt
        have hn1 := hF.2.1
        have hk5 := hF.2.2
        have HX : Hid (T ++ (txt decS l[k] ++ ⟨#[32]⟩) = ⟨(jt28 l (k + 1)).toArray⟩) := by
          show _ = _; rw [HTj.out]; exact strJt28 l k hlt
        have hsz := hbel.size
        have a1 := (R1.out.below hbel)
        obtain ⟨b1, o1, rfl, hbb1, _⟩ := a1.at (by rw [toksC_length]; omega)
        have hcc : ∀ m (hm : m < l.length), wr.cell? ⟨b1, o1 + m * 4, none⟩ = some (.int .i64 l[m].k) ∧ wr.cell? ⟨b1, o1 + m * 4 + 1, none⟩ = some (.string l[m].s) ∧ wr.cell? ⟨b1, o1 + m * 4 + 2, none⟩ = some (.int .i64 l[m].n) ∧ wr.cell? ⟨b1, o1 + m * 4 + 3, none⟩ = some (.int .i64 l[m].p) := fun m hm =>
          ⟨a1.cell (m * 4 + 0) _ (toksC_at l m hm 0 (by omega)), a1.cell (m * 4 + 1) _ (toksC_at l m hm 1 (by omega)), a1.cell (m * 4 + 2) _ (toksC_at l m hm 2 (by omega)), a1.cell (m * 4 + 3) _ (toksC_at l m hm 3 (by omega))⟩
        obtain ⟨c10, c11, c12, c13⟩ := hcc k hlt
        have hk0 : (k : Int) < (l.length : Int) := by omega
        have hl63 : l.length ≤ 9223372036854775807 := by omega
        have hprev : 0 < k → ∃ pp : Nat, wr.cell? ⟨b1, o1 + (k - 1) * 4 + 3, none⟩ = some (.int .i64 pp) ∧ pp < l[k].p := fun hpos => by
          exact ⟨l[k - 1].p, (hcc (k - 1) (by omega)).2.2.2, hst (k - 1) (by omega) (by omega)⟩
        clear a1 hcc hst
        have Hprev := Lib.hid hprev
        have HF := Lib.hid hF
        clear hprev hF
        obtain ⟨t, ht⟩ : ∃ t, t = l[k] := ⟨_, rfl⟩
        have Ht := Lib.hid ht
        rw [← ht] at c10 c11 c12 c13 hp2 hn1 hk5
        have hpt : (0 : Int) ≤ (t.p : Int) := by omega
        clear ht
        go_upto_region 11 with fail
        go_cut [54] (fun s54 wx => s54 = .bool false ∧ Below wr.heap.size wr wx)
        case first =>
          rcases Nat.eq_zero_or_pos k with hk00 | hpos
          · have q4 : decide ((0 : Int) < (k : Int)) = false := by simp; omega
            have q5 : decide (0 < k) = false := by simp; omega
            clear hk00
            clear Hprev HX HF Ht HR R1 Hr Hkw Htab Hsg
            refine wp_region_quiet_lit (by kernel_rfl) (by kernel_rfl) ?_
            repeat (first | go_big_quiet_step (fail) | quiet_step (fail))
            refine wpQuiet_nil ?_
            intro _ hw'
            obtain ⟨nq, hw''⟩ := hw'
            subst hw''
            go_wp2_with fail
            go_meet
            case rel => exact ⟨rfl, below_drews28 wr nq⟩
          · obtain ⟨pp, c3p, hpp⟩ := Hprev.out hpos
            rw [← Ht.out] at hpp
            have hpp' : (pp : Int) < (t.p : Int) := by omega
            have q3 : decide (t.p ≤ pp) = false := by simp; omega
            have q4 : decide ((0 : Int) < (k : Int)) = true := by simp; omega
            have q5 : decide (0 < k) = true := by simp; omega
            clear Hprev HX HF Ht HR R1 Hr Hkw Htab Hsg
            refine wp_region_quiet_lit (by kernel_rfl) (by kernel_rfl) ?_
            repeat (first | go_big_quiet_step (fail) | quiet_step (fail))
            refine wpQuiet_nil ?_
            intro _ hw'
            obtain ⟨nq, hw''⟩ := hw'
            subst hw''
            go_wp2_with fail
            go_meet
            case rel => exact ⟨rfl, below_drews28 wr nq⟩
        case rest =>
          obtain ⟨rfl, hbw⟩ := hcut
          have hsw := hbw.size
          have hbel1 := hbel.trans (hbw.mono hsz)
          have hb12x := hb12.trans (hbel1.mono hb12.size)
          replace c10 := (hbw.cell (p := ⟨b1, o1 + k * 4, none⟩) (Nat.lt_of_lt_of_le hbb1 hsz)).trans c10
          replace c11 := (hbw.cell (p := ⟨b1, o1 + k * 4 + 1, none⟩) (Nat.lt_of_lt_of_le hbb1 hsz)).trans c11
          replace c12 := (hbw.cell (p := ⟨b1, o1 + k * 4 + 2, none⟩) (Nat.lt_of_lt_of_le hbb1 hsz)).trans c12
          replace c13 := (hbw.cell (p := ⟨b1, o1 + k * 4 + 3, none⟩) (Nat.lt_of_lt_of_le hbb1 hsz)).trans c13
          have hkk : k < 9223372036854775807 := by omega
          have hX := HX.out
          have hF := HF.out
          rw [← Ht.out] at hX hF
          have hT := tokText_any t.k t.s t.n t.p wc (by omega) (Htab.out.below hb12x (Nat.le_refl _))
          rw [textT_txt t hF] at hT
          have hxs : (txt decS t).size ≤ 40 := hF.1
          have HX := Lib.hid hX
          generalize txt decS t = x at *
          have HT := Lib.hid hT
          clear hX hT hF HF
          go_wp2_with fail
          refine HT.out.mono ?_
          rintro e' w4 ⟨rfl, hb4⟩
          go_wp2_with fail
          go_roundw
          case rel => exact ⟨k + 1, _, hlt, by go_num, rfl, HX, hbel1.trans (hb4.mono hbel1.size)⟩
          case measure => simp [intOf]; omega
      · obtain rfl : k = l.length := by omega
        have hsz := hbel.size
        have hb02 := hb12.trans (hbel.mono hb12.size)
        obtain ⟨M, hAll, hcore⟩ := allT_again s Hr.out (by omega)
        rw [← HTj.out, ← HTs.out] at hAll
        have h2 := tokAll_any T wr (by unfold maxLen; omega) (Hkw.out.below hb02 (Nat.le_refl _)) (Hsg.out.below hb02 (Nat.le_refl _)) (Htab.out.below hb02 (Nat.le_refl _))
        rw [hAll] at h2
        have hML : M.length = l.length := by have := congrArg List.length hcore; simpa using this
        have HC : Hid (∀ k (h1 : k < M.length) (h2 : k < l.length), M[k].k = l[k].k ∧ M[k].s = l[k].s ∧ M[k].n = l[k].n) := fun k h1 h2 => by
          have h := congrArg (fun z => z[k]?) hcore
          simp only [List.getElem?_map, List.getElem?_eq_getElem h1, List.getElem?_eq_getElem h2, Option.map_some, Option.some.injEq, core, Prod.mk.injEq] at h
          exact h
        have H2 := Lib.hid h2
        clear h2 hAll hcore
        go_wp2_with fail
        refine H2.out.mono ?_
        rintro e' w4 ⟨v2, rfl, hown4, hb4⟩
        have hs4 := hb4.size
        have r4 := Row.of_owns hown4
        obtain ⟨mo, mc, rfl, hmc1, hmc2⟩ := r4.val
        have RM := Lib.hid r4
        have R14 := Lib.hid ((R1.out.below (hbel.trans (hb4.mono hsz))).mono (show w2.heap.size ≤ w4.heap.size by omega))
        have hb04 := hb02.trans (hb4.mono hb02.size)
        have HML := Lib.hid hML
        have RM : Hid (Row w4 w4.heap.size 4 (.slice mo l.length mc) l.length (toksC M)) := by
          have h := RM.out
          simp only [HML.out] at h
          exact Lib.hid h
        clear r4 hown4 H2 hML
        simp only [HML.out] at hmc1 ⊢
        go_wp2_with fail
        go_loopw [11] (fun i wx => ∃ k : Nat, k ≤ l.length ∧ i = .int .i64 k ∧ Below w4.heap.size w4 wx) (fun i _ => l.length - (intOf i).toNat)
        case atStart => exact ⟨0, Nat.zero_le _, rfl, Below.refl _ _⟩
        case round =>
          obtain ⟨k, hk, rfl, hbx⟩ := hrel
          have hl63 : l.length ≤ 9223372036854775807 := by omega
          by_cases hlt : k < l.length
          · have hsx := hbx.size
            have hkM : k < M.length := by rw [HML.out]; exact hlt
            obtain ⟨m0, m1, m2⟩ := HC.out k hkM hlt
            have a1 := R14.out.below hbx
            have a2 := RM.out.below hbx
            obtain ⟨b1, o1, rfl, hbb1, _⟩ := a1.at (by rw [toksC_length]; omega)
            obtain ⟨b2, o2, rfl, hbb2, _⟩ := a2.at (by rw [toksC_length, HML.out]; omega)
            have c10 := a1.cell (k * 4 + 0) _ (toksC_at l k hlt 0 (by omega)); have c11 := a1.cell (k * 4 + 1) _ (toksC_at l k hlt 1 (by omega)); have c12 := a1.cell (k * 4 + 2) _ (toksC_at l k hlt 2 (by omega))
            have c20 := a2.cell (k * 4 + 0) _ (toksC_at M k hkM 0 (by omega)); have c21 := a2.cell (k * 4 + 1) _ (toksC_at M k hkM 1 (by omega)); have c22 := a2.cell (k * 4 + 2) _ (toksC_at M k hkM 2 (by omega))
            simp only [Nat.add_zero, ← Nat.add_assoc] at c10 c11 c12 c20 c21 c22
            rw [m0] at c20
            rw [m1] at c21
            rw [m2] at c22
            have hk0 : (k : Int) < (l.length : Int) := by omega
            have n1 : b1 < wr.heap.size := by omega
            have n2 : b2 < wr.heap.size := by omega
            generalize l[k] = t at *
            clear a1 a2 m0 m1 m2
            go_wp2_with fail
            refine wp_region_quiet_lit (by kernel_rfl) (by kernel_rfl) ?_
            repeat (first | go_big_quiet_step (fail) | quiet_step (fail))
            refine wpQuiet_nil ?_
            intro _ hw'
            obtain ⟨nq, hw''⟩ := hw'
            subst hw''
            go_wp2_with fail
            go_roundw
            case rel => exact ⟨k + 1, hlt, by go_num, hbx.trans ((below_drews28 wr nq).mono hsx)⟩
            case measure => simp [intOf]; omega
          · obtain rfl : k = l.length := by omega
            go_wp2_with fail
            go_ret
            exact ⟨rfl, hb04.trans (hbx.mono hb04.size)⟩
  · obtain ⟨rfl, hn⟩ := allT_err s Hr.out he
    have he' : ((e : Int) != 0) = true := by simp; omega
    have hn' : (n : Int) ≤ (s.size : Int) := by omega
    obtain ⟨ao, c, rfl, hc1, hc2⟩ := r1.val
    clear r1 he
    go_wp2_with fail
    go_ret
    exact ⟨rfl, hb12⟩
theorem tokenAgain_law {H : Type} (enc : TypeId × Value → H) (W : World) (a0 : ByteArray) (w0 : a0.size ≤ maxLen) (hL : laidMetH Tryd.prog Rows.tokenAgainRow.laid W) :
    Calls Tryd.prog 5 #[.string a0] W fun e w' => e = .returned (.bool true) ∧ Below W.heap.size W w' :=
  tokenAgain_walk a0 W w0 (res28_of hL (by rfl)) (sig28_of hL (by rfl)) (tab10_of hL (by rfl))
end Go.Proofs.YtapmjkgndojdfaaDoor
