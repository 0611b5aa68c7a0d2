/-
  row.Ahead's function and Set, with what their answers lie in.
-/
import Derived.Test.YtimgnbacgdmiiaaKnB
import Derived.Test.YtimgnbacgdmiiaaRegU
namespace Go.Proofs.Ytimgnbacgdmiiaa
open Go.RowKit PK
set_option linter.unusedVariables false
set_option linter.unusedSimpArgs false
attribute [local go_sem ↓] append_appM

theorem ownB (ao : Option Addr) (n c : Nat) : (Value.slice ao n c).ownBlock = ao.map (·.block) := by cases ao <;> rfl
theorem row_lowB {w : World} {B n : Nat} {v : Value} {xs : List Value} (h : Row w B 1 v n xs) (h0 : 0 < n) {q : Nat} (e : v.ownBlock = some q) : q < B := by
  rcases h.2.2 with ⟨_, hn⟩ | ⟨a, c, rfl, _, _, h3, _⟩
  · omega
  · have : a.block = q := by have := Option.some.inj e; exact this
    rcases h3 with h3 | h3
    · omega
    · omega
/-- What a call that puts sets together answers, and where it lies. -/
def CatB (ao bo : Option Addr) (w : World) (a b : List Tx) (r : List Tx) (e : Ending) (w' : World) : Prop := ∃ v, e = .returned v ∧ Row w' w'.heap.size 1 v r.length (svt r) ∧ Below w.heap.size w w' ∧ (0 < r.length → ∀ q, v.ownBlock = some q → (0 < a.length ∧ ao.map (·.block) = some q) ∨ (0 < b.length ∧ bo.map (·.block) = some q) ∨ (w.heap.size ≤ q ∧ q < w'.heap.size))
/-- What a symbol stands for, and where it lies. -/
def SetB (n0 : Nat) (w : World) (r : List Tx) (e : Ending) (w' : World) : Prop := ∃ v, e = .returned v ∧ Row w' w'.heap.size 1 v r.length (svt r) ∧ Below w.heap.size w w' ∧ (0 < r.length → ∀ q, v.ownBlock = some q → q < n0 ∨ (w.heap.size ≤ q ∧ q < w'.heap.size))
/-- Sets that lie below a block. -/
structure SetsN (w : World) (n0 g N : Nat) (S : Sts) : Prop where
  len : S.length = N
  lt : g < w.heap.size
  le : n0 ≤ w.heap.size
  at_ : ∀ j (hj : j < S.length), ∃ v, w.cell? ⟨g, j, none⟩ = some v ∧ Row w n0 1 v S[j].length (svt S[j])
theorem SetsN.below {w w' : World} {n0 g N : Nat} {S : Sts} (h : SetsN w n0 g N S) (hb : Below w.heap.size w w') : SetsN w' n0 g N S :=
  ⟨h.len, Nat.lt_of_lt_of_le h.lt hb.size, Nat.le_trans h.le hb.size, fun j hj => by
    obtain ⟨v, h1, h2⟩ := h.at_ j hj
    exact ⟨v, (hb.cell (p := ⟨g, j, none⟩) h.lt).trans h1, h2.below (hb.mono h.le)⟩⟩
set_option maxHeartbeats 2000000 in
set_option maxRecDepth 100000 in
theorem ahead2_any (k : Int) (kb : Nat) (ao bo : Option Addr) (ac bc : Nat) (a b : List Tx) (w : World) (hc : w.cell? ⟨kb, 0, none⟩ = some (.int .i64 k)) (hkb : kb < w.heap.size) (hk : 1 ≤ k ∧ k ≤ 4) (ra : Row w w.heap.size 1 (.slice ao a.length ac) a.length (svt a)) (rb : Row w w.heap.size 1 (.slice bo b.length bc) b.length (svt b)) (ha : IsSet a) (hb : IsSet b) (la : Le k a) (lb : Le k b) (na : a.length ≤ 650) (nb : b.length ≤ 650) :
    Calls Try.prog 60 #[.slice ao a.length ac, .slice bo b.length bc, .pointer (some ⟨kb, 0, none⟩)] w (CatB ao bo w a b (catL a b k)) := by
  have Ra := Lib.hid ra; have Rb := Lib.hid rb
  have hna := Lib.hid (fun (w : World) (r : Row w w.heap.size 1 (.slice ao a.length ac) a.length (svt a)) => rnothing_any (.slice ao a.length ac) a w.heap.size w r)
  have hnb := Lib.hid (fun (w : World) (r : Row w w.heap.size 1 (.slice bo b.length bc) b.length (svt b)) => rnothing_any (.slice bo b.length bc) b w.heap.size w r)
  have hwh := Lib.hid (whole_any k (.slice ao a.length ac) a w.heap.size w (Nat.le_refl _) ra)
  have hct := Lib.hid (fun W (hW : Below w.heap.size w W) => packCat_any (.slice ao a.length ac) (.slice bo b.length bc) a b k w.heap.size w.heap.size W hW.size hW.size (ra.below hW) (rb.below hW) na nb (fun x hx => by have := la x hx; omega) (fun x hx => by have := lb x hx; omega) (by omega))
  have HE : Hid ((b = [] ∨ a = [[]]) → catL a b k = b) := Lib.hid fun h => by
    rcases h with h | h
    · rw [h]; exact catL_none a k
    · rw [h]; exact catL_left b k hb lb
  have HE2 : Hid (b ≠ [] → (b = [[]] ∨ wholeB a k = true) → catL a b k = a) := Lib.hid fun h0 h => by
    rcases h with h | h
    · rw [h]; exact catL_right a k ha la
    · exact catL_whole a b k ha la h h0
  have HPb : Hid (catL a b k = b → CatB ao bo w a b (catL a b k) (.returned (.slice bo b.length bc)) w) := Lib.hid fun h => by rw [h]; exact ⟨_, rfl, rb, Below.refl _ _, fun h0 q e => .inr (.inl ⟨h0, by rw [← e, ownB]⟩)⟩
  have HPa : Hid (catL a b k = a → ∀ W, Below w.heap.size w W → CatB ao bo w a b (catL a b k) (.returned (.slice ao a.length ac)) W) := Lib.hid fun h W hW => by rw [h]; exact ⟨_, rfl, (ra.below hW).mono hW.size, hW, fun h0 q e => .inl ⟨h0, by rw [← e, ownB]⟩⟩
  by_cases hb0 : b = []
  · have HP := Lib.hid (HPb.out (HE.out (.inl hb0)))
    have hl : b.length = 0 := by rw [hb0]; rfl
    rw [hl] at HP ⊢
    clear hb0 ra rb ha hb la lb HE HE2 HPb HPa hl
    generalize a.length = n at *
    go_enter Try.func60, Try.ntmps60
    go_wp2_with fail
    go_ret
    exact HP.out
  · have hbl : b.length ≠ 0 := fun h => hb0 (List.length_eq_zero_iff.1 h)
    have q1 : ((b.length : Int) == 0) = false := by rw [beq_eq_false_iff_ne]; omega
    have q2 : (b.length == 0) = false := by rw [beq_eq_false_iff_ne]; exact hbl
    have q3 : decide (b.length = 0) = false := decide_eq_false hbl
    have q4 : ¬ (b = []) := hb0
    have Hb0 := Lib.hid hb0
    have HNa := Lib.hid (hna.out w ra); have HNb := Lib.hid (hnb.out w rb)
    by_cases ha1 : a = [[]]
    · have HP := Lib.hid (HPb.out (HE.out (.inr ha1)))
      rw [decide_eq_true ha1] at HNa
      obtain ⟨n, hn⟩ : ∃ n, n = a.length := ⟨_, rfl⟩
      obtain ⟨m, hm⟩ : ∃ m, m = b.length := ⟨_, rfl⟩
      rw [← hn] at HNa ⊢
      rw [← hm] at HP q1 q2 q3 hbl ⊢
      clear hb0 ha1 ra rb ha hb la lb HE HE2 HPb HPa hn hm hna hnb hwh hct q4
      go_enter Try.func60, Try.ntmps60
      go_wp2_with fail
      refine (HNa.out).mono ?_
      rintro e w2 ⟨rfl, rfl⟩
      go_wp2_with fail
      go_ret
      exact HP.out
    · rw [decide_eq_false ha1] at HNa
      by_cases hb1 : b = [[]]
      · have HP := Lib.hid (HPa.out (HE2.out hb0 (.inl hb1)) w (Below.refl _ _))
        rw [decide_eq_true hb1] at HNb
        obtain ⟨n, hn⟩ : ∃ n, n = a.length := ⟨_, rfl⟩
        obtain ⟨m, hm⟩ : ∃ m, m = b.length := ⟨_, rfl⟩
        rw [← hn] at HNa HP ⊢
        rw [← hm] at HNb q1 q2 q3 hbl ⊢
        clear hb0 ha1 hb1 ra rb ha hb la lb HE HE2 HPb HPa hn hm hna hnb hwh hct q4
        go_enter Try.func60, Try.ntmps60
        go_wp2_with fail
        refine (HNa.out).mono ?_
        rintro e w2 ⟨rfl, rfl⟩
        go_wp2_with fail
        refine (HNb.out).mono ?_
        rintro e w2 ⟨rfl, rfl⟩
        go_wp2_with fail
        go_ret
        exact HP.out
      · rw [decide_eq_false hb1] at HNb
        have HP : Hid (wholeB a k = true → ∀ W, Below w.heap.size w W → CatB ao bo w a b (catL a b k) (.returned (.slice ao a.length ac)) W) := Lib.hid fun h => HPa.out (HE2.out hb0 (.inr h))
        generalize catL a b k = r at *
        generalize wholeB a k = y at *
        obtain ⟨n, hn⟩ : ∃ n, n = a.length := ⟨_, rfl⟩
        obtain ⟨m, hm⟩ : ∃ m, m = b.length := ⟨_, rfl⟩
        rw [← hn] at HNa HP hwh hct ⊢
        rw [← hm] at HNb hct q1 q2 q3 hbl ⊢
        clear hb0 ha1 hb1 ra rb ha hb la lb HE HE2 HPb HPa hn hm hna hnb q4
        go_enter Try.func60, Try.ntmps60
        go_wp2_with fail
        refine (HNa.out).mono ?_
        rintro e w2 ⟨rfl, rfl⟩
        go_wp2_with fail
        refine (HNb.out).mono ?_
        rintro e w3 ⟨rfl, rfl⟩
        go_wp2_with fail
        refine (hwh.out).mono ?_
        rintro e w4 ⟨rfl, hb4⟩
        have c4 := (hb4.cell (p := ⟨kb, 0, none⟩) hkb).trans hc
        have HB4 := Lib.hid hb4
        clear hb4
        cases y with
        | true =>
          have HE := Lib.hid (HP.out rfl _ HB4.out)
          go_wp2_with fail
          go_ret
          exact HE.out
        | false =>
          have Hc := Lib.hid (hct.out w4 HB4.out)
          go_wp2_with fail
          refine (Hc.out).mono ?_
          rintro e w5 ⟨v5, rfl, own5, hb5⟩
          have HE : Hid (CatB ao bo _ a b r (.returned v5) w5) := Lib.hid ⟨v5, rfl, Row.of_owns own5, HB4.out.trans (hb5.mono HB4.out.size), fun h0 q e => .inr (.inr ⟨Nat.le_trans HB4.out.size (own5.lt q e).1, (own5.lt q e).2⟩)⟩
          clear own5 hb5
          go_wp2_with fail
          go_ret
          exact HE.out
set_option maxHeartbeats 2000000 in
theorem rowSet2_any (s : Sy) (m0 g N c : Nat) (S : Sts) (w : World) (h : SetsN w m0 g N S) (hN : N ≤ 1000) (h1 : s.tok = true → 0 ≤ s.n ∧ s.n ≤ 255) (h2 : s.tok = false → 0 ≤ s.n ∧ s.n < N) :
    Calls Try.prog 66 #[.agg #[.bool s.tok, .int .i64 s.n], .slice (some ⟨g, 0, none⟩) N c] w (SetB m0 w (symS S s)) := by
  obtain ⟨t, n⟩ := s
  simp only at h1 h2 ⊢
  have hb := (Below.refl w.heap.size w).alloc (Nat.le_refl _) (.cells #[.bool t, .int .i64 n] 39)
  cases t with
  | true =>
    obtain ⟨n0, n1⟩ := h1 rfl
    have hr1 : Row ((w.alloc (.cells #[.bool true, .int .i64 n] 39)).alloc (.cells #[.int .i64 n] 3)) (w.heap.size + 1 + 1) 1 (.slice (some ⟨w.heap.size + 1, 0, none⟩) 1 1) 1 (ints [n]) := by
      have := row_cellsB (w.alloc (.cells #[.bool true, .int .i64 n] 39)) (ints [n]) 1 1 1 3 rfl (Nat.le_refl _) (by unfold maxLen; omega)
      have hs : (w.alloc (.cells #[.bool true, .int .i64 n] 39)).heap.size = w.heap.size + 1 := by simp
      rw [hs] at this; exact this
    have Ht := Lib.hid (tupleOf_any (.slice (some ⟨w.heap.size + 1, 0, none⟩) 1 1) (w.heap.size + 1 + 1) [n] _ hr1 (by simp) (by simp))
    rw [ofB_one n n0 n1] at Ht
    have Hb2 := Lib.hid (hb.alloc hb.size (.cells #[.int .i64 n] 3))
    have e : symS S ⟨true, n⟩ = [[UInt8.ofNat n.toNat]] := by unfold symS; rfl
    rw [e]
    generalize ([UInt8.ofNat n.toNat] : Tx) = x at *
    clear h1 h2 hb hr1 n0 n1 h e
    go_enter Try.func66, Try.ntmps66
    go_wp2_with fail
    refine (Ht.out).mono ?_
    rintro e w2 ⟨rfl, hb2⟩
    have hb3 := (Below.refl w2.heap.size w2).alloc (Nat.le_refl _) (.cells #[.string ⟨x.toArray⟩] 9)
    have hr3 : Row (w2.alloc (.cells #[.string ⟨x.toArray⟩] 9)) (w2.alloc (.cells #[.string ⟨x.toArray⟩] 9)).heap.size 1 (.slice (some ⟨w2.heap.size, 0, none⟩) 1 1) 1 (svt [x]) := (row_cellsB w2 (svt [x]) 1 1 1 9 rfl (Nat.le_refl _) (by unfold maxLen; omega)).mono (by simp)
    have h02 : Below w.heap.size w w2 := Hb2.out.trans (hb2.mono Hb2.out.size)
    have HE : Hid (SetB m0 w [x] (.returned (.slice (some ⟨w2.heap.size, 0, none⟩) 1 1)) (w2.alloc (.cells #[.string ⟨x.toArray⟩] 9))) := Lib.hid ⟨_, rfl, hr3, h02.trans (hb3.mono h02.size), fun _ q e => .inr ⟨by have := Option.some.inj e; have h5 := h02.size; have e3 : q = w2.heap.size := this.symm; omega, by have := Option.some.inj e; have e3 : q = w2.heap.size := this.symm; rw [e3]; simp⟩⟩
    clear hb2 hb3 hr3 h02 Ht
    generalize (⟨x.toArray⟩ : ByteArray) = s at *
    go_wp2_with fail
    go_ret
    exact HE.out
  | false =>
    obtain ⟨n0, n1⟩ := h2 rfl
    obtain ⟨q, rfl⟩ : ∃ q : Nat, n = (q : Int) := ⟨n.toNat, by omega⟩
    have h' := h.below hb
    have hq : q < S.length := by rw [h.len]; omega
    obtain ⟨v, hv, hr⟩ := h'.at_ q hq
    have e : symS S ⟨false, (q : Int)⟩ = S[q] := by unfold symS; simp only [Bool.false_eq_true, if_false]; exact stAt_nat S q hq
    rw [e]
    have HE : Hid (SetB m0 w S[q] (.returned v) (w.alloc (.cells #[.bool false, .int .i64 (q : Int)] 39))) := Lib.hid ⟨v, rfl, hr.mono (by rw [World.size_alloc]; have := h'.le; rw [World.size_alloc] at this; exact this), hb, fun h0 q e => .inl (row_lowB hr h0 e)⟩
    obtain ⟨va, vc, rfl, _, _⟩ := hr.val
    have hr := hr.mono h'.le
    generalize S[q] = r at *
    generalize r.length = rn at *
    have hq1 : (q : Int) < (N : Int) := by omega
    have hq2 : (0 : Int) ≤ (q : Int) := by omega
    clear h1 h2 hb h h' hq hr e n0 n1
    go_enter Try.func66, Try.ntmps66
    go_wp2_with fail
    go_ret
    exact HE.out
end Go.Proofs.Ytimgnbacgdmiiaa
