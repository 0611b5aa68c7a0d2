/-
  The laws of layer 13: works, PackTells.
-/
import Derived.Test.YtbmaappambmhoaaPackK
import Derived.Test.YtbmaappambmhoaaPackH
import Derived.SliceStrings
namespace Go.Proofs.Ytbmaappambmhoaa
open Go.RowKit PK
set_option linter.unusedVariables false

theorem stepB {w0 w w' : World} (h : Below w0.heap.size w0 w) (b : Below w.heap.size w w') : Below w0.heap.size w0 w' := h.trans (b.mono h.size)
theorem rowUp {w0 w : World} {v : Value} {n : Nat} {xs : List Value} (r : Row w0 w0.heap.size 1 v n xs) (h : Below w0.heap.size w0 w) : Row w w.heap.size 1 v n xs := (r.below h).mono h.size
theorem fewAgain (v : Value) (l : List Tx) (w0 w : World) (h : Below w0.heap.size w0 w) (r : Row w0 w0.heap.size 1 v (fewT l).length (svt (fewT l))) : Calls Try.prog 9 #[v] w (OwnT w (fewT l)) := by
  have := few_any v (fewT l) w (rowUp r h) (fun x hx => by have := fewT_each l x hx; unfold maxLen; omega)
  rw [fewT_fewT] at this
  exact this
theorem litRow2 (X : World) (x y : Tx) : Row (X.alloc (.cells #[.string ⟨x.toArray⟩, .string ⟨y.toArray⟩] 9)) (X.heap.size + 1) 1 (.slice (some ⟨X.heap.size, 0, none⟩) 2 2) 2 (svt [x, y]) := row_cellsB X (svt [x, y]) 1 2 2 _ rfl (Nat.le_refl _) (by unfold maxLen; omega)
theorem litRow1 (X : World) (x : Tx) : Row (X.alloc (.cells #[.string ⟨x.toArray⟩] 9)) (X.heap.size + 1) 1 (.slice (some ⟨X.heap.size, 0, none⟩) 1 1) 1 (svt [x]) := row_cellsB X (svt [x]) 1 1 1 _ rfl (Nat.le_refl _) (by unfold maxLen; omega)
theorem cat_ex : catL [[97], [97, 98]] [[99]] 2 = [[97, 98], [97, 99]] := by
  refine set_ext (toSet_set _) (by decide) fun z => ?_
  unfold catL
  rw [toSet_mem]
  have : catsF [[97], [97, 98]] [[99]] 2 = [[97, 99], [97, 98]] := by decide
  rw [this]
  simp only [List.mem_cons, List.not_mem_nil, or_false]
  exact Or.comm

set_option maxHeartbeats 1000000 in
theorem works13_any (w : World) : Calls Try.prog 21 #[] w (BoolB w true) := by
  have b0 : Below w.heap.size w ((w.alloc (.cells #[.string ⟨#[97]⟩, .string ⟨#[97, 98]⟩] 9)).alloc (.cells #[.string ⟨#[99]⟩] 9)) := ((Below.refl _ w).alloc (Nat.le_refl _) _).alloc (by simp) _
  have ra : Row ((w.alloc (.cells #[.string ⟨#[97]⟩, .string ⟨#[97, 98]⟩] 9)).alloc (.cells #[.string ⟨#[99]⟩] 9)) (w.heap.size + 1) 1 (.slice (some ⟨w.heap.size, 0, none⟩) 2 2) 2 (svt [[97], [97, 98]]) := (litRow2 w [97] [97, 98]).below ((Below.refl _ _).alloc (by simp) _)
  have rc := litRow1 (w.alloc (.cells #[.string ⟨#[97]⟩, .string ⟨#[97, 98]⟩] 9)) [99]
  rw [World.size_alloc] at rc
  have HC := Lib.hid (packCat_any _ _ [[97], [97, 98]] [[99]] 2 (w.heap.size + 1) (w.heap.size + 1 + 1) _ (by simp) (by simp) ra rc (by simp) (by simp) (by simp) (by simp) (by omega))
  have B0 := Lib.hid b0
  clear b0 ra rc
  go_enter Try.func21, Try.ntmps21
  go_wp2_with fail
  refine (HC.out).mono ?_
  rintro e w1 ⟨v1, rfl, own1, b1⟩
  rw [cat_ex] at own1
  have hs1 := b1.size
  have R1 := Lib.hid ((Row.of_owns own1).below ((Below.refl _ w1).alloc (Nat.le_refl _) (.cells #[.string ⟨#[97, 98]⟩, .string ⟨#[97, 99]⟩] 9)))
  have hS := sameTexts_any v1 _ [[97, 98], [97, 99]] [[97, 98], [97, 99]] _ _ _ (by simp) (by simp) R1.out (litRow2 w1 [97, 98] [97, 99])
  rw [decide_eq_true rfl] at hS
  have HS := Lib.hid hS; clear hS
  have B1 := Lib.hid ((B0.out.trans (b1.mono (by simp; omega))).alloc (by simp at hs1; omega) (.cells #[.string ⟨#[97, 98]⟩, .string ⟨#[97, 99]⟩] 9))
  clear own1 b1
  go_wp2_with fail
  refine (HS.out).mono ?_
  rintro e w2 ⟨rfl, b2⟩
  have hs2 := b2.size
  have B2 := Lib.hid (B1.out.trans (b2.mono (by simp at hs1 ⊢; omega)))
  have HI := Lib.hid (packIs_any _ [[97], [98]] _ _ (by simp) (litRow2 w2 [97] [98]))
  clear b2
  go_wp2_with fail
  refine (HI.out).mono ?_
  rintro e w3 ⟨rfl, b3⟩
  rw [show decide (IsSet ([[97], [98]] : List Tx)) = true from by decide]
  have hs3 := b3.size
  have B3 := Lib.hid ((B2.out.alloc (by simp at hs1 hs2; omega) (.cells #[.string ⟨#[97]⟩, .string ⟨#[98]⟩] 9)).trans (b3.mono (by simp at hs1 hs2 ⊢; omega)))
  have HJ := Lib.hid (packIs_any _ [[97], [97]] _ _ (by simp) (litRow2 w3 [97] [97]))
  clear b3
  go_wp2_with fail
  refine (HJ.out).mono ?_
  rintro e w4 ⟨rfl, b4⟩
  rw [show decide (IsSet ([[97], [97]] : List Tx)) = false from by decide]
  go_wp2_with fail
  go_ret
  exact ⟨rfl, (B3.out.alloc (by simp at hs1 hs2 hs3; omega) (.cells #[.string ⟨#[97]⟩, .string ⟨#[97]⟩] 9)).trans (b4.mono (by simp at hs1 hs2 hs3 ⊢; omega))⟩
theorem tx_eta (t : ByteArray) : t = ⟨t.data.toList.toArray⟩ := by simp
theorem isSet_iff (l : List Tx) : decide (l = toSet l) = decide (IsSet l) := decide_eq_decide.2 ⟨fun h => by rw [h]; exact toSet_set l, fun h => (toSet_id h).symm⟩
set_option maxHeartbeats 4000000 in
set_option maxRecDepth 100000 in
theorem packTells_walk (v0 v1 : Value) (la lb : List Tx) (t : ByteArray) (w : World) (r0 : Row w w.heap.size 1 v0 la.length (svt la)) (r1 : Row w w.heap.size 1 v1 lb.length (svt lb)) (ha : ∀ x ∈ la, x.length ≤ maxLen) (hb : ∀ x ∈ lb, x.length ≤ maxLen) :
    Calls Try.prog 3 #[v0, v1, .string t] w (BoolB w true) := by
  have R0 := Lib.hid r0; have R1 := Lib.hid r1; have Ha := Lib.hid ha; have Hb := Lib.hid hb
  have lA := fewT_len la; have lB := fewT_len lb
  have tA := toSet_len (fewT la); have tB := toSet_len (fewT lb)
  have LA := Lib.hid lA; have LB := Lib.hid lB; have TA := Lib.hid tA; have TB := Lib.hid tB
  obtain ⟨p, hp⟩ : ∃ p, p = decide (IsSet (fewT la)) := ⟨_, rfl⟩
  obtain ⟨q, hq⟩ : ∃ q, q = decide (t.data.toList ∈ fewT la) := ⟨_, rfl⟩
  obtain ⟨z, hz⟩ : ∃ z, z = decide (toSet (fewT la) = toSet (fewT lb)) := ⟨_, rfl⟩
  have Hp := Lib.hid hp; have Hq := Lib.hid hq; have Hz := Lib.hid hz
  clear r0 r1 ha hb lA lB tA tB hp hq hz
  go_enter Try.func3, Try.ntmps3
  go_wp2_with fail
  refine (few_any v0 la w R0.out Ha.out).mono ?_
  rintro e w1 ⟨x0, rfl, o1, b1⟩
  have O1 := Lib.hid o1; have B1 := Lib.hid b1
  clear o1 b1
  go_wp2_with fail
  refine (few_any v1 lb w1 (rowUp R1.out B1.out) Hb.out).mono ?_
  rintro e w2 ⟨x1, rfl, o2, b2⟩
  have RA2 := Lib.hid (rowOfOwn O1.out b2); have RB2 := Lib.hid (Row.of_owns o2)
  have B2 := Lib.hid (stepB B1.out b2)
  clear o2 b2
  go_wp2_with fail
  refine (refMake_any x0 (fewT la) w2.heap.size w2 (Nat.le_refl _) RA2.out (by have := LA.out; omega)).mono ?_
  rintro e w3 ⟨x7, rfl, o3, b3⟩
  have O3 := Lib.hid o3; have B3 := Lib.hid b3
  clear o3 b3
  go_wp2_with fail
  refine (refMake_any x1 (fewT lb) w3.heap.size w3 (Nat.le_refl _) (rowUp RB2.out B3.out) (by have := LB.out; omega)).mono ?_
  rintro e w4 ⟨x8, rfl, o4, b4⟩
  have RX := Lib.hid (rowOfOwn O3.out b4); have RY := Lib.hid (Row.of_owns o4)
  have RA := Lib.hid (rowUp RA2.out (stepB B3.out b4)); have RB := Lib.hid (rowUp RB2.out (stepB B3.out b4))
  have BW := Lib.hid (stepB B2.out (stepB B3.out b4))
  have C4 := Lib.hid (Below.refl w4.heap.size w4)
  clear o4 b4 RA2 RB2 O1 O3 B1 B2 B3
  go_wp2_with fail
  refine (sameTexts_any x0 x7 (fewT la) (toSet (fewT la)) _ _ w4 (Nat.le_refl _) (Nat.le_refl _) (rowUp RA.out C4.out) (rowUp RX.out C4.out)).mono ?_
  rintro e w5 ⟨rfl, b5⟩
  have C5 := Lib.hid (stepB C4.out b5)
  clear b5
  rw [isSet_iff, ← Hp.out]
  go_wp2_with fail
  refine (fewAgain x0 la w4 w5 C5.out RA.out).mono ?_
  rintro e w6 ⟨y1, rfl, o6, b6⟩
  have Oy1 := Lib.hid (Row.of_owns o6); have C6 := Lib.hid (stepB C5.out b6)
  have S6 := Lib.hid b6
  clear o6 b6
  go_wp2_with fail
  refine (packMake_any y1 (fewT la) w6.heap.size w6 (Nat.le_refl _) Oy1.out (by have := LA.out; omega)).mono ?_
  rintro e w7 ⟨y2, rfl, o7, b7⟩
  have Oy2 := Lib.hid (Row.of_owns o7); have C7 := Lib.hid (stepB C6.out b7)
  have S7 := Lib.hid b7
  clear o7 b7
  go_wp2_with fail
  refine (sameTexts_any y2 x7 (toSet (fewT la)) (toSet (fewT la)) _ _ w7 (Nat.le_refl _) (Nat.le_refl _) Oy2.out (rowUp RX.out C7.out)).mono ?_
  rintro e w8 ⟨rfl, b8⟩
  have C8 := Lib.hid (stepB C7.out b8)
  clear b8
  rw [decide_eq_true rfl]
  go_wp2_with fail
  refine (fewAgain x0 la w4 w8 C8.out RA.out).mono ?_
  rintro e w9 ⟨y3, rfl, o9, b9⟩
  have Oy3 := Lib.hid (Row.of_owns o9); have C9 := Lib.hid (stepB C8.out b9)
  have S9 := Lib.hid b9
  clear o9 b9
  go_wp2_with fail
  refine (packIs_any y3 (fewT la) w9.heap.size w9 (Nat.le_refl _) Oy3.out).mono ?_
  rintro e w10 ⟨rfl, b10⟩
  have C10 := Lib.hid (stepB C9.out b10)
  clear b10
  rw [← Hp.out]
  go_wp2_with fail
  refine (fewAgain x0 la w4 w10 C10.out RA.out).mono ?_
  rintro e w11 ⟨y4, rfl, o11, b11⟩
  have Oy4 := Lib.hid (Row.of_owns o11); have C11 := Lib.hid (stepB C10.out b11)
  have S11 := Lib.hid b11
  clear o11 b11
  go_wp2_with fail
  refine (fewAgain x1 lb w4 w11 C11.out RB.out).mono ?_
  rintro e w12 ⟨y5, rfl, o12, b12⟩
  have Oy5 := Lib.hid (Row.of_owns o12); have C12 := Lib.hid (stepB C11.out b12)
  have S12 := Lib.hid b12
  clear o12 b12
  go_wp2_with fail
  refine (packJoin_any y4 y5 (fewT la) (fewT lb) w12.heap.size w12.heap.size w12 (Nat.le_refl _) (Nat.le_refl _) (rowUp Oy4.out S12.out) Oy5.out (by have := LA.out; omega) (by have := LB.out; omega)).mono ?_
  rintro e w13 ⟨y6, rfl, o13, b13⟩
  have Oy6 := Lib.hid (Row.of_owns o13); have C13 := Lib.hid (stepB C12.out b13)
  have S13 := Lib.hid b13
  clear o13 b13
  go_wp2_with fail
  refine (refJoin_any x0 x1 (fewT la) (fewT lb) w13.heap.size w13.heap.size w13 (Nat.le_refl _) (Nat.le_refl _) (rowUp RA.out C13.out) (rowUp RB.out C13.out) (by have := LA.out; omega) (by have := LB.out; omega)).mono ?_
  rintro e w14 ⟨y7, rfl, o14, b14⟩
  have Oy7 := Lib.hid (Row.of_owns o14); have C14 := Lib.hid (stepB C13.out b14)
  have S14 := Lib.hid b14
  clear o14 b14
  go_wp2_with fail
  refine (sameTexts_any y6 y7 (joinL (fewT la) (fewT lb)) (joinL (fewT la) (fewT lb)) _ _ w14 (Nat.le_refl _) (Nat.le_refl _) (rowUp Oy6.out S14.out) Oy7.out).mono ?_
  rintro e w15 ⟨rfl, b15⟩
  have C15 := Lib.hid (stepB C14.out b15)
  clear b15
  rw [decide_eq_true rfl]
  go_wp2_with fail
  refine (fewAgain x0 la w4 w15 C15.out RA.out).mono ?_
  rintro e w16 ⟨y8, rfl, o16, b16⟩
  have Oy8 := Lib.hid (Row.of_owns o16); have C16 := Lib.hid (stepB C15.out b16)
  have S16 := Lib.hid b16
  clear o16 b16
  go_wp2_with fail
  refine (fewAgain x1 lb w4 w16 C16.out RB.out).mono ?_
  rintro e w17 ⟨y9, rfl, o17, b17⟩
  have Oy9 := Lib.hid (Row.of_owns o17); have C17 := Lib.hid (stepB C16.out b17)
  have S17 := Lib.hid b17
  clear o17 b17
  go_wp2_with fail
  refine (packMeet_any y8 y9 (fewT la) (fewT lb) w17.heap.size w17.heap.size w17 (Nat.le_refl _) (Nat.le_refl _) (rowUp Oy8.out S17.out) Oy9.out (by have := LA.out; omega) (by have := LB.out; omega)).mono ?_
  rintro e w18 ⟨y10, rfl, o18, b18⟩
  have Oy10 := Lib.hid (Row.of_owns o18); have C18 := Lib.hid (stepB C17.out b18)
  have S18 := Lib.hid b18
  clear o18 b18
  go_wp2_with fail
  refine (refMeet_any x0 x1 (fewT la) (fewT lb) w18.heap.size w18.heap.size w18 (Nat.le_refl _) (Nat.le_refl _) (rowUp RA.out C18.out) (rowUp RB.out C18.out) (by have := LA.out; omega)).mono ?_
  rintro e w19 ⟨y11, rfl, o19, b19⟩
  have Oy11 := Lib.hid (Row.of_owns o19); have C19 := Lib.hid (stepB C18.out b19)
  have S19 := Lib.hid b19
  clear o19 b19
  go_wp2_with fail
  refine (sameTexts_any y10 y11 (meetL (fewT la) (fewT lb)) (meetL (fewT la) (fewT lb)) _ _ w19 (Nat.le_refl _) (Nat.le_refl _) (rowUp Oy10.out S19.out) Oy11.out).mono ?_
  rintro e w20 ⟨rfl, b20⟩
  have C20 := Lib.hid (stepB C19.out b20)
  clear b20
  rw [decide_eq_true rfl]
  go_wp2_with fail
  refine (fewAgain x0 la w4 w20 C20.out RA.out).mono ?_
  rintro e w21 ⟨y12, rfl, o21, b21⟩
  have Oy12 := Lib.hid (Row.of_owns o21); have C21 := Lib.hid (stepB C20.out b21)
  have S21 := Lib.hid b21
  clear o21 b21
  go_wp2_with fail
  refine (packHas_any y12 (fewT la) t.data.toList w21.heap.size w21 (Nat.le_refl _) Oy12.out t (tx_eta t)).mono ?_
  rintro e w22 ⟨rfl, b22⟩
  have C22 := Lib.hid (stepB C21.out b22)
  clear b22
  rw [← Hq.out]
  go_wp2_with fail
  refine (refHas_any x0 (fewT la) t.data.toList w22.heap.size w22 (Nat.le_refl _) (rowUp RA.out C22.out) t (tx_eta t)).mono ?_
  rintro e w23 ⟨rfl, b23⟩
  have C23 := Lib.hid (stepB C22.out b23)
  clear b23
  rw [← Hq.out]
  go_wp2_with fail
  refine (fewAgain x0 la w4 w23 C23.out RA.out).mono ?_
  rintro e w24 ⟨y13, rfl, o24, b24⟩
  have Oy13 := Lib.hid (Row.of_owns o24); have C24 := Lib.hid (stepB C23.out b24)
  have S24 := Lib.hid b24
  clear o24 b24
  go_wp2_with fail
  refine (fewAgain x1 lb w4 w24 C24.out RB.out).mono ?_
  rintro e w25 ⟨y14, rfl, o25, b25⟩
  have Oy14 := Lib.hid (Row.of_owns o25); have C25 := Lib.hid (stepB C24.out b25)
  have S25 := Lib.hid b25
  clear o25 b25
  go_wp2_with fail
  refine (packSame_any y13 y14 (fewT la) (fewT lb) w25.heap.size w25.heap.size w25 (Nat.le_refl _) (Nat.le_refl _) (rowUp Oy13.out S25.out) Oy14.out (by have := LA.out; omega) (by have := LB.out; omega)).mono ?_
  rintro e w26 ⟨rfl, b26⟩
  have C26 := Lib.hid (stepB C25.out b26)
  clear b26
  rw [← Hz.out]
  go_wp2_with fail
  refine (sameTexts_any x7 x8 (toSet (fewT la)) (toSet (fewT lb)) _ _ w26 (Nat.le_refl _) (Nat.le_refl _) (rowUp RX.out C26.out) (rowUp RY.out C26.out)).mono ?_
  rintro e w27 ⟨rfl, b27⟩
  have C27 := Lib.hid (stepB C26.out b27)
  clear b27
  rw [← Hz.out]
  go_wp2_with fail
  refine (works13_any w27).mono ?_
  rintro e w28 ⟨rfl, b28⟩
  have C28 := Lib.hid (stepB C27.out b28)
  clear b28
  go_wp2_with fail
  go_ret
  exact ⟨rfl, stepB BW.out C28.out⟩
set_option maxRecDepth 100000 in
theorem rowOfTx {H : Type} {enc : TypeId × Value → H} {P : Program} {w : World} {base : Nat} {spare : Nat → Bool} {held : Bool} {t e : TypeId} {v : Value} {d : DataW H} {p : List MemPlace}
    (ht : P.underlying t = some (.slice e)) (he : P.underlying e = some .string) (hc : P.cellsOf e = 1) (hok : ∃ a len cap, v = .slice a len cap) (h : DataW.Trod enc P w base spare held t v d p) :
    ∃ l : List Tx, Row w w.heap.size 1 v l.length (svt l) ∧ ∀ x ∈ l, x.length ≤ maxLen := by
  obtain ⟨fuel, hf⟩ := h
  obtain ⟨a0, len, cap, rfl⟩ := hok
  rcases Go.ChangeShapes.open_strings ht he hc hf with ⟨hcs, _⟩ | ⟨a, len', cap', zs, hcs, _, hl, hm, hz, hx, hcell, hwz⟩
  · simp [Value.cells] at hcs
    obtain ⟨rfl, rfl, rfl⟩ := hcs
    exact ⟨[], ⟨rfl, Nat.zero_le _, .inl ⟨rfl, rfl⟩⟩, fun n hn => by cases hn⟩
  · simp [Value.cells] at hcs
    obtain ⟨rfl, rfl, rfl⟩ := hcs
    have hzl : len ≤ zs.length := by split at hz <;> omega
    have hlen : (zs.take len).length = len := by rw [List.length_take]; omega
    refine ⟨(zs.take len).map (·.data.toList), ?_, fun x hxm => ?_⟩
    · have hl2 : ((zs.take len).map (·.data.toList)).length = len := by rw [List.length_map]; exact hlen
      refine ⟨by simp [svt], by rw [hl2]; omega, .inr ⟨a, cap, by rw [hl2], by rw [hl2]; exact hl, hm, ?_, ?_⟩⟩
      · rw [hl2]
        rcases Nat.eq_zero_or_pos len with h0 | h0
        · exact .inl h0
        · right
          have := World.block_lt_of_cell? w _ (hcell 0 (by omega))
          simpa [Addr.add] using this
      · intro j u hu
        unfold svt at hu
        rw [Lib.map_encStr, List.getElem?_map, List.getElem?_take] at hu
        split at hu
        · have hj : j < zs.length := by omega
          rw [hcell j hj, ← hu]
          simp [hj]
        · simp at hu
    · obtain ⟨y, hy, rfl⟩ := List.mem_map.1 hxm
      have := hwz y (List.mem_of_mem_take hy)
      rw [Array.length_toList]; exact this
set_option maxRecDepth 100000 in
theorem packTells_law {H : Type} {base : Nat} (enc : TypeId × Value → H) (W : World)
    (v0 : Value) (d0 : DataW H) (p0 : List MemPlace) (k0 : Value.okWide Try.prog W .any base 22 v0) (h0 : DataW.Trod enc Try.prog W 0 (fun _ => true) true 22 v0 d0 p0)
    (v1 : Value) (d1 : DataW H) (p1 : List MemPlace) (k1 : Value.okWide Try.prog W .any base 22 v1) (h1 : DataW.Trod enc Try.prog W 0 (fun _ => true) true 22 v1 d1 p1)
    (a2 : ByteArray) (w2 : a2.size ≤ maxLen) :
    Calls Try.prog 3 #[v0, v1, .string a2] W fun e w' => e = .returned (.bool true) ∧ Below W.heap.size W w' := by
  obtain ⟨la, r0, ha⟩ := rowOfTx Try.underlying22 Try.underlying9 (by kernel_rfl) (Go.WideShapes.okWide_slice Try.underlying22 k0) h0
  obtain ⟨lb, r1, hb⟩ := rowOfTx Try.underlying22 Try.underlying9 (by kernel_rfl) (Go.WideShapes.okWide_slice Try.underlying22 k1) h1
  exact packTells_walk v0 v1 la lb a2 W r0 r1 ha hb
end Go.Proofs.Ytbmaappambmhoaa
