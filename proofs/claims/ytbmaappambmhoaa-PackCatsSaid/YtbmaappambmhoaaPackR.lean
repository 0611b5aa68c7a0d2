/-
  PackCats.
-/
import Derived.Test.YtbmaappambmhoaaPackQ
namespace Go.Proofs.Ytbmaappambmhoaa
open Go.RowKit PK
set_option linter.unusedVariables false

theorem rowUpI {w0 w : World} {v : Value} {n : Nat} {xs : List Value} (r : Row w0 w0.heap.size 1 v n xs) (h : Below w0.heap.size w0 w) : Row w w.heap.size 1 v n xs := (r.below h).mono h.size

set_option maxHeartbeats 4000000 in
set_option maxRecDepth 100000 in
theorem packCats_walk (v0 v1 : Value) (la lb : List Tx) (k : Int) (hk : -9223372036854775808 ≤ k ∧ k ≤ 9223372036854775807) (w : World) (r0 : Row w w.heap.size 1 v0 la.length (svt la)) (r1 : Row w w.heap.size 1 v1 lb.length (svt lb)) (ha : ∀ x ∈ la, x.length ≤ maxLen) (hb : ∀ x ∈ lb, x.length ≤ maxLen) :
    Calls Try.prog 4 #[v0, v1, .int .i64 k] w (BoolB w true) := by
  have R0 := Lib.hid r0; have R1 := Lib.hid r1; have Ha := Lib.hid ha; have Hb := Lib.hid hb; have HK := Lib.hid hk
  have LA := Lib.hid (fewT_len la); have LB := Lib.hid (fewT_len lb)
  have EA : Hid (∀ x ∈ fewT la, x.length ≤ 1000) := Lib.hid fun x hx => Nat.le_trans (fewT_each la x hx) (by omega)
  have EB : Hid (∀ x ∈ fewT lb, x.length ≤ 1000) := Lib.hid fun x hx => Nat.le_trans (fewT_each lb x hx) (by omega)
  clear r0 r1 ha hb hk
  go_enter Try.func4, Try.ntmps4
  go_wp2_with fail
  refine (few_any v0 la w R0.out Ha.out).mono ?_
  rintro e w1 ⟨x0, rfl, o1, b1⟩
  have O1 := Lib.hid o1; have B1 := Lib.hid b1
  clear o1 b1
  go_wp2_with fail
  refine (few_any v1 lb w1 (rowUp R1.out B1.out) Hb.out).mono ?_
  rintro e w2 ⟨x1, rfl, o2, b2⟩
  have RA := Lib.hid (rowOfOwn O1.out b2); have RB := Lib.hid (Row.of_owns o2)
  have BW := Lib.hid (stepB B1.out b2)
  have C2 := Lib.hid (Below.refl w2.heap.size w2)
  clear o2 b2 O1 B1
  go_wp2_with fail
  refine (fewAgain x0 la w2 w2 C2.out RA.out).mono ?_
  rintro e w3 ⟨y0, rfl, o3, b3⟩
  have C3 := Lib.hid (stepB C2.out b3)
  have O3 := Lib.hid (Row.of_owns o3)
  clear o3 b3
  go_wp2_with fail
  refine (fewAgain x1 lb w2 w3 C3.out RB.out).mono ?_
  rintro e w4 ⟨y1, rfl, o4, b4⟩
  have C4 := Lib.hid (stepB C3.out b4)
  have O34 := Lib.hid (rowUp O3.out b4)
  have O4 := Lib.hid (Row.of_owns o4)
  clear o4 b4 O3
  go_wp2_with fail
  refine (packCat_any y0 y1 (fewT la) (fewT lb) k w4.heap.size w4.heap.size w4 (Nat.le_refl _) (Nat.le_refl _) O34.out O4.out (by have := LA.out; omega) (by have := LB.out; omega) EA.out EB.out HK.out).mono ?_
  rintro e w5 ⟨y2, rfl, o5, b5⟩
  have C5 := Lib.hid (stepB C4.out b5)
  have O5 := Lib.hid (Row.of_owns o5)
  clear o5 b5 O34 O4
  go_wp2_with fail
  refine (refCat13_any x0 x1 (fewT la) (fewT lb) k w5 (rowUp RA.out C5.out) (rowUp RB.out C5.out) (by have := LA.out; omega) (by have := LB.out; omega) EA.out EB.out HK.out).mono ?_
  rintro e w6 ⟨y3, rfl, o6, b6⟩
  have C6 := Lib.hid (stepB C5.out b6)
  have O56 := Lib.hid (rowUp O5.out b6)
  have O6 := Lib.hid (Row.of_owns o6)
  clear o6 b6 O5
  go_wp2_with fail
  refine (sameTexts_any y2 y3 (catL (fewT la) (fewT lb) k) (catL (fewT la) (fewT lb) k) _ _ w6 (Nat.le_refl _) (Nat.le_refl _) O56.out O6.out).mono ?_
  rintro e w7 ⟨rfl, b7⟩
  rw [decide_eq_true rfl]
  have C7 := Lib.hid (stepB C6.out b7)
  clear b7 O56 O6
  go_wp2_with fail
  refine (fewAgain x0 la w2 w7 C7.out RA.out).mono ?_
  rintro e w8 ⟨y4, rfl, o8, b8⟩
  have C8 := Lib.hid (stepB C7.out b8)
  have O8 := Lib.hid (Row.of_owns o8)
  clear o8 b8
  go_wp2_with fail
  refine (packHeads_any y4 (fewT la) w8.heap.size w8 (Nat.le_refl _) O8.out (by have := LA.out; omega) EA.out).mono ?_
  rintro e w9 ⟨y5, rfl, o9, b9⟩
  have C9 := Lib.hid (stepB C8.out b9)
  have O9 := Lib.hid (Row.of_owns o9)
  clear o9 b9 O8
  go_wp2_with fail
  refine (refHeads_any x0 (fewT la) w9.heap.size w9 (Nat.le_refl _) (rowUp RA.out C9.out) (by have := LA.out; omega) EA.out).mono ?_
  rintro e w10 ⟨y6, rfl, o10, b10⟩
  have C10 := Lib.hid (stepB C9.out b10)
  have O910 := Lib.hid (rowUpI O9.out b10)
  have O10 := Lib.hid (Row.of_owns o10)
  clear o10 b10 O9
  go_wp2_with fail
  refine (sameInts_any y5 y6 (toSetI (headsF (fewT la))) (toSetI (headsF (fewT la))) _ _ w10 (Nat.le_refl _) (Nat.le_refl _) O910.out O10.out).mono ?_
  rintro e w11 ⟨rfl, b11⟩
  rw [decide_eq_true rfl]
  have C11 := Lib.hid (stepB C10.out b11)
  clear b11
  go_wp2_with fail
  refine (works13_any w11).mono ?_
  rintro e w12 ⟨rfl, b12⟩
  have C12 := Lib.hid (stepB C11.out b12)
  clear b12
  go_wp2_with fail
  go_ret
  exact ⟨rfl, stepB BW.out C12.out⟩
theorem i64_of_wfP {a : Int} (h : (Lit.int .i64 a).wf = true) : -9223372036854775808 ≤ a ∧ a ≤ 9223372036854775807 := by
  simpa [Lit.wf, IntKind.min, IntKind.max, IntKind.signed, IntKind.bits] using h
set_option maxRecDepth 100000 in
theorem packCats_law {H : Type} {base : Nat} (enc : TypeId × Value → H) (W : World)
    (v0 : Value) (d0 : DataW H) (p0 : List MemPlace) (k0 : Value.okWide Try.prog W .any base 22 v0) (h0 : DataW.Trod enc Try.prog W 0 (fun _ => true) true 22 v0 d0 p0)
    (v1 : Value) (d1 : DataW H) (p1 : List MemPlace) (k1 : Value.okWide Try.prog W .any base 22 v1) (h1 : DataW.Trod enc Try.prog W 0 (fun _ => true) true 22 v1 d1 p1)
    (a2 : Int) (w2 : (Lit.int .i64 a2).wf = true) :
    Calls Try.prog 4 #[v0, v1, .int .i64 a2] W fun e w' => e = .returned (.bool true) ∧ Below W.heap.size W w' := by
  obtain ⟨la, r0, ha⟩ := rowOfTx Try.underlying22 Try.underlying9 (by kernel_rfl) (Go.WideShapes.okWide_slice Try.underlying22 k0) h0
  obtain ⟨lb, r1, hb⟩ := rowOfTx Try.underlying22 Try.underlying9 (by kernel_rfl) (Go.WideShapes.okWide_slice Try.underlying22 k1) h1
  exact packCats_walk v0 v1 la lb a2 (i64_of_wfP w2) W r0 r1 ha hb
end Go.Proofs.Ytbmaappambmhoaa
