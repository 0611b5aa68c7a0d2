/-
  TrieMakes: its walk.
-/
import Derived.Test.YtbmaappambmhoaaTriW
import Derived.Test.YtbmaappambmhoaaTriX
import Derived.Test.YtbmaappambmhoaaTriC
import Derived.Test.YtbmaappambmhoaaTriD
import Derived.Test.YtbmaappambmhoaaTriE
namespace Go.Proofs.Ytbmaappambmhoaa
open Go.RowKit PK
set_option linter.unusedVariables false
set_option linter.unusedSimpArgs false

theorem few18L_idem (l : List Tx) : few18L (few18L l) = few18L l := by
  unfold few18L
  rw [← List.map_take, List.map_map, List.take_take, Nat.min_self]
  apply List.map_congr_left
  intro x _
  show (x.take 5).take 5 = x.take 5
  rw [List.take_take, Nat.min_self]
theorem few18S_idem (S : List (List Tx)) : few18S (few18S S) = few18S S := by
  unfold few18S
  rw [← List.map_take, List.map_map, List.take_take, Nat.min_self]
  apply List.map_congr_left
  intro x _
  exact few18L_idem x
theorem few18S_lim (S : List (List Tx)) : (few18S S).length ≤ 5 ∧ (∀ l ∈ few18S S, l.length ≤ 12) ∧ ∀ l ∈ few18S S, ∀ x ∈ l, x.length ≤ 5 := by
  unfold few18S few18L
  refine ⟨by rw [List.length_map, List.length_take]; omega, fun l hl => ?_, fun l hl x hx => ?_⟩
  · obtain ⟨m, _, rfl⟩ := List.mem_map.1 hl
    rw [List.length_map, List.length_take]; omega
  · obtain ⟨m, _, rfl⟩ := List.mem_map.1 hl
    obtain ⟨y, _, rfl⟩ := List.mem_map.1 hx
    rw [List.length_take]; omega
theorem which_of (S : List (List Tx)) (t : Tx) (h : t ∈ S.flatten) : ∃ x : Nat, x < S.length ∧ whichI S t = (x : Int) := by
  obtain ⟨l, hl, ht⟩ := List.mem_flatten.1 h
  have h1 : S.findIdx (fun l => decide (t ∈ l)) < S.length := List.findIdx_lt_length_of_exists ⟨l, hl, by simpa using ht⟩
  exact ⟨_, h1, by unfold whichI; rw [if_pos h1]⟩
theorem errI_zero {k : Int} {S : List (List Tx)} (h : errI k S = 0) : ∃ K : Nat, k = (K : Int) ∧ 1 ≤ K ∧ K ≤ 4 ∧ badS K S = false := by
  unfold errI at h
  by_cases h1 : k < 1 ∨ 4 < k
  · rw [if_pos h1] at h; cases h
  · rw [if_neg h1] at h
    obtain ⟨K, hK⟩ : ∃ K : Nat, k = (K : Int) := ⟨k.toNat, by omega⟩
    subst hK
    refine ⟨K, rfl, by omega, by omega, ?_⟩
    cases hb : badS K S with
    | false => rfl
    | true => rw [hb, if_pos rfl] at h; cases h
theorem prefS_mem (S : List (List Tx)) (z : Tx) : z ∈ prefS S ↔ ∃ t ∈ S.flatten, ∃ m, m < t.length ∧ z = t.take (m + 1) := by
  unfold prefS prefL prefs
  simp only [List.mem_flatMap, List.mem_map, List.mem_range, List.mem_flatten]
  constructor
  · rintro ⟨l, hl, t, ht, m, hm, rfl⟩; exact ⟨t, ⟨l, hl, ht⟩, m, hm, rfl⟩
  · rintro ⟨t, ⟨l, hl, ht⟩, m, hm, rfl⟩; exact ⟨l, hl, t, ht, m, hm, rfl⟩
theorem trie_math (K : Nat) (S : List (List Tx)) (h1 : 1 ≤ K) (h4 : K ≤ 4) (hb : badS K S = false) (hl : S.length ≤ 1000) (ht : S.flatten.length ≤ 4000) :
    Up K (mkT K (entS S)) ∧ LeafOK (whichI S) K [] (mkT K (entS S)) ∧ pres K [] (mkT K (entS S)) = toSet ([] :: prefS S) ∧ tsize K (mkT K (entS S)) ≤ 20000 := by
  have hlen : ∀ t ∈ S.flatten, t.length = K := fun t ht => by
    rw [← badS_flat, List.any_eq_false] at hb
    have := hb t ht
    simp only [Bool.not_eq_true, Bool.not_eq_false', beq_iff_eq] at this
    exact_mod_cast this
  have hent : ∀ e ∈ entS S, e.1 ∈ S.flatten ∧ e.2 < 20000 ∧ ((e.2 : Nat) : Int) = whichI S e.1 := fun e he => by
    unfold entS at he
    obtain ⟨t, ht, rfl⟩ := List.mem_map.1 he
    rw [toSet_mem] at ht
    obtain ⟨x, hx, hw⟩ := which_of S t ht
    refine ⟨ht, ?_, ?_⟩
    · show (whichI S t).toNat < 20000
      rw [hw, Int.toNat_natCast]; omega
    · show (((whichI S t).toNat : Nat) : Int) = whichI S t
      rw [hw, Int.toNat_natCast]
  have hK0 : K = 0 → entS S ≠ [] := fun h => by omega
  have hup := up_mk K (entS S) (fun e he => ⟨hlen _ (hent e he).1, (hent e he).2.1⟩) (by
    unfold entS
    rw [List.pairwise_map]; exact toSet_set _) hK0
  refine ⟨hup, leafOK_mk (whichI S) K [] (entS S) (fun e he => ⟨hlen _ (hent e he).1, (hent e he).2.2⟩) hK0, ?_, ?_⟩
  · refine set_ext (pres_set K [] _ hup) (toSet_set _) fun z => ?_
    rw [pres_mem K [] (entS S) (fun e he => hlen _ (hent e he).1) z, toSet_mem, List.mem_cons, prefS_mem]
    constructor
    · rintro (hz | ⟨e, he, m, hm1, hm2, rfl⟩)
      · exact .inl hz
      · have h5 := hlen _ (hent e he).1
        exact .inr ⟨e.1, (hent e he).1, m - 1, by omega, by rw [List.nil_append]; congr 1; omega⟩
    · rintro (hz | ⟨t, ht, m, hm, rfl⟩)
      · exact .inl hz
      · have h5 := hlen t ht
        exact .inr ⟨(t, (whichI S t).toNat), List.mem_map.2 ⟨t, by rw [toSet_mem]; exact ht, rfl⟩, m + 1, by omega, by omega, by rw [List.nil_append]⟩
  · have h5 := tsize_mk K (entS S)
    have h6 := entS_len S
    have h7 : K * (entS S).length ≤ 4 * 4000 := Nat.mul_le_mul h4 (Nat.le_trans h6 ht)
    omega
theorem flat_lim (S : List (List Tx)) : (few18S S).flatten.length ≤ 60 := by
  obtain ⟨h1, h2, _⟩ := few18S_lim S
  have h3 := flat_le (few18S S) 12 h2
  have h4 : (few18S S).length * 12 ≤ 5 * 12 := Nat.mul_le_mul_right 12 h1
  omega
theorem i64_of_wfT {a : Int} (h : (Lit.int .i64 a).wf = true) : -9223372036854775808 ≤ a ∧ a ≤ 9223372036854775807 := by
  simpa [Lit.wf, IntKind.min, IntKind.max, IntKind.signed, IntKind.bits] using h

set_option maxHeartbeats 4000000 in
set_option maxRecDepth 100000 in
theorem trieMakes_walk (k : Int) (v : Value) (S : List (List Tx)) (w : World) (r : RR w w.heap.size v S) (hx : ∀ l ∈ S, ∀ x ∈ l, x.length ≤ maxLen) (hk : -9223372036854775808 ≤ k ∧ k ≤ 9223372036854775807) :
    Calls Try.prog 6 #[.int .i64 k, v] w (BoolB w true) := by
  have H1 := Lib.hid (few18_any v S w r hx)
  obtain ⟨l1, l2, l3⟩ := few18S_lim S
  have l4 := flat_lim S
  have hid := few18S_idem S
  generalize few18S S = G at *
  have HL := Lib.hid (And.intro l1 (And.intro l2 (And.intro l3 l4)))
  have Hid' := Lib.hid hid
  clear r hx l1 l2 l3 l4 hid
  go_enter Try.func6, Try.ntmps6
  go_wp2_with fail
  refine (H1.out).mono ?_
  rintro e w1 ⟨v1, rfl, r1, b1⟩
  have H2 := Lib.hid (few18_any v1 G w1 r1 (fun l hl x hx => by have := HL.out.2.2.1 l hl x hx; unfold maxLen; omega))
  rw [Hid'.out] at H2
  have Hr1 := Lib.hid r1; have Hb1 := Lib.hid b1
  clear r1 b1 H1
  go_wp2_with fail
  refine (H2.out).mono ?_
  rintro e w2 ⟨v2, rfl, r2, b2⟩
  have H3 := Lib.hid (triMake_any k v2 G w2.heap.size w2 (Nat.le_refl _) r2 (by have := HL.out.1; omega) (fun l hl => by have := HL.out.2.1 l hl; omega) (fun l hl x hx => by have := HL.out.2.2.1 l hl x hx; omega) (by have := HL.out.2.2.2; omega))
  have Hb2 := Lib.hid b2
  clear r2 b2 H2
  go_wp2_with fail
  refine (H3.out).mono ?_
  rintro e w3 hpost
  have Hpost := Lib.hid hpost
  have hb3 := hpost.1
  have HB3 := Lib.hid (Hb1.out.trans ((Hb2.out.trans (hb3.mono Hb2.out.size)).mono Hb1.out.size))
  have HB13 := Lib.hid (Hb2.out.trans (hb3.mono Hb2.out.size))
  clear hpost hb3 H3
  by_cases hE : errI k G = 0
  · obtain ⟨_, vo, rfl, hnr⟩ := Hpost.out.yes hE
    obtain ⟨K, hK, hK1, hK4, hbad⟩ := errI_zero hE
    subst hK
    rw [Int.toNat_natCast] at hnr
    obtain ⟨m1, m2, m3, m4⟩ := trie_math K G hK1 hK4 hbad (by have := HL.out.1; omega) (by have := HL.out.2.2.2; omega)
    obtain ⟨ao, c, rfl, hc1, hc2⟩ := hnr.val
    have hNl : (flat K 0 (mkT K (entS G))).length = tsize K (mkT K (entS G)) := flatT_len K 0 _
    have hAl : (pres K [] (mkT K (entS G))).length = tsize K (mkT K (entS G)) := pres_len K [] _
    have hmay := may_flat K _ hK1 hK4 m1 m4
    have hsn := sub_all K (mkT K (entS G))
    have hsp : SubP (pres K [] (mkT K (entS G))) 0 K [] (mkT K (entS G)) := ⟨[], [], by simp, rfl⟩
    rw [hNl] at hnr hc1 ⊢
    generalize flat K 0 (mkT K (entS G)) = N at *
    rw [m3] at hAl hsp
    generalize hA : toSet ([] :: prefS G) = A at *
    have HA := Lib.hid hA
    clear hA
    obtain ⟨sz, hsz⟩ : ∃ sz, sz = tsize K (mkT K (entS G)) := ⟨_, rfl⟩
    rw [← hsz] at hNl hAl m4 hc1 hnr ⊢
    have hb4 : Below w3.heap.size w3 (w3.alloc (.cells #[.int .i64 (K : Int), .slice ao sz c] 41)) := (Below.refl _ w3).alloc (Nat.le_refl _) _
    have hs4 : (w3.alloc (.cells #[.int .i64 (K : Int), .slice ao sz c] 41)).heap.size = w3.heap.size + 1 := by simp
    have hg0 : (w3.alloc (.cells #[.int .i64 (K : Int), .slice ao sz c] 41)).cell? ⟨w3.heap.size, 0, none⟩ = some (.int .i64 (K : Int)) := cell_new w3 _ _ 0 _ rfl
    have hg1 : (w3.alloc (.cells #[.int .i64 (K : Int), .slice ao sz c] 41)).cell? ⟨w3.heap.size, 1, none⟩ = some (.slice ao sz c) := cell_new w3 _ _ 1 _ rfl
    have Hb4 := Lib.hid hb4
    have HG : Hid (∀ W, Below (w3.alloc (.cells #[.int .i64 (K : Int), .slice ao sz c] 41)).heap.size (w3.alloc (.cells #[.int .i64 (K : Int), .slice ao sz c] 41)) W → W.cell? ⟨w3.heap.size, 0, none⟩ = some (.int .i64 (K : Int)) ∧ W.cell? ⟨w3.heap.size, 1, none⟩ = some (.slice ao sz c) ∧ NR W w3.heap.size (.slice ao sz c) N ∧ w3.heap.size ≤ W.heap.size ∧ RR W w1.heap.size v1 G ∧ w1.heap.size ≤ W.heap.size) := Lib.hid fun W hW =>
      have hbw := hb4.trans (hW.mono hb4.size)
      ⟨(hW.cell (p := ⟨w3.heap.size, 0, none⟩) (by show w3.heap.size < _; rw [hs4]; omega)).trans hg0, (hW.cell (p := ⟨w3.heap.size, 1, none⟩) (by show w3.heap.size < _; rw [hs4]; omega)).trans hg1, hnr.below hbw, hbw.size, Hr1.out.below (HB13.out.trans (hbw.mono HB13.out.size)), Nat.le_trans HB13.out.size hbw.size⟩
    have HE := Lib.hid hE
    have Hm : Hid (tsize K (mkT K (entS G)) = sz) := Lib.hid hsz.symm
    have Hmath := Lib.hid (And.intro m1 (And.intro m2 (And.intro hsn hsp)))
    have Hnum := Lib.hid (And.intro hK1 (And.intro hK4 (And.intro hbad (And.intro m4 (And.intro hNl hAl)))))
    have Hmay := Lib.hid hmay
    have hszi : (sz : Int) ≤ 9223372036854775807 := by omega
    clear hE hnr hK1 hK4 hbad m1 m2 m3 m4 hc1 hc2 hNl hAl hmay hsn hsp hsz hb4 hs4 hg0 hg1 hk
    go_upto_region 3 with fail
    generalize w3.alloc (.cells #[.int .i64 (K : Int), .slice ao sz c] 41) = w4 at *
    obtain ⟨c0, c1, n4, z4, r4, y4⟩ := HG.out w4 (Below.refl _ _)
    have H5 := Lib.hid (refErr_any (K : Int) v1 G w1.heap.size w4 y4 r4 (by have := HL.out.1; omega) (fun l hl => by have := HL.out.2.1 l hl; omega) (fun l hl x hx => by have := HL.out.2.2.1 l hl x hx; omega))
    rw [HE.out] at H5
    clear c0 c1 n4 z4 r4 y4
    go_wp2_with fail
    refine (H5.out).mono ?_
    rintro e w5 ⟨rfl, b5⟩
    have Hb5 := Lib.hid b5
    obtain ⟨c0, c1, n5, z5, r5, y5⟩ := HG.out w5 b5
    have H6 := Lib.hid (refPrefixes_any v1 G w1.heap.size w5 y5 r5 (by have := HL.out.1; omega) (fun l hl => by have := HL.out.2.1 l hl; omega) (fun l hl x hx => by have := HL.out.2.2.1 l hl x hx; omega))
    clear c0 c1 n5 z5 r5 y5 b5 H5
    go_wp2_with fail
    refine (H6.out).mono ?_
    rintro e w6 ⟨v6, rfl, own6, b6⟩
    rw [HA.out] at own6
    obtain ⟨hK1, hK4, hbad, m4, hNl, hAl⟩ := Hnum.out
    have hB6 := Hb5.out.trans (b6.mono Hb5.out.size)
    obtain ⟨c0, c1, n6, z6, r6, y6⟩ := HG.out w6 hB6
    have hwalk := walk_any K G N A (.slice ao sz c) v1 v6 w6.heap.size hK4 (by omega) (by omega) (by have := HL.out.1; omega) K 0 [] (mkT K (entS G)) w6 (Nat.zero_add K) Hmath.out.2.2.1 Hmath.out.2.2.2 Hmath.out.2.1 (Nat.le_refl _) (n6.mono z6) (Row.of_owns own6) (r6.mono y6)
    rw [Hm.out, Nat.zero_add] at hwalk
    have Hwalk : Hid (Calls Try.prog 32 #[.agg #[.int .i64 (K : Int), .slice ao sz c], v1, v6, .int .i64 0, .int .i64 (K : Int)] w6 fun e w' => e = .returned (.int .i64 (sz : Int)) ∧ Below w6.heap.size w6 w') := Lib.hid hwalk
    have HB6 := Lib.hid hB6
    have HMay : Hid (∀ W, Below w4.heap.size w4 W → Calls Try.prog 33 #[.agg #[.int .i64 (K : Int), .slice ao sz c]] W (BoolB W true)) := Lib.hid fun W hW => by
      obtain ⟨_, _, n, z, _, _⟩ := HG.out W hW
      have h := triMay_any (.slice ao sz c) N (K : Int) w3.heap.size W z n (by omega)
      rw [Hmay.out] at h
      exact h
    obtain ⟨a6, c6, rfl, hc6, hc6'⟩ := owns_valP own6
    rw [hAl] at Hwalk ⊢
    have hszm : sz ≤ 20000 := m4
    clear hK1 hK4 hbad m4 hNl hAl own6 n6 z6 r6 y6 hwalk hB6 b6 hc6 hc6' H6
    go_wp2_with fail
    refine (Hwalk.out).mono ?_
    rintro e w7 ⟨rfl, b7⟩
    have HB7 := Lib.hid (HB6.out.trans (b7.mono HB6.out.size))
    clear c0 c1
    obtain ⟨c0, c1, n7, z7, r7, y7⟩ := HG.out w7 HB7.out
    have Hmy := Lib.hid (HMay.out w7 HB7.out)
    clear n7 z7 r7 y7 b7 Hwalk
    go_wp2_with fail
    refine (Hmy.out).mono ?_
    rintro e w8 ⟨rfl, b8⟩
    have HB8 := Lib.hid (HB7.out.trans (b8.mono HB7.out.size))
    have Hw := Lib.hid (works18_any w8)
    clear b8 Hmy
    go_wp2_with fail
    refine (Hw.out).mono ?_
    rintro e w9 ⟨rfl, b9⟩
    have HB9 := Lib.hid (HB8.out.trans (b9.mono HB8.out.size))
    clear b9 Hw
    go_wp2_with fail
    go_ret
    have q1 := HB3.out.trans (Hb4.out.mono HB3.out.size)
    exact ⟨rfl, q1.trans (HB9.out.mono q1.size)⟩
  · obtain ⟨_, rfl⟩ := Hpost.out.no hE
    have hb4 : Below w3.heap.size w3 (w3.alloc (.cells #[.int .i64 0, .slice none 0 0] 41)) := (Below.refl _ w3).alloc (Nat.le_refl _) _
    have hs4 : (w3.alloc (.cells #[.int .i64 0, .slice none 0 0] 41)).heap.size = w3.heap.size + 1 := by simp
    have hg1 : (w3.alloc (.cells #[.int .i64 0, .slice none 0 0] 41)).cell? ⟨w3.heap.size, 1, none⟩ = some (.slice none 0 0) := cell_new w3 _ _ 1 _ rfl
    have Hb4 := Lib.hid hb4; have Hs4 := Lib.hid hs4; have Hg1 := Lib.hid hg1
    have hr4 := Hr1.out.below (HB13.out.trans (hb4.mono HB13.out.size))
    have hy4 := Nat.le_trans HB13.out.size hb4.size
    have H5 := Lib.hid (refErr_any k v1 G w1.heap.size _ hy4 hr4 (by have := HL.out.1; omega) (fun l hl => by have := HL.out.2.1 l hl; omega) (fun l hl x hx => by have := HL.out.2.2.1 l hl x hx; omega))
    clear hb4 hs4 hg1 hr4 hy4 Hpost
    generalize errI k G = E at *
    go_upto_region 3 with fail
    generalize w3.alloc (.cells #[.int .i64 0, .slice none 0 0] 41) = w4 at *
    go_wp2_with fail
    refine (H5.out).mono ?_
    rintro e w5 ⟨rfl, b5⟩
    have c1 := (b5.cell (p := ⟨w3.heap.size, 1, none⟩) (by have := Hs4.out; show w3.heap.size < _; omega)).trans Hg1.out
    have Hb5 := Lib.hid b5
    have Hw := Lib.hid (works18_any w5)
    clear b5 H5
    go_wp2_with fail
    refine (Hw.out).mono ?_
    rintro e w6 ⟨rfl, b6⟩
    have Hb6 := Lib.hid b6
    clear b6
    go_wp2_with fail
    go_ret
    have q1 := HB3.out.trans (Hb4.out.mono HB3.out.size)
    have q2 := q1.trans (Hb5.out.mono q1.size)
    exact ⟨rfl, q2.trans (Hb6.out.mono q2.size)⟩
set_option maxRecDepth 100000 in
theorem trieMakes_law {H : Type} {base : Nat} (enc : TypeId × Value → H) (W : World)
    (a0 : Int) (w0 : (Lit.int .i64 a0).wf = true)
    (v1 : Value) (d1 : DataW H) (p1 : List MemPlace) (k1 : Value.okWide Try.prog W .any base 37 v1) (h1 : DataW.Trod enc Try.prog W 0 (fun _ => true) true 37 v1 d1 p1) :
    Calls Try.prog 6 #[.int .i64 a0, v1] W fun e w' => e = .returned (.bool true) ∧ Below W.heap.size W w' := by
  obtain ⟨S, r, hx⟩ := rrOf Try.underlying37 Try.underlying22 Try.underlying9 (by kernel_rfl) (by kernel_rfl) (Go.WideShapes.okWide_slice Try.underlying37 k1) h1
  exact trieMakes_walk a0 v1 S W r hx (i64_of_wfT w0)
end Go.Proofs.Ytbmaappambmhoaa
