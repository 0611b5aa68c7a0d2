/-
  The statements' walk of a trie (layer 18).
-/
import Derived.Test.YtbmaappambmhoaaTriU
import Derived.Test.YtbmaappambmhoaaTriA
import Derived.Test.YtbmaappambmhoaaTriO
import Derived.BigRegion
import Derived.Deep.RegionWith
import Derived.Deep.DeepCutAuto
namespace Go.Proofs.Ytbmaappambmhoaa
open Go.RowKit PK
set_option linter.unusedVariables false
set_option linter.unusedSimpArgs false

/-- At place i of A stand a tree's beginnings. -/
def SubP (A : List Tx) (i n : Nat) (p : Tx) (T : Tr n) : Prop := ∃ C D, A = C ++ (pres n p T ++ D) ∧ C.length = i
theorem subP_head {A : List Tx} {i n : Nat} {p : Tx} {T : Tr n} (h : SubP A i n p T) : A[i]? = some p := by
  obtain ⟨C, D, rfl, rfl⟩ := h
  rw [List.getElem?_append_right (Nat.le_refl _), Nat.sub_self]
  cases n <;> rfl
theorem subP_len {A : List Tx} {i n : Nat} {p : Tx} {T : Tr n} (h : SubP A i n p T) : i + tsize n T ≤ A.length := by
  obtain ⟨C, D, rfl, rfl⟩ := h
  rw [List.length_append, List.length_append, pres_len]; omega
theorem sizes_pres (n : Nat) (p : Tx) (ks : List (UInt8 × Tr n)) : (ks.flatMap fun q => pres n (p ++ [q.1]) q.2).length = sizes (tsize n) ks := by
  rw [List.length_flatMap]; simp only [pres_len, sizes]
theorem subP_kid {A : List Tx} {i n : Nat} {p : Tx} {ks : List (UInt8 × Tr n)} (h : SubP A i (n + 1) p ks) (pre post : List (UInt8 × Tr n)) (q : UInt8 × Tr n) (hk : ks = pre ++ q :: post) : SubP A (i + 1 + sizes (tsize n) pre) n (p ++ [q.1]) q.2 := by
  obtain ⟨C, D, rfl, rfl⟩ := h
  subst hk
  refine ⟨C ++ (p :: pre.flatMap fun q => pres n (p ++ [q.1]) q.2), (post.flatMap fun q => pres n (p ++ [q.1]) q.2) ++ D, ?_, ?_⟩
  · simp only [pres, List.flatMap_append, List.flatMap_cons, List.append_assoc, List.cons_append]
  · rw [List.length_append, List.length_cons, sizes_pres]; omega
theorem take_split {α : Type} (l : List α) (j : Nat) (hj : j < l.length) : l = l.take j ++ l[j] :: l.drop (j + 1) := by
  rw [List.getElem_cons_drop, List.take_append_drop]
theorem sizes_take {T : Type} (sz : T → Nat) (ks : List (UInt8 × T)) (j : Nat) (hj : j < ks.length) : sizes sz (ks.take (j + 1)) = sizes sz (ks.take j) + sz ks[j].2 := by
  rw [List.take_succ_eq_append_getElem hj, sizes_snoc]

set_option maxHeartbeats 4000000 in
set_option maxRecDepth 100000 in
theorem walk_leaf (K : Nat) (S : List (List Tx)) (N : List Nd) (A : List Tx) (v vs va : Value) (B i : Nat) (p : Tx) (x : Nat) (w : World) (hB : B ≤ w.heap.size) (hp : p.length = K) (h4 : K ≤ 4) (hN : N.length ≤ 20000) (hA : A.length ≤ 20000) (hS : S.length ≤ 100000)
    (hn : N[i]? = some ⟨(x : Nat), [], []⟩) (ha : A[i]? = some p) (hx : ((x : Nat) : Int) = whichI S p) (r : NR w B v N) (ra : Row w B 1 va A.length (svt A)) (rs : RR w B vs S) :
    Calls Try.prog 32 #[.agg #[.int .i64 K, v], vs, va, .int .i64 i, .int .i64 K] w fun e w' => e = .returned (.int .i64 ((i + 1 : Nat) : Int)) ∧ Below w.heap.size w w' := by
  obtain ⟨hi, hn2⟩ := List.getElem?_eq_some_iff.1 hn
  obtain ⟨hia, ha2⟩ := List.getElem?_eq_some_iff.1 ha
  obtain ⟨ao, c, rfl, hc1, hc2⟩ := r.val
  obtain ⟨aa, ca, rfl, hca1, hca2⟩ := ra.val
  obtain ⟨b, off, a1, c1, a2, c2, rfl, hb, e0, e1, e2, r1, r2, k1, k2, k3, k4⟩ := r.get i hi
  rw [hn2] at e0 e1 e2
  obtain ⟨ba, oa, rfl, hba, _⟩ := ra.at (by rw [svt_length]; omega)
  have e3 := ra.cell i _ (svt_at A i hia)
  rw [ha2] at e3
  have hbel := (Below.refl w.heap.size w).alloc (Nat.le_refl _) (.cells #[.int .i64 (K : Int), .slice (some ⟨b, off, none⟩) N.length c] 41)
  have hcl : ∀ a : Addr, a.block < w.heap.size → (w.alloc (.cells #[.int .i64 (K : Int), .slice (some ⟨b, off, none⟩) N.length c] 41)).cell? a = w.cell? a := fun a h => hbel.cell h
  have f0 := (hcl ⟨b, off + i * 3, none⟩ (by show b < _; omega)).trans e0
  have f1 := (hcl ⟨b, off + i * 3 + 1, none⟩ (by show b < _; omega)).trans e1
  have f2 := (hcl ⟨b, off + i * 3 + 2, none⟩ (by show b < _; omega)).trans e2
  have f3 := (hcl ⟨ba, oa + i, none⟩ (by show ba < _; omega)).trans e3
  have g1 : (w.alloc (.cells #[.int .i64 (K : Int), .slice (some ⟨b, off, none⟩) N.length c] 41)).cell? ⟨w.heap.size, 1, none⟩ = some (.slice (some ⟨b, off, none⟩) N.length c) := cell_new w _ _ 1 _ rfl
  have hsz : (w.alloc (.cells #[.int .i64 (K : Int), .slice (some ⟨b, off, none⟩) N.length c] 41)).heap.size = w.heap.size + 1 := by simp
  have Hbel := Lib.hid hbel; have Hsz := Lib.hid hsz
  have Hwh : Hid (∀ W, Below w.heap.size w W → Calls Try.prog 37 #[vs, .string ⟨p.toArray⟩] W fun e w' => e = .returned (.int .i64 ((x : Nat) : Int)) ∧ Below W.heap.size W w') := Lib.hid fun W hW => by
    rw [hx]; exact refWhich_any vs S p B W (Nat.le_trans hB hW.size) (rs.below (hW.mono hB)) hS
  have hii : (i : Int) < (N.length : Int) := by omega
  have hi0 : (0 : Int) ≤ (i : Int) := by omega
  have hia' : (i : Int) < (A.length : Int) := by omega
  have hps := tx_size p
  have hN63 : N.length ≤ 9223372036854775807 := by omega
  have hA63 : A.length ≤ 9223372036854775807 := by omega
  generalize (⟨p.toArray⟩ : ByteArray) = sb at *
  have hsk : sb.size = K := by omega
  have hi63 : i ≤ 20000 := by omega
  clear hn ha hx r ra rs hn2 ha2 r1 r2 k1 k2 k3 k4 e0 e1 e2 e3 hbel hcl hsz hps hp hc2 hca2 hN hA hS
  go_enter Try.func32, Try.ntmps32
  go_upto_region 3 with fail
  generalize w.alloc (.cells #[.int .i64 (K : Int), .slice (some ⟨b, off, none⟩) N.length c] 41) = W1 at *
  have hb1 : b < W1.heap.size := by have := Hsz.out; omega
  have hba1 : ba < W1.heap.size := by have := Hsz.out; omega
  have hw1 : w.heap.size < W1.heap.size := by have := Hsz.out; omega
  have B1 := (Below.refl W1.heap.size W1).alloc (Nat.le_refl _) (.cells #[.int .i64 ((x : Nat) : Int), .slice a1 0 c1, .slice a2 0 c2] 59)
  have j3 := (B1.cell (p := ⟨ba, oa + i, none⟩) hba1).trans f3
  have B0 := (Below.refl W1.heap.size W1).alloc (Nat.le_refl _) (.cells #[.int .i64 0, .slice none 0 0, .slice none 0 0] 59)
  have z0 := (B0.cell (p := ⟨b, off + i * 3, none⟩) hb1).trans f0
  have z1 := (B0.cell (p := ⟨b, off + i * 3 + 1, none⟩) hb1).trans f1
  have z2 := (B0.cell (p := ⟨b, off + i * 3 + 2, none⟩) hb1).trans f2
  have z3 := (B0.cell (p := ⟨ba, oa + i, none⟩) hba1).trans f3
  have z4 := (B0.cell (p := ⟨w.heap.size, 1, none⟩) hw1).trans g1
  have HB1 := Lib.hid B1
  clear B0 B1 hb1 hba1 hw1
  have Hnum := Lib.hid (And.intro hsk hi63)
  clear h4 hc1 hca1 hN63 hA63 hi63 hB hb hba hi hia hsk
  go_big_region
  have hn0 := cell_new W1 #[.int .i64 ((x : Nat) : Int), .slice a1 0 c1, .slice a2 0 c2] 59 0 _ rfl
  have hn1 := cell_new W1 #[.int .i64 ((x : Nat) : Int), .slice a1 0 c1, .slice a2 0 c2] 59 1 _ rfl
  have hn2 := cell_new W1 #[.int .i64 ((x : Nat) : Int), .slice a1 0 c1, .slice a2 0 c2] 59 2 _ rfl
  have hlt2 : W1.heap.size < (W1.alloc (.cells #[.int .i64 ((x : Nat) : Int), .slice a1 0 c1, .slice a2 0 c2] 59)).drew.heap.size := by simp
  have n0 : (W1.alloc (.cells #[.int .i64 ((x : Nat) : Int), .slice a1 0 c1, .slice a2 0 c2] 59)).drew.cell? ⟨W1.heap.size, 0, none⟩ = some (.int .i64 ((x : Nat) : Int)) := hn0
  have n1 : (W1.alloc (.cells #[.int .i64 ((x : Nat) : Int), .slice a1 0 c1, .slice a2 0 c2] 59)).drew.cell? ⟨W1.heap.size, 1, none⟩ = some (.slice a1 0 c1) := hn1
  have n2 : (W1.alloc (.cells #[.int .i64 ((x : Nat) : Int), .slice a1 0 c1, .slice a2 0 c2] 59)).drew.cell? ⟨W1.heap.size, 2, none⟩ = some (.slice a2 0 c2) := hn2
  have HBd : Hid (Below w.heap.size w (W1.alloc (.cells #[.int .i64 ((x : Nat) : Int), .slice a1 0 c1, .slice a2 0 c2] 59)).drew) := Lib.hid ((Hbel.out.trans (HB1.out.mono Hbel.out.size)).drew)
  clear hn0 hn1 hn2 z0 z1 z2 z3 z4 j3 f0 f1 f2 f3 g1 HB1
  generalize (W1.alloc (.cells #[.int .i64 ((x : Nat) : Int), .slice a1 0 c1, .slice a2 0 c2] 59)).drew = W2 at *
  have Hn : Hid (∀ W, Below W2.heap.size W2 W → W.cell? ⟨W1.heap.size, 0, none⟩ = some (.int .i64 ((x : Nat) : Int)) ∧ W.cell? ⟨W1.heap.size, 1, none⟩ = some (.slice a1 0 c1) ∧ W.cell? ⟨W1.heap.size, 2, none⟩ = some (.slice a2 0 c2)) := Lib.hid fun W hW =>
    ⟨(hW.cell (p := ⟨W1.heap.size, 0, none⟩) hlt2).trans n0, (hW.cell (p := ⟨W1.heap.size, 1, none⟩) hlt2).trans n1, (hW.cell (p := ⟨W1.heap.size, 2, none⟩) hlt2).trans n2⟩
  have Hwh2 : Hid (∀ W, Below W2.heap.size W2 W → Calls Try.prog 37 #[vs, .string sb] W fun e w' => e = .returned (.int .i64 ((x : Nat) : Int)) ∧ Below W2.heap.size W2 w') := Lib.hid fun W hW => (Hwh.out W (HBd.out.trans (hW.mono HBd.out.size))).mono fun e w' h => ⟨h.1, hW.trans (h.2.mono hW.size)⟩
  clear hii hi0 hia' hlt2
  obtain ⟨hsk, hi63⟩ := Hnum.out
  go_upto_region 5 with fail
  clear hsk hi63
  go_region_with (go_at_call 37; refine (Hwh2.out W2.drew (Below.refl _ W2).drew).mono ?_; rintro e w5 ⟨rfl, hb5⟩; obtain ⟨y0, y1, y2⟩ := Hn.out w5 hb5; have HB5 := Lib.hid hb5; clear hb5)
  all_goals
    obtain ⟨hsk, hi63⟩ := Hnum.out
    go_wp2_with fail
    go_ret
    exact ⟨by simp, HBd.out.trans (HB5.out.mono HBd.out.size)⟩
end Go.Proofs.Ytbmaappambmhoaa
