/-
  The statement that any text is read as tokens as the document says: its walk.
-/
import Derived.Test.YteijndfacjgfbaaDoorLexU
import Derived.Deep.QuietTactic
import Derived.BigQuiet
namespace Go.Proofs.YteijndfacjgfbaaDoor
open Go.RowKit LX
set_option linter.unusedVariables false

/-- A row that the call owns: its block, and its cells. -/
theorem owns_cells {w : World} {base e size : Nat} {v : Value} {n : Nat} {xs : List Value} (h : w.ownsRow base e size v n xs) (hn : 0 < n) : ∃ g c, v = .slice (some ⟨g, 0, none⟩) n c ∧ n ≤ c ∧ c ≤ maxLen ∧ base ≤ g ∧ g < w.heap.size ∧ ∀ j u, xs[j]? = some u → w.cell? ⟨g, j, none⟩ = some u := by
  rcases h.2 with ⟨_, h0⟩ | ⟨g, c, cur, rfl, hb, hg, h1, h2, h3, h4⟩
  · omega
  · refine ⟨g, c, rfl, h1, h2, hb, (Array.getElem?_eq_some_iff.1 hg).1, fun j u hu => ?_⟩
    rw [cell_of_row w g j cur e (0, 0) hg]
    rw [← h4, List.getElem?_take] at hu
    split at hu
    · simpa using hu
    · cases hu
theorem toksC_at (l : List Tok) (k : Nat) (hk : k < l.length) (j : Nat) (hj : j < 4) : (toksC l)[k * 4 + j]? = (tokC l[k])[j]? := by
  induction l generalizing k with
  | nil => simp at hk
  | cons t r ih =>
    have e : toksC (t :: r) = tokC t ++ toksC r := rfl
    have e4 : (tokC t).length = 4 := rfl
    rw [e]
    cases k with
    | zero => rw [List.getElem?_append_left (by omega)]; simp
    | succ k =>
      rw [List.getElem?_append_right (by omega), e4, show (k + 1) * 4 + j - 4 = k * 4 + j from by omega]
      exact ih k (by simpa using hk)

set_option maxRecDepth 100000 in
set_option maxHeartbeats 1600000 in
theorem same_any (v1 v2 : Value) (l : List Tok) (w : World) (r1 : Row w w.heap.size 4 v1 l.length (toksC l)) (r2 : Row w w.heap.size 4 v2 l.length (toksC l)) :
    Calls Tryd.prog 12 #[v1, v2] w fun e w' => e = .returned (.int .i64 1) ∧ Below w.heap.size w w' := by
  obtain ⟨ao, c, rfl, hc1, hc2⟩ := r1.val
  obtain ⟨bo, d, rfl, hd1, hd2⟩ := r2.val
  have hl63 : l.length ≤ 9223372036854775807 := by unfold maxLen at hc2; omega
  have R1 := Lib.hid r1; have R2 := Lib.hid r2
  clear r1 r2
  go_enter Tryd.func12, Tryd.ntmps12
  go_wp2_with fail
  go_loopw [5] (fun i wr => ∃ k : Nat, k ≤ l.length ∧ i = .int .i64 k ∧ Below w.heap.size w wr) (fun i _ => l.length - (intOf i).toNat)
  case atStart => exact ⟨0, Nat.zero_le _, rfl, Below.refl _ _⟩
  case round =>
    obtain ⟨k, hk, rfl, hbel⟩ := hrel
    by_cases hlt : k < l.length
    · have a1 := R1.out.below hbel
      have a2 := R2.out.below hbel
      obtain ⟨b1, o1, rfl, hb1, _⟩ := a1.at (by rw [toksC_length]; omega)
      obtain ⟨b2, o2, rfl, hb2, _⟩ := a2.at (by rw [toksC_length]; omega)
      have c10 := a1.cell (k * 4 + 0) _ (toksC_at l k hlt 0 (by omega))
      have c11 := a1.cell (k * 4 + 1) _ (toksC_at l k hlt 1 (by omega))
      have c12 := a1.cell (k * 4 + 2) _ (toksC_at l k hlt 2 (by omega))
      have c13 := a1.cell (k * 4 + 3) _ (toksC_at l k hlt 3 (by omega))
      simp only [Nat.add_zero, ← Nat.add_assoc] at c10 c11 c12 c13
      have c20 := a2.cell (k * 4 + 0) _ (toksC_at l k hlt 0 (by omega))
      have c21 := a2.cell (k * 4 + 1) _ (toksC_at l k hlt 1 (by omega))
      have c22 := a2.cell (k * 4 + 2) _ (toksC_at l k hlt 2 (by omega))
      have c23 := a2.cell (k * 4 + 3) _ (toksC_at l k hlt 3 (by omega))
      simp only [Nat.add_zero, ← Nat.add_assoc] at c20 c21 c22 c23
      have hk0 : (k : Int) < (l.length : Int) := by omega
      have hk1 : (0 : Int) ≤ (k : Int) := by omega
      clear a1 a2
      generalize l[k] = t at *
      go_wp2_with fail
      go_region
      all_goals
        go_wp2_with fail
        go_roundw
        case rel => exact ⟨k + 1, hlt, by go_num, by first | exact hbel.drew | exact hbel⟩
        case measure => simp [intOf]; omega
    · obtain rfl : k = l.length := by omega
      go_wp2_with fail
      go_ret
      exact ⟨rfl, hbel⟩
theorem gKw4 : Tryd.prog.globalNamed "gramarye/name.keywords" = some 0 := by kernel_rfl
theorem gKw4Type : (Tryd.prog.globals[0]?).map (·.type) = some 110 := by kernel_rfl
theorem kw4_of {l : List (String × DataW Unit)} {W : World} (h : laidMetH Tryd.prog l W) (hl : l.filter (fun x => x.1 == "gramarye/name.keywords") = [("gramarye/name.keywords", .agg (kwT.map fun z => .lit (.string z)))]) : StrsIs W 0 kwT := by
  have h1 := h.filter (fun x => x.1 == "gramarye/name.keywords")
  rw [hl] at h1
  exact strsIs_of_head (rest := []) gKw4 gKw4Type Tryd.underlying110 Tryd.underlying9 (by kernel_rfl) (by kernel_rfl) h1
def shortS (s : ByteArray) : ByteArray := if 65536 < s.size then s.extract 0 65537 else s.extract 0 (min s.size 2000)
theorem shortS_le (s : ByteArray) : (shortS s).size ≤ maxLen := by
  unfold shortS
  split
  · rw [ByteArray.size_extract]; unfold maxLen; omega
  · rw [ByteArray.size_extract]; unfold maxLen; omega
set_option maxRecDepth 100000 in
theorem law04short_any (s : ByteArray) (w : World) (hs : s.size ≤ maxLen) :
    Calls Tryd.prog 9 #[.string s] w fun e w' => e = .returned (.string (shortS s)) ∧ w = w' := by
  unfold maxLen at hs
  by_cases h : 65536 < s.size
  · have HS : Hid (shortS s = s.extract 0 65537) := by show _ = _; unfold shortS; rw [if_pos h]
    have h' : (65536 : Int) < s.size := by omega
    have h2' : (65537 : Int) ≤ s.size := by omega
    clear h
    go_enter Tryd.func9, Tryd.ntmps9
    go_wp2_with fail
    go_ret
    exact ⟨by rw [HS.out]; rfl, rfl⟩
  · have HS : Hid (shortS s = s.extract 0 (min s.size 2000)) := by show _ = _; unfold shortS; rw [if_neg h]
    have h' : (s.size : Int) ≤ 65536 := by omega
    have h0 : (0 : Int) ≤ min (s.size : Int) 2000 := by omega
    have h1 : min (s.size : Int) 2000 ≤ (s.size : Int) := by omega
    have H2 : Hid ((min (s.size : Int) 2000).toNat = min s.size 2000) := by show _ = _; omega
    clear h
    go_enter Tryd.func9, Tryd.ntmps9
    go_wp2_with fail
    go_ret
    exact ⟨by rw [HS.out, H2.out]; rfl, rfl⟩
def exL : List Tok := [⟨2, ⟨#[97]⟩, 0, 0⟩, ⟨5, ⟨#[58]⟩, 0, 1⟩, ⟨3, ⟨#[66]⟩, 0, 3⟩, ⟨5, ⟨#[63]⟩, 0, 4⟩]
theorem exAll : allS ⟨#[97, 58, 32, 66, 63]⟩ = (exL, 5, 0) := by kernel_rfl
set_option maxRecDepth 100000 in
theorem law04works_any (w : World) (hkw : StrsIs w 0 kwT) (htab : Tab10 w) :
    Calls Tryd.prog 13 #[] w fun e w' => e = .returned (.bool true) ∧ Below w.heap.size w w' := by
  have h1 := lexAll_any ⟨#[97, 58, 32, 66, 63]⟩ w (by show 5 ≤ maxLen; unfold maxLen; omega) hkw htab
  rw [exAll] at h1
  have H1 := Lib.hid h1
  clear h1 hkw htab
  go_enter Tryd.func13, Tryd.ntmps13
  go_wp2_with fail
  refine H1.out.mono ?_
  rintro e w1 ⟨v, rfl, hown, hb⟩
  obtain ⟨g, c, rfl, hc1, hc2, hg1, hg2, hc⟩ := owns_cells hown (by decide)
  have c0 := hc 0 _ rfl; have c8 := hc 8 _ rfl; have c9 := hc 9 _ rfl; have c10 := hc 10 _ rfl; have c11 := hc 11 _ rfl; have c13 := hc 13 _ rfl
  clear hc hown H1
  go_wp2_with fail
  go_ret
  exact ⟨rfl, hb⟩
set_option maxRecDepth 100000 in
theorem lexAll_walk (s : ByteArray) (w : World) (hs : s.size ≤ maxLen) (hkw : StrsIs w 0 kwT) (htab : Tab10 w) :
    Calls Tryd.prog 3 #[.string s] w fun e w' => e = .returned (.bool true) ∧ Below w.heap.size w w' := by
  have h1 := law04short_any s w hs
  have hz := shortS_le s
  generalize shortS s = t at *
  have h2 := lexAll_any t w hz hkw htab
  have h3 := fun w' => refLexAll_any t w' hz
  have Hkw := Lib.hid hkw; have Htab := Lib.hid htab
  generalize allS t = r at *
  obtain ⟨l, n, e⟩ := r
  have H2 := Lib.hid h2; have H3 := Lib.hid h3
  clear h2 h3 hkw htab
  go_enter Tryd.func3, Tryd.ntmps3
  go_wp2_with fail
  refine h1.mono ?_
  rintro e' w' ⟨rfl, rfl⟩
  go_wp2_with fail
  refine H2.out.mono ?_
  rintro e' w1 ⟨v1, rfl, hown1, hb1⟩
  go_wp2_with fail
  refine (H3.out _).mono ?_
  rintro e' w2 ⟨v2, rfl, hown2, hb2⟩
  have hs1 := hb1.size; have hs2 := hb2.size
  have hb12 := hb1.trans (hb2.mono hs1)
  have r1 := ((Row.of_owns hown1).below hb2).mono hs2
  have r2 := Row.of_owns hown2
  clear hown1 hown2
  go_wp2_with fail
  refine (same_any v1 v2 l w2 r1 r2).mono ?_
  rintro e' w3 ⟨rfl, hb3⟩
  have hb13 := hb12.trans (hb3.mono hb12.size)
  go_wp2_with fail
  refine (law04works_any w3 (Hkw.out.below hb13 (Nat.le_refl _)) (Htab.out.below hb13 (Nat.le_refl _))).mono ?_
  rintro e' w4 ⟨rfl, hb4⟩
  go_wp2_with fail
  go_ret
  exact ⟨rfl, hb13.trans (hb4.mono hb13.size)⟩
theorem lexAll_law {H : Type} (enc : TypeId × Value → H) (W : World) (a0 : ByteArray) (w0 : a0.size ≤ maxLen) (hL : laidMetH Tryd.prog Rows.lexAllRow.laid W) :
    Calls Tryd.prog 3 #[.string a0] W fun e w' => e = .returned (.bool true) ∧ Below W.heap.size W w' :=
  lexAll_walk a0 W w0 (kw4_of hL (by rfl)) (tab10_of hL (by rfl))
end Go.Proofs.YteijndfacjgfbaaDoor
