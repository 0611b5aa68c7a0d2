/-
  What a type points to, types, the chapter's example, and the statements on programs' names.
-/
import Derived.Test.YtleefjhgpjdihaaDoorWordI
namespace Go.Proofs.YtleefjhgpjdihaaDoor
open Go.RowKit
set_option linter.unusedVariables false

def pointsB (s : ByteArray) : Bool := preB s ⟨#[42]⟩ && isB (s.extract 1 s.size)
set_option maxRecDepth 100000 in
theorem points_any (s : ByteArray) (w : World) (hs : s.size ≤ maxLen) (hres : StrsIs w 0 resT) :
    Calls Tryd.prog 9 #[.string s] w fun e w' => e = .returned (.tuple #[.string (if pointsB s = true then s.extract 1 s.size else ⟨#[]⟩), .bool (pointsB s)]) ∧ w = w' := by
  have h1 := cut_any s ⟨#[42]⟩ w hs (by unfold maxLen; show 1 ≤ _; omega)
  have HR : Hid (pointsB s = (preB s ⟨#[42]⟩ && isB (s.extract 1 s.size))) := rfl
  rw [show (ByteArray.mk #[42]).size = 1 from rfl] at h1
  have h2 := is_any (s.extract 1 s.size) w (extract_le s _ _ hs) hres
  generalize preB s ⟨#[42]⟩ = a at *
  generalize isB (s.extract 1 s.size) = b at *
  generalize pointsB s = r at *
  generalize s.extract 1 s.size = t at *
  go_enter Tryd.func9, Tryd.ntmps9
  cases a
  · obtain rfl : r = false := HR.out
    go_wp2_with fail
    refine h1.mono ?_
    rintro e w' ⟨rfl, rfl⟩
    go_wp2_with fail
    go_ret2
    exact ⟨rfl, rfl⟩
  · obtain rfl : r = b := HR.out
    go_wp2_with fail
    refine h1.mono ?_
    rintro e w' ⟨rfl, rfl⟩
    go_wp2_with fail
    refine h2.mono ?_
    rintro e w' ⟨rfl, rfl⟩
    cases r
    all_goals
      go_wp2_with fail
      go_ret2
      exact ⟨rfl, rfl⟩
def typeB (s : ByteArray) : Bool := pointsB s || (s.toList == [105, 110, 116] || s.toList == [98, 111, 111, 108])
set_option maxRecDepth 100000 in
theorem type_any (s : ByteArray) (w : World) (hs : s.size ≤ maxLen) (hres : StrsIs w 0 resT) :
    Calls Tryd.prog 15 #[.string s] w fun e w' => e = .returned (.bool (typeB s)) ∧ w = w' := by
  have h1 := points_any s w hs hres
  have HT : Hid (typeB s = (pointsB s || (s.toList == [105, 110, 116] || s.toList == [98, 111, 111, 108]))) := rfl
  generalize (if pointsB s = true then s.extract 1 s.size else ⟨#[]⟩) = z at *
  generalize pointsB s = a at *
  go_enter Tryd.func15, Tryd.ntmps15
  go_wp2_with fail
  refine h1.mono ?_
  rintro e w' ⟨rfl, rfl⟩
  cases a
  · go_wp2_with fail
    all_goals
      go_ret
      exact ⟨ret_bool (by rw [HT.out]; simp [*]), rfl⟩
  · go_wp2_with fail
    go_ret
    exact ⟨ret_bool (by rw [HT.out]; rfl), rfl⟩
theorem ex1 : ruleB ⟨#[114, 117, 108, 101, 95, 101, 120, 112, 114]⟩ = true := by kernel_rfl
theorem ex2 : (ByteArray.mk #[114, 117, 108, 101, 95, 101, 120, 112, 114]).extract 5 9 = ⟨#[101, 120, 112, 114]⟩ := by kernel_rfl
theorem ex3 : nameB ⟨#[101, 120, 112, 114]⟩ = true := by kernel_rfl
theorem ex4 : isB ⟨#[120, 49]⟩ = true := by kernel_rfl
theorem ex5 : isB ⟨#[105, 102]⟩ = false := by kernel_rfl
theorem ex6 : typeB ⟨#[42, 116, 114, 101, 101]⟩ = true := by kernel_rfl
theorem ex7 : bs [114, 117, 108, 101, 95] ++ ⟨#[101, 120, 112, 114]⟩ = ⟨#[114, 117, 108, 101, 95, 101, 120, 112, 114]⟩ := by kernel_rfl
set_option maxRecDepth 100000 in
theorem law27works_any (w : World) (hkw : StrsIs w 1 kwT) (hres : StrsIs w 0 resT) :
    Calls Tryd.prog 17 #[] w fun e w' => e = .returned (.bool true) ∧ w = w' := by
  have hl : ∀ n : Nat, n ≤ 9 → n ≤ maxLen := fun n h => by unfold maxLen; omega
  have h1 := rule_any ⟨#[114, 117, 108, 101, 95, 101, 120, 112, 114]⟩ w (hl _ (by show 9 ≤ 9; omega)) hkw
  rw [show (ByteArray.mk #[114, 117, 108, 101, 95, 101, 120, 112, 114]).size = 9 from rfl, ex1, ex2, if_pos rfl] at h1
  have h2 := of_any ⟨#[101, 120, 112, 114]⟩ w (hl _ (by show 4 ≤ 9; omega)) hkw
  rw [ex3, ex7, if_pos rfl] at h2
  have h3 := is_any ⟨#[120, 49]⟩ w (hl _ (by show 2 ≤ 9; omega)) hres
  rw [ex4] at h3
  have h4 := is_any ⟨#[105, 102]⟩ w (hl _ (by show 2 ≤ 9; omega)) hres
  rw [ex5] at h4
  have h5 := type_any ⟨#[42, 116, 114, 101, 101]⟩ w (hl _ (by show 5 ≤ 9; omega)) hres
  rw [ex6] at h5
  go_enter Tryd.func17, Tryd.ntmps17
  go_wp2_with fail
  refine h1.mono ?_
  rintro e w' ⟨rfl, rfl⟩
  go_wp2_with fail
  refine h2.mono ?_
  rintro e w' ⟨rfl, rfl⟩
  go_wp2_with fail
  refine h3.mono ?_
  rintro e w' ⟨rfl, rfl⟩
  go_wp2_with fail
  refine h4.mono ?_
  rintro e w' ⟨rfl, rfl⟩
  go_wp2_with fail
  refine h5.mono ?_
  rintro e w' ⟨rfl, rfl⟩
  go_wp2_with fail
  go_ret
  exact ⟨rfl, rfl⟩
theorem gKw : Tryd.prog.globalNamed "gramarye/name.keywords" = some 1 := by kernel_rfl
theorem gRes : Tryd.prog.globalNamed "gramarye/word.reserved" = some 0 := by kernel_rfl
theorem gKwType : (Tryd.prog.globals[1]?).map (·.type) = some 77 := by kernel_rfl
theorem gResType : (Tryd.prog.globals[0]?).map (·.type) = some 44 := by kernel_rfl
theorem kw_of {l : List (String × DataW Unit)} {W : World} (h : laidMetH Tryd.prog l W) (hl : l.filter (fun x => x.1 == "gramarye/name.keywords") = [("gramarye/name.keywords", .agg (kwT.map fun z => .lit (.string z)))]) : StrsIs W 1 kwT := by
  have h1 := h.filter (fun x => x.1 == "gramarye/name.keywords")
  rw [hl] at h1
  exact strsIs_of_head (rest := []) gKw gKwType Tryd.underlying77 Tryd.underlying9 (by kernel_rfl) (by kernel_rfl) h1
theorem res_of {l : List (String × DataW Unit)} {W : World} (h : laidMetH Tryd.prog l W) (hl : l.filter (fun x => x.1 == "gramarye/word.reserved") = [("gramarye/word.reserved", .agg (resT.map fun z => .lit (.string z)))]) : StrsIs W 0 resT := by
  have h1 := h.filter (fun x => x.1 == "gramarye/word.reserved")
  rw [hl] at h1
  exact strsIs_of_head (rest := []) gRes gResType Tryd.underlying44 Tryd.underlying9 (by kernel_rfl) (by kernel_rfl) h1
set_option maxRecDepth 100000 in
theorem wordRules_walk (s : ByteArray) (w : World) (hs : s.size ≤ maxLen) (hkw : StrsIs w 1 kwT) (hres : StrsIs w 0 resT) :
    Calls Tryd.prog 4 #[.string s] w fun e w' => e = .returned (.bool true) ∧ w = w' := by
  have h1 := rule_any s w hs hkw
  have h2 := refRule_any s w hs
  have h3 := of_any s w hs hkw
  have h4 := refOf_any s w hs
  have h5 := law27works_any w hkw hres
  generalize (if ruleB s = true then s.extract 5 s.size else ⟨#[]⟩) = z at *
  generalize (if nameB s = true then bs [114, 117, 108, 101, 95] ++ s else bs []) = o at *
  generalize ruleB s = r at *
  go_enter Tryd.func4, Tryd.ntmps4
  go_wp2_with fail
  refine h1.mono ?_
  rintro e w' ⟨rfl, rfl⟩
  go_wp2_with fail
  refine h2.mono ?_
  rintro e w' ⟨rfl, rfl⟩
  go_wp2_with fail
  refine h3.mono ?_
  rintro e w' ⟨rfl, rfl⟩
  go_wp2_with fail
  refine h4.mono ?_
  rintro e w' ⟨rfl, rfl⟩
  go_wp2_with fail
  refine h5.mono ?_
  rintro e w' ⟨rfl, rfl⟩
  go_wp2_with fail
  go_ret
  exact ⟨rfl, rfl⟩
theorem wordRules_law {H : Type} (enc : TypeId × Value → H) (W : World) (a0 : ByteArray) (w0 : a0.size ≤ maxLen) (hL : laidMetH Tryd.prog Rows.wordRulesRow.laid W) :
    Calls Tryd.prog 4 #[.string a0] W fun e w' => e = .returned (.bool true) ∧ Below W.heap.size W w' :=
  (wordRules_walk a0 W w0 (kw_of hL (by rfl)) (res_of hL (by rfl))).mono fun e w' h => ⟨h.1, h.2 ▸ Below.refl _ _⟩
end Go.Proofs.YtleefjhgpjdihaaDoor
