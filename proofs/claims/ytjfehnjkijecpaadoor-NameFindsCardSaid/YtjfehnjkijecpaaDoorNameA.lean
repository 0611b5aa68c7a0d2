/-
  The statement that no name is a cap, and that what is fresh is not taken.
-/
import Derived.Test.YtjfehnjkijecpaaDoorNameL
import Derived.Test.YtjfehnjkijecpaaDoorNameU
import Derived.ChangeShapes
import Derived.SliceStrings
namespace Go.Proofs.YtjfehnjkijecpaaDoor
open Go.RowKit Go.Maps Go.WideMaps
set_option linter.unusedVariables false

theorem info_str' : (Tryd.prog.info? 9).map (fun i => (i.zero, i.size, i.bytes)) = some (some (.string ByteArray.empty), 1, 16) := by kernel_rfl
theorem sv_one (l : List ByteArray) : ∀ u ∈ sv l, u.oneCell' = true := by
  intro u hu; obtain ⟨b, _, rfl⟩ := List.mem_map.1 hu; rfl
set_option maxRecDepth 100000 in
theorem begins_any (t s : ByteArray) (w : World) (ht : t.size ≤ maxLen) (hs : s.size ≤ maxLen) :
    Calls Tryd.prog 30 #[.string t, .string s] w fun e w' => e = .returned (.bool (preB t s)) ∧ w = w' := by
  unfold maxLen at hs ht
  by_cases h : s.size ≤ t.size
  · have HP := Lib.hid (preB_eq t s h)
    go_enter Tryd.func30, Tryd.ntmps30
    go_wp2_with fail
    all_goals
      go_ret
      exact ⟨ret_bool HP.out.symm, rfl⟩
  · have HP := Lib.hid (preB_no t s h)
    go_enter Tryd.func30, Tryd.ntmps30
    go_wp2_with fail
    all_goals
      go_ret
      exact ⟨ret_bool HP.out.symm, rfl⟩
theorem cand_begins (s : ByteArray) (m : Nat) : preB (cand s m) s = true := by
  have h : s.size ≤ (cand s m).size := by unfold cand; split; exact Nat.le_refl _; rw [ByteArray.size_append]; omega
  rw [preB_eq _ _ h]
  have : ((cand s m).extract 0 s.size).toList = s.toList := by
    rw [ByteArray.toList_eq, ByteArray.data_extract, Array.toList_extract]
    have h2 := cand_list s m
    rw [ByteArray.toList_eq, ByteArray.toList_eq] at h2
    rw [h2, ByteArray.toList_eq]
    simp
  rw [this]
  simp
theorem notBoth (s : ByteArray) (h1 : nameB s = true) (h2 : letB s 65 = true) : False := by
  have hz := (nameB_size s h1).1
  unfold nameB letB at h1
  unfold letB at h2
  rw [Bool.and_eq_true, Bool.and_eq_true] at h1
  rw [Bool.and_eq_true] at h2
  have a := chAt97_first s (by omega) (List.all_eq_true.1 h1.1.2 0 (by simp; omega))
  have b := chAt65_first s (by omega) (List.all_eq_true.1 h2.2 0 (by simp; omega))
  omega

set_option maxRecDepth 100000 in
set_option maxHeartbeats 1600000 in
theorem nameApart_walk (s : ByteArray) (v : Value) (l : List ByteArray) (w : World) (hs : s.size ≤ maxLen) (hss : ∀ x ∈ l, x.size ≤ maxLen) (hr : Row w w.heap.size 1 v l.length (sv l)) (hkw : StrsIs w 0 kwT) (htab : Tab10 w) :
    Calls Tryd.prog 6 #[.string s, v] w fun e w' => e = .returned (.bool true) ∧ Below w.heap.size w w' := by
  obtain ⟨i0, hi, hz0, hz1, hz2⟩ := info_parts info_str'
  obtain ⟨bo, d, rfl, hd1, hd2⟩ := hr.val
  unfold maxLen at hd2
  have hst := hr.take (min l.length 100) (by omega)
  rw [sv_take] at hst
  have hsl : (l.take (min l.length 100)).length = min l.length 100 := by rw [List.length_take]; omega
  have hss' : ∀ x ∈ l.take (min l.length 100), x.size ≤ maxLen := fun x hx => hss x (List.mem_of_mem_take hx)
  have hm100 : min l.length 100 ≤ 100 := by omega
  have h7 := law02works_any w hkw htab
  have Hst := Lib.hid hst; have Hsl := Lib.hid hsl; have Hss := Lib.hid hss'
  have Hkw := Lib.hid hkw; have Htab := Lib.hid htab
  clear hst hsl hss' hss hr hkw htab
  generalize hN : l.take (min l.length 100) = N at *
  have HN := Lib.hid hN
  clear hN
  go_enter Tryd.func6, Tryd.ntmps6
  go_wp2_with fail
  refine h7.mono ?_
  rintro e wo ⟨rfl, hb0⟩
  have hs0 := hb0.size
  have hown := World.ownsRow_made (base := wo.heap.size) (e := 9) (size := 1) wo #[] 0 (Nat.le_refl _) (Nat.zero_le _) rfl
  have hrs : Row (wo.alloc (.cells #[] 9)) w.heap.size 1 (.slice bo (min l.length 100) d) (min l.length 100) (sv N) := (Hst.out.below hb0).below ((Below.refl _ wo).alloc hs0 _)
  have h0 : (0 : Int) ≤ min (l.length : Int) 100 := by omega
  have h1 : min (l.length : Int) 100 ≤ (d : Int) := by omega
  have hrs' : Row (wo.alloc (.cells #[] 9)) w.heap.size 1 (.slice bo (min (l.length : Int) 100).toNat d) (min l.length 100) (sv N) := by
    rw [show (min (l.length : Int) 100).toNat = min l.length 100 from by omega]; exact hrs
  have Hr := Lib.hid hrs'; clear hrs hrs'
  go_upto_region 4 with (at_builtin; refine wpList_append_row rfl (.tmp 8) (.tmp 13) 33 rfl wo.heap.size 9 i0 (.string ByteArray.empty) 1 16 Tryd.underlying33 hi hz0 hz1 hz2 rfl (by decide) _ 0 [] rfl hown w.heap.size _ (min l.length 100) (sv N) rfl Hr.out (sv_one N) (by unfold maxLen; omega) (by omega) (by simp) ?_; intro v' w1 hown1 hgrow)
  have hb1 : Below wo.heap.size wo w1 := ((Below.refl _ wo).alloc (Nat.le_refl _) _).grown hgrow (by simp) (fun k hk => by cases hk; exact Nat.le_refl _)
  have hb01 := hb0.trans (hb1.mono hs0)
  have hrow : Row w1 w1.heap.size 1 v' N.length (sv N) := by
    have := Row.of_owns hown1
    rw [Hsl.out]
    simpa using this
  have hNl : N.length ≤ 1000 := by rw [Hsl.out]; omega
  clear hown hown1 hgrow h7
  by_cases hs200 : s.size ≤ 200
  · have hi200 : (s.size : Int) ≤ 200 := by omega
    have hF := fresh_any s v' N w1 (by omega) hNl Hss.out hrow (Htab.out.below hb01 (Nat.le_refl _))
    go_wp2_with fail
    refine hF.mono ?_
    rintro e w2 ⟨⟨m, hm, rfl⟩, hb2⟩
    have hml := fresh_le s N m hm.1
    have hcs := cand_size s m (by omega)
    have hb02 := hb01.trans (hb2.mono hb01.size)
    have hname := name_any s w2 hs (Hkw.out.below hb02 (Nat.le_refl _))
    have hcap := cap_any s w2 hs
    have hfind := find_any (cand s m) v' N w1.heap.size w2 (by unfold maxLen; omega) (hrow.below hb2)
    rw [inL_not N (cand s m) hm.2] at hfind
    have hbeg := begins_any (cand s m) s w2 (by unfold maxLen; omega) hs
    rw [cand_begins] at hbeg
    have hnb := Lib.hid (notBoth s)
    generalize nameB s = b1 at *
    generalize letB s 65 = b2 at *
    clear hm hF
    go_wp2_with fail
    refine hname.mono ?_
    rintro e w3 ⟨rfl, rfl⟩
    cases b1
    · go_wp2_with fail
      refine hfind.mono ?_
      rintro e w3 ⟨rfl, rfl⟩
      go_wp2_with fail
      refine hbeg.mono ?_
      rintro e w3 ⟨rfl, rfl⟩
      go_wp2_with fail
      go_ret
      exact ⟨rfl, hb02⟩
    · cases b2
      · go_wp2_with fail
        refine hcap.mono ?_
        rintro e w3 ⟨rfl, rfl⟩
        go_wp2_with fail
        refine hfind.mono ?_
        rintro e w3 ⟨rfl, rfl⟩
        go_wp2_with fail
        refine hbeg.mono ?_
        rintro e w3 ⟨rfl, rfl⟩
        go_wp2_with fail
        go_ret
        exact ⟨rfl, hb02⟩
      · exact absurd rfl (fun h => hnb.out rfl h)
  · have hi200 : (200 : Int) < (s.size : Int) := by omega
    go_wp2_with fail
    go_ret
    exact ⟨rfl, hb01⟩
theorem rowOfTexts {H : Type} {enc : TypeId × Value → H} {P : Program} {w : World} {base : Nat} {spare : Nat → Bool} {held : Bool} {t e : TypeId} {v : Value} {d : DataW H} {p : List MemPlace}
    (ht : P.underlying t = some (.slice e)) (he : P.underlying e = some .string) (hc : P.cellsOf e = 1) (hok : ∃ a len cap, v = .slice a len cap) (h : DataW.Trod enc P w base spare held t v d p) :
    ∃ l : List ByteArray, Row w w.heap.size 1 v l.length (sv l) ∧ ∀ x ∈ l, x.size ≤ maxLen := by
  obtain ⟨fuel, hf⟩ := h
  obtain ⟨a0, len, cap, rfl⟩ := hok
  rcases Go.ChangeShapes.open_strings ht he hc hf with ⟨hcs, _⟩ | ⟨a, len', cap', zs, hcs, _, hl, hm, hz, hx, hcell, hwz⟩
  · simp [Value.cells] at hcs
    obtain ⟨rfl, rfl, rfl⟩ := hcs
    exact ⟨[], ⟨rfl, Nat.zero_le _, .inl ⟨rfl, rfl⟩⟩, fun n hn => by cases hn⟩
  · simp [Value.cells] at hcs
    obtain ⟨rfl, rfl, rfl⟩ := hcs
    have hzl : len ≤ zs.length := by split at hz <;> omega
    have hlen : (zs.take len).length = len := by rw [List.length_take]; omega
    refine ⟨zs.take len, ⟨by simp [sv], by rw [hlen]; omega, .inr ⟨a, cap, by rw [hlen], by rw [hlen]; exact hl, hm, ?_, ?_⟩⟩, fun x hxm => ?_⟩
    · rw [hlen]
      rcases Nat.eq_zero_or_pos len with h0 | h0
      · exact .inl h0
      · right
        have := World.block_lt_of_cell? w _ (hcell 0 (by omega))
        simpa [Addr.add] using this
    · intro j u hu
      unfold sv at hu
      rw [List.getElem?_map, List.getElem?_take] at hu
      split at hu
      · have hj : j < zs.length := by omega
        rw [hcell j hj, ← hu]
        simp [hj]
      · simp at hu
    · exact hwz x (List.mem_of_mem_take hxm)
theorem nameApart_law {H : Type} {base : Nat} (enc : TypeId × Value → H) (W : World) (a0 : ByteArray) (w0 : a0.size ≤ maxLen)
    (v1 : Value) (d1 : DataW H) (p1 : List MemPlace) (k1 : Value.okWide Tryd.prog W .any base 33 v1) (h1 : DataW.Trod enc Tryd.prog W 0 (fun _ => true) true 33 v1 d1 p1)
    (hL : laidMetH Tryd.prog Rows.nameApartRow.laid W) :
    Calls Tryd.prog 6 #[.string a0, v1] W fun e w' => e = .returned (.bool true) ∧ Below W.heap.size W w' := by
  obtain ⟨l, hr, hs⟩ := rowOfTexts Tryd.underlying33 Tryd.underlying9 (by kernel_rfl) (Go.WideShapes.okWide_slice Tryd.underlying33 k1) h1
  exact nameApart_walk a0 v1 l W w0 hs hr (kw2_of hL (by rfl)) (tab10_of hL (by rfl))
end Go.Proofs.YtjfehnjkijecpaaDoor
