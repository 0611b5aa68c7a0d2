/-
  The statement on finding, on what stands twice and on what is fresh: the program's answers are the document's.
-/
import Derived.Test.YtjfehnjkijecpaaDoorNameA
namespace Go.Proofs.YtjfehnjkijecpaaDoor
open Go.RowKit Go.Maps Go.WideMaps
set_option linter.unusedVariables false

section
variable {P : Program} {w : World}
theorem wpList_wanted {ops : Array Oper} {rest : List Oper} {o : Oper} {a : Act} {Q : Exit → Act → World → Prop} (hw : Region.wanted o (yielded ops a.tmps) = true)
    (h : ∀ K : Act → World → Prop, (∀ a w, wpList P ops Q rest a w → K a w) → o.wp P a w K Q) : wpList P ops Q (o :: rest) a w :=
  wpList_step fun K hK => by rw [if_pos hw]; exact h K hK
/-- 'wpList_append_row' at an operation that stands under a guard, which holds. -/
theorem wpList_append_row_g {ops : Array Oper} {rest : List Oper} {o : Oper} {a : Act} {Q : Exit → Act → World → Prop} (hw : Region.wanted o (yielded ops a.tmps) = true) (s x : Operand) (t : TypeId)
    (ho : o.op = .call { callee := .builtin .append, args := #[s, x], argTypes := #[t, t] })
    (base : Nat) (e : TypeId) (i : TypeInfo) (z : Value) (size bytes : Nat) (ht : P.underlying t = some (.slice e)) (hi : P.info? e = some i) (hz : i.zero = some z)
    (hsize : i.size = size) (hby : i.bytes = bytes) (hzs : z.cells.size = size) (hsz : 0 < size)
    (v : Value) (n : Nat) (xs : List Value) (hs : a.eval s = v) (hown : w.ownsRow base e size v n xs)
    (B : Nat) (vx : Value) (m : Nat) (news : List Value) (hx : a.eval x = vx) (hr : Row w B size vx m news) (h1 : ∀ u ∈ news, u.oneCell' = true)
    (h63 : n + m ≤ maxLen) (hbytes : (n + m) * bytes ≤ 140737488355328) (hbase : base ≤ w.heap.size)
    (h : ∀ v' w', w'.ownsRow base e size v' (n + m) (xs ++ news) → w.grownBy w' v.ownBlock → wpList P ops Q rest (a.put o.dst v') w') : wpList P ops Q (o :: rest) a w := by
  refine wpList_wanted hw fun K hK => ?_
  rcases hr.2.2 with ⟨rfl, rfl⟩ | ⟨ad, c, rfl, _, _, _, hc⟩
  · have hn : news = [] := List.length_eq_zero_iff.1 (by have := hr.1; simpa using this)
    subst hn
    have hrun := run_append_owned_none (P := P) (w := w) base t o.type e i size ht hi v n xs hown
    unfold Oper.wp
    simp [execOp, ho, resolve, invoke, builtin, hs, hx, hrun, Result.andThen]
    exact hK _ _ (h v w (by simpa using hown) ⟨rfl, rfl, rfl, Nat.le_refl _, fun _ _ _ => rfl⟩)
  · exact wp_append_own w s x t ho base e i z size bytes ht hi hz hsize hby hzs hsz v n xs hs hown ad m c news hx hr.1 hc h1 h63 hbytes hbase fun v' w' h2 h3 _ => hK _ _ (h v' w' h2 h3)
end

/-- A copy of texts of the call's own. -/
theorem copy_below {wo w1 : World} {B t : Nat} {v' : Value} {n : Nat} {xs : List Value} (hs : B ≤ wo.heap.size) (hown : w1.ownsRow wo.heap.size t 1 v' (0 + n) ([] ++ xs)) (hg : (wo.alloc (.cells #[] t)).grownBy w1 (Value.slice (some ⟨wo.heap.size, 0, none⟩) 0 0).ownBlock) :
    Row w1 w1.heap.size 1 v' n xs ∧ Below wo.heap.size wo w1 := by
  refine ⟨by have := Row.of_owns hown; simpa using this, ((Below.refl _ wo).alloc (Nat.le_refl _) _).grown hg (by simp) (fun k hk => by cases hk; exact Nat.le_refl _)⟩

set_option maxRecDepth 100000 in
set_option maxHeartbeats 3200000 in
theorem nameFinds_walk (s : ByteArray) (v : Value) (l : List ByteArray) (w : World) (hs : s.size ≤ maxLen) (hss : ∀ x ∈ l, x.size ≤ maxLen) (hr : Row w w.heap.size 1 v l.length (sv l)) (hkw : StrsIs w 0 kwT) (htab : Tab10 w) :
    Calls Tryd.prog 5 #[.string s, v] w fun e w' => e = .returned (.bool true) ∧ Below w.heap.size w w' := by
  obtain ⟨i0, hi, hz0, hz1, hz2⟩ := info_parts info_str'
  obtain ⟨bo, d, rfl, hd1, hd2⟩ := hr.val
  unfold maxLen at hd2
  have hst := hr.take (min l.length 100) (by omega)
  rw [sv_take] at hst
  have hsl : (l.take (min l.length 100)).length = min l.length 100 := by rw [List.length_take]; omega
  have hss' : ∀ x ∈ l.take (min l.length 100), x.size ≤ maxLen := fun x hx => hss x (List.mem_of_mem_take hx)
  have hm100 : min l.length 100 ≤ 100 := by omega
  have Hst := Lib.hid hst; have Hsl := Lib.hid hsl; have Hss := Lib.hid hss'
  have Hkw := Lib.hid hkw; have Htab := Lib.hid htab
  clear hst hsl hss' hss hkw htab
  generalize hN : l.take (min l.length 100) = N at *
  have HN := Lib.hid hN
  clear hN
  have hown := World.ownsRow_made (base := w.heap.size) (e := 9) (size := 1) w #[] 0 (Nat.le_refl _) (Nat.zero_le _) rfl
  have hrs : Row (w.alloc (.cells #[] 9)) w.heap.size 1 (.slice bo (min l.length 100) d) (min l.length 100) (sv N) := Hst.out.below ((Below.refl _ w).alloc (Nat.le_refl _) _)
  have h0 : (0 : Int) ≤ min (l.length : Int) 100 := by omega
  have h1 : min (l.length : Int) 100 ≤ (d : Int) := by omega
  have hrs' : Row (w.alloc (.cells #[] 9)) w.heap.size 1 (.slice bo (min (l.length : Int) 100).toNat d) (min l.length 100) (sv N) := by
    rw [show (min (l.length : Int) 100).toNat = min l.length 100 from by omega]; exact hrs
  have Hr := Lib.hid hrs'; clear hrs hrs' hr
  go_enter Tryd.func5, Tryd.ntmps5
  go_upto_region 2 with (at_builtin; refine wpList_append_row rfl (.tmp 5) (.tmp 10) 33 rfl w.heap.size 9 i0 (.string ByteArray.empty) 1 16 Tryd.underlying33 hi hz0 hz1 hz2 rfl (by decide) _ 0 [] rfl hown w.heap.size _ (min l.length 100) (sv N) rfl Hr.out (sv_one N) (by unfold maxLen; omega) (by omega) (by simp) ?_; intro v' w1 hown1 hgrow)
  obtain ⟨hrow, hb1⟩ := copy_below (Nat.le_refl w.heap.size) hown1 hgrow
  rw [show min l.length 100 = N.length from Hsl.out.symm] at hrow
  have hNl : N.length ≤ 100 := by rw [Hsl.out]; omega
  have hw1 := hb1.size
  clear hown hown1 hgrow
  by_cases hs200 : s.size ≤ 200
  · have hi200 : (s.size : Int) ≤ 200 := by omega
    have hown2 := World.ownsRow_made (base := w1.heap.size) (e := 9) (size := 1) w1 #[] 0 (Nat.le_refl _) (Nat.zero_le _) rfl
    have Hr2 := Lib.hid (hrow.below ((Below.refl _ w1).alloc (Nat.le_refl _) (.cells #[] 9)))
    go_wp2_with (at_builtin; refine wpList_append_row rfl (.tmp 17) (.tmp 18) 33 rfl w1.heap.size 9 i0 (.string ByteArray.empty) 1 16 Tryd.underlying33 hi hz0 hz1 hz2 rfl (by decide) _ 0 [] rfl hown2 w1.heap.size _ N.length (sv N) rfl Hr2.out (sv_one N) (by unfold maxLen; omega) (by omega) (by simp) ?_; intro v2 w2 hown2' hgrow2)
    obtain ⟨hrow2, hb2⟩ := copy_below (Nat.le_refl w1.heap.size) hown2' hgrow2
    clear hown2 hown2' hgrow2
    have hw2 := hb2.size
    have hf1 := find_any s v2 N w2.heap.size w2 hs hrow2
    have hf2 := refFind_any s v' N w1.heap.size w2 hs (hrow.below hb2)
    generalize findI s N = z at *
    go_wp2_with fail
    refine hf1.mono ?_
    rintro e w3 ⟨rfl, rfl⟩
    go_wp2_with fail
    refine hf2.mono ?_
    rintro e w3 ⟨rfl, rfl⟩
    have hb02 := hb1.trans (hb2.mono hw1)
    have hown3 := World.ownsRow_made (base := w2.heap.size) (e := 9) (size := 1) w2 #[] 0 (Nat.le_refl _) (Nat.zero_le _) rfl
    have Hr3 := Lib.hid ((hrow.below hb2).below ((Below.refl _ w2).alloc hw2 (.cells #[] 9)))
    clear hf1 hf2
    go_wp2_with (at_builtin; refine wpList_append_row_g rfl (.tmp 26) (.tmp 27) 33 rfl w2.heap.size 9 i0 (.string ByteArray.empty) 1 16 Tryd.underlying33 hi hz0 hz1 hz2 rfl (by decide) _ 0 [] rfl hown3 w1.heap.size _ N.length (sv N) rfl Hr3.out (sv_one N) (by unfold maxLen; omega) (by omega) (by simp) ?_; intro v3 w3 hown3' hgrow3)
    obtain ⟨hrow3, hb3⟩ := copy_below (Nat.le_refl w2.heap.size) hown3' hgrow3
    clear hown3 hown3' hgrow3
    have hw3 := hb3.size
    have hb03 := hb02.trans (hb3.mono (by omega))
    have ht1 := twice_any v3 N w3 Hss.out hrow3
    refine ht1.mono ?_
    rintro e w4 ⟨rfl, hb4⟩
    have hw4 := hb4.size
    have hb04 := hb03.trans (hb4.mono (by omega))
    have hb14 := hb2.trans ((hb3.mono hw2).trans (hb4.mono (by omega)))
    have ht2 := refTwice_any v' N w4 Hss.out ((hrow.below hb14).mono (by omega))
    generalize twI N = z2 at *
    clear ht1
    go_wp2_with fail
    refine ht2.mono ?_
    rintro e w5 ⟨rfl, hb5⟩
    have hw5 := hb5.size
    have hb05 := hb04.trans (hb5.mono (by omega))
    have hb15 := hb14.trans (hb5.mono (by omega))
    have hown6 := World.ownsRow_made (base := w5.heap.size) (e := 9) (size := 1) w5 #[] 0 (Nat.le_refl _) (Nat.zero_le _) rfl
    have Hr6 := Lib.hid ((hrow.below hb15).below ((Below.refl _ w5).alloc (by omega) (.cells #[] 9)))
    clear ht2
    go_wp2_with (at_builtin; refine wpList_append_row_g rfl (.tmp 36) (.tmp 37) 33 rfl w5.heap.size 9 i0 (.string ByteArray.empty) 1 16 Tryd.underlying33 hi hz0 hz1 hz2 rfl (by decide) _ 0 [] rfl hown6 w1.heap.size _ N.length (sv N) rfl Hr6.out (sv_one N) (by unfold maxLen; omega) (by omega) (by simp) ?_; intro v6 w6 hown6' hgrow6)
    obtain ⟨hrow6, hb6⟩ := copy_below (Nat.le_refl w5.heap.size) hown6' hgrow6
    clear hown6 hown6' hgrow6
    have hw6 := hb6.size
    have hb06 := hb05.trans (hb6.mono (by omega))
    have hb16 := hb15.trans (hb6.mono (by omega))
    refine (fresh_any s v6 N w6 (by omega) (by omega) Hss.out hrow6 (Htab.out.below hb06 (Nat.le_refl _))).mono ?_
    rintro e w7 ⟨⟨m, hm, rfl⟩, hb7⟩
    have hw7 := hb7.size
    have hb07 := hb06.trans (hb7.mono (by omega))
    have hb17 := hb16.trans (hb7.mono (by omega))
    have hr7 := (hrow.below hb17).mono (show w1.heap.size ≤ w7.heap.size by omega)
    go_wp2_with fail
    refine (refFresh_any s v' N w7 (by omega) (by omega) hr7).mono ?_
    rintro e w8 ⟨⟨m', hm', rfl⟩, hb8⟩
    obtain rfl := fresh_one _ _ _ _ hm hm'
    have hb08 := hb07.trans (hb8.mono (by omega))
    have h9 := law02works_any w8 (Hkw.out.below hb08 (Nat.le_refl _)) (Htab.out.below hb08 (Nat.le_refl _))
    generalize cand s m = cm at *
    clear hm hm'
    go_wp2_with fail
    refine h9.mono ?_
    rintro e w9 ⟨rfl, hb9⟩
    go_wp2_with fail
    go_ret
    exact ⟨rfl, hb08.trans (hb9.mono hb08.size)⟩
  · have hi200 : (200 : Int) < (s.size : Int) := by omega
    have h9 := law02works_any w1 (Hkw.out.below hb1 (Nat.le_refl _)) (Htab.out.below hb1 (Nat.le_refl _))
    go_wp2_with fail
    refine h9.mono ?_
    rintro e w9 ⟨rfl, hb9⟩
    go_wp2_with fail
    go_ret
    exact ⟨rfl, hb1.trans (hb9.mono hw1)⟩
theorem nameFinds_law {H : Type} {base : Nat} (enc : TypeId × Value → H) (W : World) (a0 : ByteArray) (w0 : a0.size ≤ maxLen)
    (v1 : Value) (d1 : DataW H) (p1 : List MemPlace) (k1 : Value.okWide Tryd.prog W .any base 33 v1) (h1 : DataW.Trod enc Tryd.prog W 0 (fun _ => true) true 33 v1 d1 p1)
    (hL : laidMetH Tryd.prog Rows.nameFindsRow.laid W) :
    Calls Tryd.prog 5 #[.string a0, v1] W fun e w' => e = .returned (.bool true) ∧ Below W.heap.size W w' := by
  obtain ⟨l, hr, hs⟩ := rowOfTexts Tryd.underlying33 Tryd.underlying9 (by kernel_rfl) (Go.WideShapes.okWide_slice Tryd.underlying33 k1) h1
  exact nameFinds_walk a0 v1 l W w0 hs hr (kw2_of hL (by rfl)) (tab10_of hL (by rfl))
end Go.Proofs.YtjfehnjkijecpaaDoor
