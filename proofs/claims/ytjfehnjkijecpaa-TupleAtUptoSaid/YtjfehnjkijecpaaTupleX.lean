/-
  The walk of TupleAt, where what is read is of bulk at most 1048576.
-/
import Derived.Test.YtjfehnjkijecpaaTupleT
import Derived.SliceStrings
namespace Go.Proofs.Ytjfehnjkijecpaa
open Go.RowKit
set_option linter.unusedVariables false

section
variable {P : Program} {w : World}
theorem wpList_wanted {ops : Array Oper} {rest : List Oper} {o : Oper} {a : Act} {Q : Exit → Act → World → Prop} (hw : Region.wanted o (yielded ops a.tmps) = true)
    (h : ∀ K : Act → World → Prop, (∀ a w, wpList P ops Q rest a w → K a w) → o.wp P a w K Q) : wpList P ops Q (o :: rest) a w :=
  wpList_step fun K hK => by rw [if_pos hw]; exact h K hK
/-- 'wpList_append_row' at an operation that stands under a guard, which holds. -/
theorem wpList_append_row_g {ops : Array Oper} {rest : List Oper} {o : Oper} {a : Act} {Q : Exit → Act → World → Prop} (hw : Region.wanted o (yielded ops a.tmps) = true) (s x : Operand) (t : TypeId)
    (ho : o.op = .call { callee := .builtin .append, args := #[s, x], argTypes := #[t, t] })
    (base : Nat) (e : TypeId) (i : TypeInfo) (z : Value) (size bytes : Nat) (ht : P.underlying t = some (.slice e)) (hi : P.info? e = some i) (hz : i.zero = some z)
    (hsize : i.size = size) (hby : i.bytes = bytes) (hzs : z.cells.size = size) (hsz : 0 < size)
    (v : Value) (n : Nat) (xs : List Value) (hs : a.eval s = v) (hown : w.ownsRow base e size v n xs)
    (B : Nat) (vx : Value) (m : Nat) (news : List Value) (hx : a.eval x = vx) (hr : Row w B size vx m news) (h1 : ∀ u ∈ news, u.oneCell' = true)
    (h63 : n + m ≤ maxLen) (hbytes : (n + m) * bytes ≤ 140737488355328) (hbase : base ≤ w.heap.size)
    (h : ∀ v' w', w'.ownsRow base e size v' (n + m) (xs ++ news) → w.grownBy w' v.ownBlock → wpList P ops Q rest (a.put o.dst v') w') : wpList P ops Q (o :: rest) a w := by
  refine wpList_wanted hw fun K hK => ?_
  rcases hr.2.2 with ⟨rfl, rfl⟩ | ⟨ad, c, rfl, _, _, _, hc⟩
  · have hn : news = [] := List.length_eq_zero_iff.1 (by have := hr.1; simpa using this)
    subst hn
    have hrun := run_append_owned_none (P := P) (w := w) base t o.type e i size ht hi v n xs hown
    unfold Oper.wp
    simp [execOp, ho, resolve, invoke, builtin, hs, hx, hrun, Result.andThen]
    exact hK _ _ (h v w (by simpa using hown) ⟨rfl, rfl, rfl, Nat.le_refl _, fun _ _ _ => rfl⟩)
  · exact wp_append_own w s x t ho base e i z size bytes ht hi hz hsize hby hzs hsz v n xs hs hown ad m c news hx hr.1 hc h1 h63 hbytes hbase fun v' w' h2 h3 _ => hK _ _ (h v' w' h2 h3)
end

theorem bulk_mem {H : Type} {d : DataW H} {l : List (DataW H)} (h : d ∈ l) : Rows.uptoBulk d ≤ Rows.uptoBulkAll l := by
  induction l with
  | nil => cases h
  | cons x r ih =>
    simp only [Rows.uptoBulkAll]
    rcases List.mem_cons.1 h with e | e
    · subst e; omega
    · have := ih e; omega
/-- A slice of strings that came in; each of its strings is no longer than its bulk. -/
theorem rowOfStrings {H : Type} {enc : TypeId × Value → H} {P : Program} {w : World} {base : Nat} {spare : Nat → Bool} {held : Bool} {t e : TypeId} {v : Value} {d : DataW H} {p : List MemPlace}
    (ht : P.underlying t = some (.slice e)) (he : P.underlying e = some .string) (hc : P.cellsOf e = 1) (hok : ∃ a len cap, v = .slice a len cap) (h : DataW.Trod enc P w base spare held t v d p) :
    ∃ l : List ByteArray, Row w w.heap.size 1 v l.length (strs l) ∧ ∀ x ∈ l, x.size + 1 ≤ Rows.uptoBulk d := by
  obtain ⟨fuel, hf⟩ := h
  obtain ⟨a0, len, cap, rfl⟩ := hok
  rcases Go.ChangeShapes.open_strings ht he hc hf with ⟨hcs, _⟩ | ⟨a, len', cap', zs, hcs, _, hl, hm, hz, hx, hcell, hwz⟩
  · simp [Value.cells] at hcs
    obtain ⟨rfl, rfl, rfl⟩ := hcs
    exact ⟨[], ⟨rfl, Nat.zero_le _, .inl ⟨rfl, rfl⟩⟩, fun n hn => by cases hn⟩
  · simp [Value.cells] at hcs
    obtain ⟨rfl, rfl, rfl⟩ := hcs
    have hzl : len ≤ zs.length := by split at hz <;> omega
    have hlen : (zs.take len).length = len := by rw [List.length_take]; omega
    refine ⟨zs.take len, ⟨by simp [strs], by rw [hlen]; omega, .inr ⟨a, cap, by rw [hlen], by rw [hlen]; exact hl, hm, ?_, ?_⟩⟩, fun x hxm => ?_⟩
    · rw [hlen]
      rcases Nat.eq_zero_or_pos len with h0 | h0
      · exact .inl h0
      · right
        have := World.block_lt_of_cell? w _ (hcell 0 (by omega))
        simpa [Addr.add] using this
    · intro j u hu
      unfold strs at hu
      rw [List.getElem?_map, List.getElem?_take] at hu
      split at hu
      · have hj : j < zs.length := by omega
        rw [hcell j hj, ← hu]
        simp [hj]
      · simp at hu
    · simp only [Prod.mk.injEq] at hx
      obtain ⟨rfl, _⟩ := hx
      have hin : (DataW.lit (H := H) (.string x.data.toList)) ∈ Go.ChangeShapes.strs (H := H) (zs.take len) := List.mem_map.2 ⟨x, hxm, rfl⟩
      have h1 := bulk_mem hin
      have h2 : Rows.uptoBulk (DataW.lit (H := H) (.string x.data.toList)) = x.size + 1 := by
        simp only [Rows.uptoBulk]; rw [blen]
      simp only [Rows.uptoBulk] at h1 ⊢
      rw [blen] at h1
      omega
theorem strs_take (l : List ByteArray) (k : Nat) : (strs l).take (k * 1) = strs (l.take k) := by simp [strs, List.map_take]

set_option maxHeartbeats 4000000 in
theorem tupleAt_walk (v0 : Value) (l : List Int) (a1 a2 : Int) (t : ByteArray) (v4 : Value) (ss : List ByteArray) (w : World) (hr0 : Row w w.heap.size 1 v0 l.length (ints l)) (h1 : -9223372036854775808 ≤ a1 ∧ a1 ≤ 9223372036854775807)
    (ht : t.size ≤ maxLen) (hr4 : Row w w.heap.size 1 v4 ss.length (strs ss)) (hss : ∀ x ∈ ss, x.size ≤ 1048576) :
    Calls Try.prog 6 #[v0, .int .i64 a1, .int .i64 a2, .string t, v4] w fun e w' => e = .returned (.bool true) ∧ Below w.heap.size w w' := by
  obtain ⟨i0, hi, hz0, hz1, hz2⟩ := info_parts info_str
  obtain ⟨ao, c, rfl, hc1, hc2⟩ := hr0.val
  obtain ⟨bo, d, rfl, hd1, hd2⟩ := hr4.val
  unfold maxLen at hc2 hd2
  have ct := cut50_size t
  have hrt := hr0.take (min l.length 100) (by omega)
  rw [ints_take] at hrt
  have hst := hr4.take (min ss.length 70) (by omega)
  rw [strs_take] at hst
  have hll : (l.take (min l.length 100)).length = min l.length 100 := by rw [List.length_take]; omega
  have hsl : (ss.take (min ss.length 70)).length = min ss.length 70 := by rw [List.length_take]; omega
  have hss' : ∀ x ∈ ss.take (min ss.length 70), x.size ≤ 1048576 := fun x hx => hss x (List.mem_of_mem_take hx)
  have hm100 : min l.length 100 ≤ 100 := by omega
  have hm70 : min ss.length 70 ≤ 70 := by omega
  have Hrt := Lib.hid hrt; have Hst := Lib.hid hst; have Hll := Lib.hid hll; have Hsl := Lib.hid hsl; have Hss := Lib.hid hss'
  clear hrt hst hll hsl hss' hss hr0 hr4
  go_enter Try.func6, Try.ntmps6
  go_upto_region 1 with fail
  go_cut [0, 3] (fun s0 s3 wx => wx.ownsRow w.heap.size 3 1 s0 (min l.length 100) (ints (l.take (min l.length 100))) ∧ s3 = .string (cut50 t) ∧ Below w.heap.size w wx)
  case first =>
    have He : Hid ((min (l.length : Int) 100).toNat = min l.length 100) := by show _ = _; omega
    have h0 : (0 : Int) ≤ min (l.length : Int) 100 := by omega
    have h1 : min (l.length : Int) 100 ≤ (c : Int) := by omega
    go_wp2_with fail
    rw [He.out]
    refine (ints_any (.slice ao (min l.length 100) c) (min l.length 100) w.heap.size (l.take (min l.length 100)) _ Hrt.out (Nat.le_refl _) (by omega)).mono ?_
    rintro e w1 ⟨v1, rfl, hown, hb1⟩
    go_wp2_with fail
    refine (law12short_any t _ ht).mono ?_
    rintro e w2 ⟨rfl, rfl⟩
    go_wp2_with fail
    go_meet
    case rel => exact ⟨hown, rfl, hb1⟩
  case rest =>
    obtain ⟨hown0, rfl, hb0⟩ := hcut
    have hs0 := hb0.size
    have Hr0 := Lib.hid (Row.of_owns hown0)
    clear hown0
    generalize hL : l.take (min l.length 100) = L at *
    generalize hN : ss.take (min ss.length 70) = N at *
    have HN := Lib.hid hN
    clear hL hN Hrt
    obtain ⟨wo, rfl⟩ : ∃ wo : World, wo = wc := ⟨_, rfl⟩
    go_upto_region 2 with fail
    go_cut [4] (fun s4 wx => wx.ownsRow wo.heap.size 9 1 s4 (min ss.length 70) (strs N) ∧ Below wo.heap.size wo wx)
    case first =>
      have hown := World.ownsRow_made (base := wo.heap.size) (e := 9) (size := 1) wo #[] 0 (Nat.le_refl _) (Nat.zero_le _) rfl
      have hrs : Row (wo.alloc (.cells #[] 9)) w.heap.size 1 (.slice bo (min ss.length 70) d) (min ss.length 70) (strs N) := (Hst.out.below hb0).below ((Below.refl _ wo).alloc hs0 _)
      have h0 : (0 : Int) ≤ min (ss.length : Int) 70 := by omega
      have h1 : min (ss.length : Int) 70 ≤ (d : Int) := by omega
      have hrs' : Row (wo.alloc (.cells #[] 9)) w.heap.size 1 (.slice bo (min (ss.length : Int) 70).toNat d) (min ss.length 70) (strs N) := by
        rw [show (min (ss.length : Int) 70).toNat = min ss.length 70 from by omega]; exact hrs
      have Hr := Lib.hid hrs'; clear hrs hrs'
      go_wp2_with (at_builtin; refine wpList_append_row rfl (.tmp 19) (.tmp 24) 38 rfl wo.heap.size 9 i0 (.string ByteArray.empty) 1 16 Try.underlying38 hi hz0 hz1 hz2 rfl (by decide) _ 0 [] rfl hown w.heap.size _ (min ss.length 70) (strs N) rfl Hr.out (strs_one N) (by unfold maxLen; omega) (by omega) (by simp) ?_; intro v' w1 hown1 hgrow)
      go_meet
      case rel => exact ⟨by simpa using hown1, ((Below.refl _ wo).alloc (Nat.le_refl _) _).grown hgrow (by simp) (fun k hk => by cases hk; exact Nat.le_refl _)⟩
    case rest =>
      obtain ⟨hown4, hb4⟩ := hcut
      have hs4 := hb4.size
      have Hr4 := Lib.hid (Row.of_owns hown4)
      have Hr0' := Lib.hid (Hr0.out.below hb4)
      have hown := World.ownsRow_made (base := wc.heap.size) (e := 9) (size := 1) wc #[] 0 (Nat.le_refl _) (Nat.zero_le _) rfl
      clear hown4 hown
      have hLl := Hll.out
      have hNl := Hsl.out
      generalize hm1 : min l.length 100 = m1 at *
      generalize hm2 : min ss.length 70 = m2 at *
      have Hm1 := Lib.hid hm1; have Hm2 := Lib.hid hm2
      clear hm1 hm2
      subst hLl
      subst hNl
      go_wp2_with fail
      refine (ints_any _ _ _ L _ Hr0'.out hs4 (by omega)).mono ?_
      rintro e w5 ⟨v5, rfl, hown5, hb5⟩
      have hs5 := hb5.size
      have Hr5 := Lib.hid (Row.of_owns hown5); clear hown5
      have Hr05 := Lib.hid (Hr0'.out.below (hb5.mono hs4))
      have Hr45 := Lib.hid (Hr4.out.below hb5)
      go_wp2_with fail
      refine (tupleAt_any _ _ L a1 a2 _ Hr5.out (Nat.le_refl _) (by omega) h1).mono ?_
      rintro e w6 ⟨rfl, hb6⟩
      have hs6 := hb6.size
      have Hr06 := Lib.hid (Hr05.out.below (hb6.mono (by omega)))
      have Hr46 := Lib.hid (Hr45.out.below (hb6.mono (by omega)))
      go_wp2_with fail
      refine (refAt12_any _ _ L a1 a2 _ Hr06.out (by omega) (by omega) h1).mono ?_
      rintro e w7 ⟨rfl, hb7⟩
      have hs7 := hb7.size
      have Hr47 := Lib.hid (Hr46.out.below (hb7.mono (by omega)))
      obtain ⟨b4o, d4, hv4, _, _⟩ := Hr4.out.val
      subst hv4
      have hown7 := World.ownsRow_made (base := w7.heap.size) (e := 9) (size := 1) w7 #[] 0 (Nat.le_refl _) (Nat.zero_le _) rfl
      have Hr47' := Lib.hid (Hr47.out.below (w' := w7.alloc (.cells #[] 9)) ((Below.refl _ w7).alloc (by omega) _))
      go_wp2_with (at_builtin; refine wpList_append_row_g rfl (.tmp 38) (.tmp 39) 38 rfl w7.heap.size 9 i0 (.string ByteArray.empty) 1 16 Try.underlying38 hi hz0 hz1 hz2 rfl (by decide) _ 0 [] rfl hown7 _ _ N.length (strs N) rfl Hr47'.out (strs_one N) (by unfold maxLen; omega) (by omega) (by simp) ?_; intro v8 w8 hown8 hgrow8)
      rw [Nat.zero_add, List.nil_append] at hown8
      have hb8 : Below w7.heap.size w7 w8 := ((Below.refl _ w7).alloc (Nat.le_refl _) _).grown hgrow8 (by simp) (fun k hk => by cases hk; exact Nat.le_refl _)
      have hs8 := hb8.size
      have Hr8 := Lib.hid (Row.of_owns hown8)
      have Hr48 := Lib.hid (Hr47.out.below (hb8.mono (by omega)))
      clear hown8 hgrow8 hown7
      refine (tupleText_any (cut50 t) _ _ N _ Hr8.out (Nat.le_refl _) ct Hss.out).mono ?_
      rintro e w9 ⟨rfl, hb9⟩
      have hs9 := hb9.size
      have Hr49 := Lib.hid (Hr48.out.below (hb9.mono (by omega)))
      go_wp2_with fail
      refine (refText12_any (cut50 t) _ _ N _ Hr49.out (by omega) ct Hss.out).mono ?_
      rintro e w10 ⟨rfl, rfl⟩
      go_wp2_with fail
      refine (law12works_any _).mono ?_
      rintro e w11 ⟨rfl, hb11⟩
      go_wp2_with fail
      go_ret
      exact ⟨rfl, hb0.trans ((hb4.mono hs0).trans ((hb5.mono (by omega)).trans ((hb6.mono (by omega)).trans ((hb7.mono (by omega)).trans ((hb8.mono (by omega)).trans ((hb9.mono (by omega)).trans (hb11.mono (by omega))))))))⟩

theorem tupleAt_law {H : Type} {base : Nat} (enc : TypeId × Value → H) (W : World) (v0 : Value) (d0 : DataW H) (p0 : List MemPlace) (k0 : Value.okWide Try.prog W .any base 32 v0) (h0 : DataW.Trod enc Try.prog W 0 (fun _ => true) true 32 v0 d0 p0)
    (a1 : Int) (w1 : (Lit.int .i64 a1).wf = true) (a2 : Int) (w2 : (Lit.int .i64 a2).wf = true) (a3 : ByteArray) (w3 : a3.size ≤ maxLen)
    (v4 : Value) (d4 : DataW H) (p4 : List MemPlace) (k4 : Value.okWide Try.prog W .any base 38 v4) (h4 : DataW.Trod enc Try.prog W 0 (fun _ => true) true 38 v4 d4 p4)
    (hk : Rows.uptoSmall H [d0, .lit (.int .i64 a1), .lit (.int .i64 a2), .lit (.string a3.data.toList), d4] = true) :
    Calls Try.prog 6 #[v0, .int .i64 a1, .int .i64 a2, .string a3, v4] W fun e w' => e = .returned (.bool true) ∧ Below W.heap.size W w' := by
  obtain ⟨l, hr, _⟩ := Row.of_ints Try.underlying32 Try.underlying3 (by kernel_rfl) (Go.WideShapes.okWide_slice Try.underlying32 k0) h0
  obtain ⟨ss, hr4, hs4⟩ := rowOfStrings Try.underlying38 Try.underlying9 (by kernel_rfl) (Go.WideShapes.okWide_slice Try.underlying38 k4) h4
  have hb : Rows.uptoBulk d4 ≤ 1048576 := by
    have h := of_decide_eq_true hk
    simp only [Rows.uptoBulkAll] at h
    omega
  exact tupleAt_walk v0 l a1 a2 a3 v4 ss W hr (int64_of_wf w1) w3 hr4 (fun x hx => by have := hs4 x hx; omega)
end Go.Proofs.Ytjfehnjkijecpaa
