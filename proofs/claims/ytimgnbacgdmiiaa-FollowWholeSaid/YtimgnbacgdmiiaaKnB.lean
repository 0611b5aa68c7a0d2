/-
  (*row.Known).place.
-/
import Derived.Test.YtimgnbacgdmiiaaKnA
import Derived.Test.YtimgnbacgdmiiaaRegT
import Derived.Shelf.Strings.BuilderK
namespace Go.Proofs.Ytimgnbacgdmiiaa
open Go.RowKit PK Go.Maps Go.WideMaps
set_option linter.unusedVariables false
set_option linter.unusedSimpArgs false
attribute [local go_sem ↓] append_appM

/-- A builder that String was asked of. -/
def BldF (B b : Nat) (l : List UInt8) (w : World) : Prop := Lib.IsBuilderF 104 5 B b (Lib.byteCells l) w
theorem Bld.f {B b : Nat} {l : List UInt8} {w : World} (h : Bld B b l w) : BldF B b l w := Lib.IsBuilderF.of h
theorem bldf_string (B b : Nat) (l : List UInt8) (w : World) (h : BldF B b l w) (hB : B ≤ w.heap.size) :
    Calls Try.prog 78 #[.pointer (some ⟨b, 0, none⟩)] w fun e w' => e = .returned (.string ⟨l.toArray⟩) ∧ BldF B b l w' ∧ Below B w w' := Try.Builder_String_any_f B b l w h hB
theorem bldf_stringK (B b : Nat) (l : List UInt8) (w : World) (h : BldF B b l w) (hB : B ≤ w.heap.size) :
    Calls Try.prog 78 #[.pointer (some ⟨b, 0, none⟩)] w fun e w' => e = .returned (.string ⟨l.toArray⟩) ∧ BldF B b l w' ∧ Below B w w' ∧ ∀ (q : Nat) cs T fz, w.heap[q]? = some (.cells cs T fz) → q ≠ b → T ≠ 5 → w'.heap[q]? = some (.cells cs T fz) :=
  (Any.Builder_String_any_k Try.lays169 Try.Builder_Extra_169 B b l w h hB).mono fun e w' ⟨h1, h2, h3, h4⟩ => ⟨h1, h2, h3, fun q cs T fz hq hn hT => h4 q _ hq (fun e => hn (Option.some.inj e)) fun c fz' e => hT (by injection e)⟩
theorem BldF.kept {B b : Nat} {l : List UInt8} {w w' : World} (h : BldF B b l w) (hk : ∀ q, B ≤ q → q < w.heap.size → w'.heap[q]? = w.heap[q]?) : BldF B b l w' := by
  have key : ∀ p, Lib.BuilderAtF 104 5 B b p (Lib.byteCells l) w → Lib.BuilderAtF 104 5 B b p (Lib.byteCells l) w' := fun p h => by
    have hlt := h.lt
    obtain ⟨hB, v, hb, hown, hne⟩ := h
    refine ⟨hB, v, (hk b hB hlt).trans hb, ?_, hne⟩
    refine ⟨hown.1, ?_⟩
    rcases hown.2 with hn | ⟨g, cap, cur, fz, rfl, hg, hgg, rest⟩
    · exact .inl hn
    · exact .inr ⟨g, cap, cur, fz, rfl, hg, (hk g hg (Array.getElem?_eq_some_iff.1 hgg).1).trans hgg, rest⟩
  exact h.imp (key _) (key _)
theorem BldF.lt {B b : Nat} {l : List UInt8} {w : World} (h : BldF B b l w) : b < w.heap.size := h.elim (fun x => x.lt) fun x => x.lt
theorem owns_blockAt {w : World} {base : Nat} {e : TypeId} {v : Value} {n : Nat} {xs : List Value} (h : w.ownsRow base e 1 v n xs) {q : Nat} (hq : v.ownBlock = some q) : ∃ cs, w.heap[q]? = some (.cells cs e (0, 0)) := by
  rcases h.2 with ⟨rfl, _⟩ | ⟨g, cap, cur, rfl, _, hg, _⟩
  · cases hq
  · have : g = q := by have := Option.some.inj hq; exact this
    subst this; exact ⟨_, hg⟩
/-- What place answers. -/
def PlaceP (X : Nat → Prop) (W : World) (n0 kb am nm : Nat) (cv : Value) (g N c : Nat) (k : Int) (kk : Nat) (S : Sts) (T : Nat) (C : List (Value × List Tx)) (nx : Nat) (fx : Value → Option Value) (l : List Tx) (e : Ending) (W' : World) : Prop :=
  (600 < l.length ∧ e = .returned (.int .i64 (-1)) ∧ W' = W) ∨ (l.length ≤ 600 ∧ ∃ (i : Nat) (cv' : Value) (C' : List (Value × List Tx)) (na' : Nat) (fa' : Value → Option Value), e = .returned (.int .i64 (i : Nat)) ∧ Kn X W' n0 kb am nm cv' g N c k kk S (T + 1) C' na' nx fa' fx ∧ (∃ x, C'[i]? = some x ∧ x.2 = l) ∧ (∀ (j : Nat) x, C[j]? = some x → C'[j]? = some x) ∧ KnKeep (ownK kb am nm cv) W W' ∧ ∀ q, ownK kb am nm cv' q → ownK kb am nm cv q ∨ W.heap.size ≤ q)
theorem len_byte (n : Nat) : ((UInt8.ofNat n).toNat : Int) = (n : Int) % 256 := by simp
set_option maxHeartbeats 4000000 in
set_option maxRecDepth 100000 in
theorem place_any (X : Nat → Prop) (W : World) (n0 kb am nm : Nat) (cv : Value) (g N c : Nat) (k : Int) (kk : Nat) (S : Sts) (T : Nat) (C : List (Value × List Tx)) (na nx : Nat) (fa fx : Value → Option Value) (h : Kn X W n0 kb am nm cv g N c k kk S T C na nx fa fx)
    (va : Option Addr) (vc : Nat) (l : List Tx) (hr : Row W W.heap.size 1 (.slice va l.length vc) l.length (svt l)) (hv : 0 < l.length → ∀ q, (Value.slice va l.length vc).ownBlock = some q → ¬ ownK kb am nm cv q ∧ q < W.heap.size ∧ ¬ X q) (hl : IsSet l ∧ Le k l) (hk : k ≤ 4) (hT : T ≤ 1000000000000) :
    Calls Try.prog 95 #[.pointer (some ⟨kb, 0, none⟩), .slice va l.length vc] W (PlaceP X W n0 kb am nm cv g N c k kk S T C nx fx l) := by
  have hl63 : l.length ≤ 9223372036854775807 := by
    obtain ⟨_, _, e, h1, h2⟩ := hr.val
    cases e; unfold maxLen at h2; omega
  have HK := Lib.hid h; have Hr := Lib.hid hr; have Hv := Lib.hid hv; have Hl := Lib.hid hl; have HT := Lib.hid hT; have Hk := Lib.hid hk
  have x1 : W.cell? ⟨kb, 1, none⟩ = some (.int .i64 600) := by rw [cell_of_row W kb _ _ _ (0, 0) h.box]; rfl
  obtain ⟨ln, hln⟩ : ∃ ln, ln = l.length := ⟨_, rfl⟩
  rw [← hln] at Hr Hv hl63 ⊢
  have Hln := Lib.hid hln
  have Hb0 := Lib.hid (bld_new W)
  have HB0 := Lib.hid ((Below.refl W.heap.size W).alloc (Nat.le_refl _) (.cells #[.pointer none, .slice none 0 0] 104))
  clear h hr hv hl hT hk hln
  go_enter Try.func95, Try.ntmps95
  by_cases hbig : 600 < ln
  · have q1 : decide (600 < ln) = true := decide_eq_true hbig
    have q2 : decide ((600 : Int) < (ln : Int)) = true := decide_eq_true (by omega)
    have HE : Hid (PlaceP X W n0 kb am nm cv g N c k kk S T C nx fx l (.returned (.int .i64 (-1))) W) := Lib.hid (.inl ⟨by rw [← Hln.out]; exact hbig, rfl, rfl⟩)
    clear hbig
    go_wp2_with fail
    go_ret
    exact HE.out
  · have q1 : decide (600 < ln) = false := decide_eq_false hbig
    have q2 : decide ((600 : Int) < (ln : Int)) = false := decide_eq_false (by omega)
    have hsm : ln ≤ 600 := by omega
    clear hbig
    go_upto_region 4 with fail
    generalize hW1 : W.alloc (.cells #[.pointer none, .slice none 0 0] 104) = W1 at *
    clear hW1 x1 q1 q2
    go_wp2_with fail
    go_loopw [19] (fun iv wr => ∃ i : Nat, i ≤ ln ∧ iv = .int .i64 (i : Nat) ∧ Hid (Bld W.heap.size W.heap.size (encS (l.take i)) wr) ∧ Hid (Below W.heap.size W wr)) (fun iv _ => ln - (intOf iv).toNat)
    case atStart => exact ⟨0, Nat.zero_le _, rfl, Hb0, HB0⟩
    case round =>
      clear Hb0 HB0
      obtain ⟨i, hi, rfl, Hb, HB⟩ := hrel
      by_cases hlt : i < ln
      · have hil : i < l.length := by have := Hln.out; omega
        have r0 := Hr.out.below HB.out
        obtain ⟨b1, o1, hbo, hb1, _⟩ := r0.at (by rw [svt_length]; omega)
        subst hbo
        have c0 := r0.cell i _ (svt_at l i hil)
        have hx4 := Hl.out.2 _ (List.getElem_mem hil)
        have Hst := Lib.hid (encS_take l i hil)
        have hel : (encS (l.take i)).length ≤ 5 * i := by
          have := encS_len (l := l.take i) (fun x hx => by have := Hl.out.2 x (List.mem_of_mem_take hx); have := Hk.out; omega)
          rw [List.length_take] at this; omega
        generalize l[i] = x at *
        have Hw1 := Lib.hid (bld_byte W.heap.size W.heap.size (encS (l.take i)) (UInt8.ofNat x.length) wr Hb.out (by omega) HB.out.size)
        rw [len_byte] at Hw1
        have Hw2 := Lib.hid (fun (w2 : World) (h2 : Bld W.heap.size W.heap.size (encS (l.take i) ++ [UInt8.ofNat x.length]) w2) (hs : W.heap.size ≤ w2.heap.size) => bld_text W.heap.size W.heap.size _ x w2 h2 (by rw [List.length_append]; simp; have := Hk.out; omega) hs)
        have hi1 : (i : Int) < (ln : Int) := by omega
        have hi2 : (0 : Int) ≤ (i : Int) := by omega
        have hx0 : (0 : Int) ≤ (x.length : Int) := by omega
        have Hlt := Lib.hid hlt
        clear r0 hb1 hil hlt hi hel
        go_wp2_with fail
        refine (Hw1.out).mono ?_
        rintro e w2 ⟨rfl, h2, hb2⟩
        have HB2 := Lib.hid (HB.out.trans hb2)
        have Hw3 := Lib.hid (Hw2.out w2 h2 HB2.out.size)
        clear Hw1 Hw2 hb2 h2 c0
        go_wp2_with fail
        refine (Hw3.out).mono ?_
        rintro e w3 ⟨rfl, h3, hb3⟩
        have HB3 := Lib.hid (HB2.out.trans hb3)
        have H3 : Hid (Bld W.heap.size W.heap.size (encS (l.take (i + 1))) w3) := Lib.hid (by rw [Hst.out]; rw [List.append_assoc] at h3; exact h3)
        clear Hw3 h3 hb3
        go_wp2_with fail
        go_roundw
        case rel => exact ⟨i + 1, Hlt.out, by go_num, H3, HB3⟩
        case measure => have := Hlt.out; simp [intOf]; omega
      · obtain rfl : i = ln := by omega
        have hE : l.take i = l := List.take_of_length_le (by have := Hln.out; omega)
        have hb := Hb.out
        rw [hE] at hb
        have HF := Lib.hid (Bld.f hb)
        have HKr := Lib.hid (HK.out.below HB.out)
        have hi0 : decide (i < i) = false := by simp
        clear hE hb hlt hi
        go_wp2_with fail
        have HS : Hid (∀ w', Below wr.heap.size wr w' → w'.cell? ⟨kb, 4, none⟩ = some (.map (some am))) := Lib.hid fun w' hw => by
          rw [cell_of_row w' kb _ _ _ (0, 0) (HKr.out.below hw).box]; rfl
        have hd := (Below.refl wr.heap.size wr).drew
        have Hd := Lib.hid hd
        have Hstr := Lib.hid (bldf_string W.heap.size W.heap.size (encS l) wr.drew (HF.out.kept fun _ _ _ => rfl) HB.out.size)
        refine wp_region_ord 10 [(0, true), (1, true), (2, true), (3, true), (4, false), (5, false), (6, true), (7, true), (8, true), (9, true), (10, false)] (fun w' => w'.cell? ⟨kb, 4, none⟩ = some (.map (some am))) (by kernel_rfl) (by kernel_rfl) (HS.out _ hd) ?_
        clear hd
        simp only [ordL, List.getElem?_toArray, List.getElem?_cons_succ, List.getElem?_cons_zero]
        iterate 4 (
          refine ordW_read (v := ?_) (by rfl) ?_ (fun _ _ _ h => h) ?_
          rotate_left
          focus (intro w' s0; go_simp; (try with_reducible rfl); done)
          try simp only [Act.put, List.setIfInBounds_toArray, List.set_cons_zero, List.set_cons_succ])
        refine ordW_do (by rfl) (fun K' HK2 => ?_)
        go_simp
        refine (Hstr.out).mono ?_
        rintro e w2 ⟨rfl, hF2, hb2⟩
        have hsz : W.heap.size ≤ wr.heap.size := HB.out.size
        have hb2' : Below W.heap.size W w2 := HB.out.trans (Below.trans ((Hd.out).mono hsz) hb2)
        have hb2r : ∀ q, q < W.heap.size → w2.heap[q]? = wr.heap[q]? := fun q hq => hb2.block q hq
        have HK2' := Lib.hid (HK.out.below hb2')
        have HB2 := Lib.hid hb2'
        have HF2 := Lib.hid hF2
        have hel : (encS l).length ≤ 3000 := by
          have := encS_len (l := l) (fun x hx => by have := Hl.out.2 x hx; have := Hk.out; omega)
          have := Hln.out; omega
        have hkey : keyOf Try.prog 9 (.string ⟨(encS l).toArray⟩) = some (.string (encS l)) := by
          have := keyOf_string_mk Try.underlying9 (s := ⟨(encS l).toArray⟩) (by unfold maxLen; simp [ByteArray.size]; omega)
          simpa using this
        have Hkey := Lib.hid hkey
        obtain ⟨v0, hlook, hval⟩ := HK2'.out.atM.look_ok keyStrG Try.underlying125 (zeroIntG w2) hkey
        refine HK2.out _ _ (fun _ => by rw [cell_of_row w2 kb _ _ _ (0, 0) HK2'.out.box]; rfl) ?_
        clear HK2 K' hF2 hb2 hb2' hb2r Hstr HS hel hkey
        try simp only [Act.put, List.setIfInBounds_toArray, List.set_cons_zero, List.set_cons_succ]
        refine ordW_do (by rfl) (fun K' HK2 => ?_)
        go_simp
        refine HK2.out _ _ (fun _ => by rw [cell_of_row w2 kb _ _ _ (0, 0) HK2'.out.box]; rfl) ?_
        clear HK2 K' hlook
        try simp only [Act.put, List.setIfInBounds_toArray, List.set_cons_zero, List.set_cons_succ]
        iterate 4 (
          refine ordW_read (v := ?_) (by rfl) ?_ (fun _ _ _ h => h) ?_
          rotate_left
          focus (intro w' s0; go_simp; (try with_reducible rfl); done)
          try simp only [Act.put, List.setIfInBounds_toArray, List.set_cons_zero, List.set_cons_succ])
        refine ordW_do (by rfl) (fun K' HK2 => ?_)
        go_simp
        refine HK2.out _ _ (fun h => absurd rfl h) (ordW_nil ?_)
        clear HK2 K'
        cases hf : fa (.string ⟨(encS l).toArray⟩) with
        | some u =>
          obtain ⟨m, x, hu, hx, he⟩ := HK.out.faS _ _ hf
          have e1 := hval u hf
          subst e1
          subst hu
          have hxl : x.2 = l := by
            have h1 := (HK.out.ok x (List.mem_of_getElem? hx)).2.1
            refine encS_inj (fun z hz => by have := h1 z hz; have := Hk.out; omega) (fun z hz => by have := Hl.out.2 z hz; have := Hk.out; omega) ?_
            have := congrArg (fun b : ByteArray => b.data.toList) he
            simpa using this.symm
          have HE : Hid (PlaceP X W n0 kb am nm cv g N c k kk S T C nx fx l (.returned (.int .i64 (m : Nat))) w2) := Lib.hid (.inr ⟨by have := Hln.out; omega, m, cv, C, na, fa, rfl, HK2'.out.more (Nat.le_succ T), ⟨x, hx, hxl⟩, fun _ _ h => h, KnKeep.of_below HB2.out, fun _ h => .inl h⟩)
          clear hval hf he hx hxl
          go_wp2_with fail
          go_ret
          exact HE.out
        | none =>
          clear hval
          obtain ⟨ca, cc, rfl, _, _⟩ := owns_valPK HK.out.come
          have hcnt := HK.out.cnt
          have hrow2 : Row w2 w2.heap.size 1 (.slice va l.length vc) l.length (svt l) := by
            have h1 := (Hr.out.below HB2.out).mono HB2.out.size
            rw [Hln.out] at h1; exact h1
          obtain ⟨a3, c3, w3, happ, hc3, hf3, hl3, hK3, hk3, ho3⟩ := HK2'.out.push va vc l hrow2 (fun h0 q e => by
            obtain ⟨h1, h2⟩ := Hv.out (by rw [Hln.out]; exact h0) q (by rw [Hln.out]; exact e)
            exact ⟨h1, Nat.lt_of_lt_of_le h2.1 HB2.out.size, h2.2⟩) ⟨Hl.out.1, Hl.out.2, by have := Hln.out; omega⟩ (by have := HT.out; omega) (by omega)
          rw [← Hln.out] at happ hK3
          have x3 : w2.cell? ⟨kb, 3, none⟩ = some (.slice ca C.length cc) := by rw [cell_of_row w2 kb _ _ _ (0, 0) HK2'.out.box]; rfl
          have hsz2 := HB2.out.size
          have HF3 : Hid (BldF W.heap.size W.heap.size (encS l) (w3.setCell ⟨kb, 3, none⟩ (.slice a3 (C.length + 1) c3))) := Lib.hid (HF2.out.kept fun q h1 h2 => hk3.block q h2 fun h3 => by
            rcases h3 with h3 | h3 | h3 | h3
            · have := HK.out.kbl; omega
            · have := HK.out.atM.lt; omega
            · have := HK.out.nxM.lt; omega
            · have := (HK.out.come.lt q h3).2; omega)
          have HK3 := Lib.hid hK3; have Hk3 := Lib.hid hk3; have Ho3 := Lib.hid ho3; have Hf := Lib.hid hf
          obtain ⟨n, hn⟩ : ∃ n, n = C.length := ⟨_, rfl⟩
          rw [← hn] at happ hc3 HK3 Hk3 Ho3 x3 HF3
          have Hn := Lib.hid hn
          have hn9 : (n : Int) ≤ 2000000000000 := by have := HT.out; omega
          clear hrow2 hK3 hk3 ho3 hf hn hcnt
          simp only [Option.isSome_none]
          go_upto_region 14 with fail
          obtain ⟨w4, hw4⟩ : ∃ w4, w4 = w3.setCell ⟨kb, 3, none⟩ (.slice a3 (n + 1) c3) := ⟨_, rfl⟩
          rw [← hw4] at HK3 Hk3 HF3 ⊢
          have hs24 : w2.heap.size ≤ w4.heap.size := Hk3.out.size
          clear happ hc3 hf3 hl3 x3 hw4
          have x4 : w4.cell? ⟨kb, 4, none⟩ = some (.map (some am)) := by rw [cell_of_row w4 kb _ _ _ (0, 0) HK3.out.box]; rfl
          have Hstr := Lib.hid (bldf_stringK W.heap.size W.heap.size (encS l) w4.drew (HF3.out.kept fun _ _ _ => rfl) (by show W.heap.size ≤ w4.heap.size; omega))
          have Hx4 := Lib.hid x4
          refine wp_region_ord 6 [(0, true), (1, true), (2, true), (3, true), (5, true), (4, false), (6, false)] (fun w' => w'.cell? ⟨kb, 4, none⟩ = some (.map (some am))) (by kernel_rfl) (by kernel_rfl) x4 ?_
          clear x4
          simp only [ordL, List.getElem?_toArray, List.getElem?_cons_succ, List.getElem?_cons_zero]
          iterate 5 (
            refine ordW_read (v := ?_) (by rfl) ?_ (fun _ _ _ h => h) ?_
            rotate_left
            focus (intro w' s0; go_simp; (try with_reducible rfl); done)
            try simp only [Act.put, List.setIfInBounds_toArray, List.set_cons_zero, List.set_cons_succ])
          refine ordW_do (by rfl) (fun K' HK5 => ?_)
          go_simp
          refine (Hstr.out).mono ?_
          rintro e w5 ⟨rfl, hF5, hb5, hoth⟩
          have hK5 : Kn X w5 n0 kb am nm (.slice a3 (n + 1) c3) g N c k kk S (T + 1) (C ++ [(.slice va i vc, l)]) na nx fa fx := by
            refine HK3.out.kept hb5.size ⟨hb5.os, hb5.tape, hb5.output⟩ fun q hq => ?_
            have hlow : q < W.heap.size → w5.heap[q]? = w4.heap[q]? := fun h => hb5.block q h
            rcases hq with h1 | (h1 | h1 | h1 | h1) | ⟨x, hx, h0, h1⟩
            · exact hlow (by have := HK.out.lt; omega)
            · exact hlow (by have := HK.out.kbl; omega)
            · exact hlow (by have := HK.out.atM.lt; omega)
            · exact hlow (by have := HK.out.nxM.lt; omega)
            · rcases Nat.lt_or_ge q W.heap.size with h2 | h2
              · exact hlow h2
              · obtain ⟨cs, hcs⟩ := owns_blockAt HK3.out.come h1
                rw [hcs]
                refine hoth q _ _ _ hcs ?_ (by decide)
                have h3 := (Ho3.out q (.inr (.inr (.inr h1))))
                intro e
                rcases h3 with h4 | h4
                · rw [Hn.out] at h4
                  rcases h4 with h5 | h5 | h5 | h5
                  · have := HK.out.kbl; omega
                  · have := HK.out.atM.lt; omega
                  · have := HK.out.nxM.lt; omega
                  · have := (HK.out.come.lt q h5).2; omega
                · have := HK2'.out.kbl; have hb := HF2.out.lt; omega
            · refine hlow ?_
              rcases List.mem_append.1 hx with h2 | h2
              · exact ((HK.out.each x h2).2 h0 q h1).2.1
              · rw [List.mem_singleton.1 h2] at h1 h0
                exact (Hv.out (by rw [Hln.out]; exact h0) q h1).2.1
          have hb5s : w4.heap.size ≤ w5.heap.size := hb5.size
          obtain ⟨w6, hupd, hM6, hg6⟩ := hK5.atM.update keyStrG Try.underlying125 (by unfold maxLen; have := HK.out.cnt; have := HT.out; omega) Hkey.out (.int .i64 (n : Nat))
          obtain ⟨hK6, hk6⟩ := hK5.mark hg6 _ hM6 (fun s v hs => by
            by_cases e : (Value.string s) = .string ⟨(encS l).toArray⟩
            · have e2 : s = ⟨(encS l).toArray⟩ := by injection e
              subst e2
              rw [putF_same] at hs
              refine ⟨n, (.slice va i vc, l), (Option.some.inj hs).symm, ?_, rfl⟩
              rw [Hn.out, List.getElem?_append_right (Nat.le_refl _)]; simp
            · rw [putF_other _ e] at hs
              obtain ⟨m, x, h1, h2, h3⟩ := HK.out.faS s v hs
              exact ⟨m, x, h1, by rw [List.getElem?_append_left (List.getElem?_eq_some_iff.1 h2).1]; exact h2, h3⟩) (by have := HK.out.cnt; omega)
          have HE : Hid (PlaceP X W n0 kb am nm (.slice ca n cc) g N c k kk S T C nx fx l (.returned (.int .i64 (n : Nat))) w6) := Lib.hid (.inr ⟨by have := Hln.out; omega, n, .slice a3 (n + 1) c3, C ++ [(.slice va i vc, l)], na + 1, _, rfl, hK6, ⟨(.slice va i vc, l), by rw [Hn.out, List.getElem?_append_right (Nat.le_refl _)]; simp, rfl⟩, fun j x hj => by rw [List.getElem?_append_left (List.getElem?_eq_some_iff.1 hj).1]; exact hj, ?_, fun q hq => by
            rcases Ho3.out q hq with h1 | h1
            · exact .inl h1
            · exact .inr (Nat.le_trans hsz2 h1)⟩)
          · refine HK5.out _ _ (fun _ => by rw [cell_of_row w5 kb _ _ _ (0, 0) hK5.box]; rfl) ?_
            clear HK5 K' Hstr
            try simp only [Act.put, List.setIfInBounds_toArray, List.set_cons_zero, List.set_cons_succ]
            refine ordW_do (by rfl) (fun K' HK5 => ?_)
            go_simp
            refine HK5.out _ _ (fun h => absurd rfl h) (ordW_nil ?_)
            clear HK5 K' hupd hM6 hg6 hK6 hk6 hK5
            go_wp2_with fail
            go_ret
            have h9 := HE.out
            unfold PlaceP at h9 ⊢
            rw [← Hn.out]
            exact h9
          · refine ⟨?_, ?_, ?_, ?_, fun q hq hn => ?_⟩
            · exact (hk6.os.trans hb5.os).trans (Hk3.out.os.trans HB2.out.os)
            · exact (hk6.tape.trans hb5.tape).trans (Hk3.out.tape.trans HB2.out.tape)
            · exact (hk6.output.trans hb5.output).trans (Hk3.out.output.trans HB2.out.output)
            · exact Nat.le_trans hsz2 (Nat.le_trans hs24 (Nat.le_trans hb5s hk6.size))
            · have h1 : ¬ ownK kb am nm (.slice a3 (n + 1) c3) q := fun h => by
                rcases Ho3.out q h with h2 | h2
                · exact hn h2
                · omega
              exact (hk6.block q (by omega) h1).trans ((hb5.block q (by show q < W.heap.size; exact hq)).trans ((Hk3.out.block q (by omega) hn).trans (HB2.out.block q hq)))
end Go.Proofs.Ytimgnbacgdmiiaa
