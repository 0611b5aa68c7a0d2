/-
  reach.come, whole.
-/
import Derived.Test.YtfmcigodfihlcaaReaF
namespace Go.Proofs.Ytfmcigodfihlcaa
open Go.RowKit PK
set_option linter.unusedVariables false
set_option linter.unusedSimpArgs false
attribute [local go_sem ↓] append_appM

structure CI (N : Nat) (F : Int → List Int) (S L : List Int) (i : Nat) : Prop where
  nd : L.Nodup
  rg : ∀ x ∈ L, 0 ≤ x ∧ x < N
  rc : ∀ x ∈ L, Rc F S x
  st : ∀ x ∈ S, x ∈ L
  cl : ∀ j (h : j < L.length), j < i → ∀ y ∈ F L[j], y ∈ L
  le : i ≤ L.length
theorem CI.start {N : Nat} {F : Int → List Int} {S : List Int} (hS : ∀ x ∈ S, 0 ≤ x ∧ x < N) : CI N F S (noteL [] S) 0 :=
  ⟨noteL_nodup _ _ List.nodup_nil, fun x hx => by
    rcases (noteL_mem _ _ _).1 hx with h | h
    · cases h
    · exact hS x h, fun x hx => by
    rcases (noteL_mem _ _ _).1 hx with h | h
    · cases h
    · exact .base h, fun x hx => (noteL_mem _ _ _).2 (.inr hx), fun j _ h => by omega, Nat.zero_le _⟩
theorem CI.next {N : Nat} {F : Int → List Int} {S L : List Int} {i : Nat} (h : CI N F S L i) (hi : i < L.length) (hF : ∀ y ∈ F L[i], 0 ≤ y ∧ y < N) : CI N F S (noteL L (F L[i])) (i + 1) := by
  obtain ⟨t, ht⟩ := noteL_pre L (F L[i])
  have hat : ∀ j (h1 : j < L.length) (h2 : j < (noteL L (F L[i])).length), (noteL L (F L[i]))[j] = L[j] := fun j h1 h2 => by
    simp only [← ht, List.getElem_append_left h1]
  refine ⟨noteL_nodup _ _ h.nd, fun x hx => ?_, fun x hx => ?_, fun x hx => (noteL_mem _ _ _).2 (.inl (h.st x hx)), fun j hj hji y hy => ?_, ?_⟩
  · rcases (noteL_mem _ _ _).1 hx with h1 | h1
    · exact h.rg x h1
    · exact hF x h1
  · rcases (noteL_mem _ _ _).1 hx with h1 | h1
    · exact h.rc x h1
    · exact .step (h.rc _ (List.getElem_mem hi)) h1
  · have hjl : j < L.length := by omega
    rw [hat j hjl hj] at hy
    rcases Nat.lt_or_ge j i with h1 | h1
    · exact (noteL_mem _ _ _).2 (.inl (h.cl j hjl h1 y hy))
    · obtain rfl : j = i := by omega
      exact (noteL_mem _ _ _).2 (.inr hy)
  · have : (noteL L (F L[i])).length = L.length + t.length := by rw [← ht, List.length_append]
    omega
theorem CI.done {N : Nat} {F : Int → List Int} {S L : List Int} {i : Nat} (h : CI N F S L i) (hi : L.length ≤ i) (x : Int) : x ∈ L ↔ Rc F S x :=
  ⟨h.rc x, Rc.closed h.st fun z hz y hy => by
    obtain ⟨j, hj, rfl⟩ := List.getElem_of_mem hz
    exact h.cl j hj (by omega) y hy⟩
/-- What come answers. -/
def ComeP (w : World) (N : Nat) (F : Int → List Int) (S : List Int) (e : Ending) (w' : World) : Prop := ∃ a c st, e = .returned (.slice a N c) ∧ Row w' w'.heap.size 1 (.slice a N c) N (bools st) ∧ st.length = N ∧ (∀ j : Nat, j < N → (st[j]? = some true ↔ Rc F S (j : Int))) ∧ Below w.heap.size w w'
set_option maxHeartbeats 4000000 in
set_option maxRecDepth 100000 in
theorem come_any (w : World) (n2 gO N : Nat) (vo sv : Value) (X : List (Value × List Int)) (F : Int → List Int) (S : List Int) (hO : Ofs w n2 gO vo X) (hX : X.length = N) (hN : 1 ≤ N ∧ N ≤ 1000) (hF : ∀ (j : Nat) x, X[j]? = some x → x.2 = F (j : Int)) (hr : ∀ (x y : Int), y ∈ F x → 0 ≤ y ∧ y < N)
    (rs : Row w w.heap.size 1 sv S.length (ints S)) (hS : ∀ x ∈ S, 0 ≤ x ∧ x < N) :
    Calls Try.prog 48 #[.int .i64 (N : Nat), sv, .func (.func 64) #[] #[.pointer (some ⟨gO, 0, none⟩)]] w (ComeP w N F S) := by
  obtain ⟨sa, sc, rfl, _, hsc⟩ := rs.val
  obtain ⟨i0, hi, hz0, hz1, hz2⟩ := info_parts info_boolT
  have HO := Lib.hid hO; have HX := Lib.hid hX; have HF := Lib.hid hF; have Hr := Lib.hid hr; have Rs := Lib.hid rs; have HS := Lib.hid hS
  obtain ⟨hN1, hN2⟩ := hN
  clear hO hX hF hr rs hS hsc
  go_enter Try.func48, Try.ntmps48
  go_upto_region 3 with (at_make; refine wpList_make_full _ rfl _ _ 28 rfl w.heap.size 4 i0 (.bool false) 1 Try.underlying28 hi hz0 hz1 .i64 .i64 _ _ N rfl rfl rfl rfl (by rw [hz2]; omega) (by unfold maxLen; omega) (Nat.le_refl _) ?_; intro wm hown hgrow; have Hown := Lib.hid hown; have Hgrow := Lib.hid hgrow; clear hown hgrow)
  have hbm : Below w.heap.size w wm := (Below.refl w.heap.size w).grown Hgrow.out (Nat.le_refl _) (fun k e => by cases e)
  have hrowm : wm.ownsRow w.heap.size 4 1 (.slice (some ⟨w.heap.size, 0, none⟩) N N) N (bools (marksL N [])) := by
    have e : (madeCells (Value.bool false).cells (N * 1)).toList = bools (marksL N []) := by
      rw [Nat.mul_one]; show (madeCells #[Value.bool false] N).toList = _
      rw [toList_madeCells_one]
      apply List.ext_getElem?
      intro j
      unfold bools
      rw [List.getElem?_map, List.getElem?_replicate]
      by_cases hj : j < N
      · rw [if_pos hj, marksL_at _ _ _ hj]; simp
      · rw [if_neg hj, List.getElem?_eq_none (by rw [marksL_len]; omega)]; rfl
    have := Hown.out; rw [e] at this; exact this
  have hgm : w.heap.size < wm.heap.size := (hrowm.lt _ rfl).2
  have hb4 := (Below.refl wm.heap.size wm).alloc (Nat.le_refl _) (.cells #[.slice (some ⟨w.heap.size, 0, none⟩) N N] 28)
  have hs4 : (wm.alloc (.cells #[.slice (some ⟨w.heap.size, 0, none⟩) N N] 28)).heap.size = wm.heap.size + 1 := by simp
  have hb5 := (Below.refl _ (wm.alloc (.cells #[.slice (some ⟨w.heap.size, 0, none⟩) N N] 28))).alloc (Nat.le_refl _) (.cells #[.slice none 0 0] 22)
  have hC5 : Cm ((wm.alloc (.cells #[.slice (some ⟨w.heap.size, 0, none⟩) N N] 28)).alloc (.cells #[.slice none 0 0] 22)) w.heap.size wm.heap.size (wm.heap.size + 1) w.heap.size N (.slice none 0 0) [] := by
    refine ⟨by simp; omega, by omega, ?_, ?_, owns_belowP (hrowm.alloc _) hb5, World.ownsRow_nil _ _ _ _, by omega, fun k e => by cases e⟩
    · rw [hb5.block _ (by rw [hs4]; omega)]; exact box_new wm _ _
    · have := box_new (wm.alloc (.cells #[.slice (some ⟨w.heap.size, 0, none⟩) N N] 28)) #[.slice none 0 0] 22
      rw [hs4] at this; exact this
  have hB5 := hbm.trans ((hb4.trans (hb5.mono hb4.size)).mono hbm.size)
  have HC5 := Lib.hid hC5; have HB5 := Lib.hid hB5
  obtain ⟨gi, hgi⟩ : ∃ gi, gi = wm.heap.size := ⟨_, rfl⟩
  rw [← hgi] at HC5 ⊢
  clear hbm hrowm hgm hb4 hs4 hb5 hC5 hB5 hi hz0 hz1 hz2 Hown Hgrow hgi
  generalize (wm.alloc (.cells #[.slice (some ⟨w.heap.size, 0, none⟩) N N] 28)).alloc (.cells #[.slice none 0 0] 22) = w5 at *
  have Hn := Lib.hid (note_any w5 w.heap.size gi (gi + 1) w.heap.size N (.slice none 0 0) [] (.slice sa S.length sc) S hN2 HC5.out List.nodup_nil (fun x hx => by cases hx) (Rs.out.below HB5.out) HS.out)
  go_wp2_with fail
  refine (Hn.out).mono ?_
  rintro e w6 ⟨rfl, lv6, hC6, hB6⟩
  have HC6 := Lib.hid hC6
  have HB6 := Lib.hid (HB5.out.trans hB6)
  have HI6 := Lib.hid (CI.start (F := F) HS.out)
  clear hC6 hB6 Hn HC5 HB5
  go_wp2_with fail
  go_loopw [10] (fun iv wr => ∃ (i : Nat) (lv : Value) (L : List Int), iv = .int .i64 (i : Nat) ∧ Hid (Cm wr w.heap.size gi (gi + 1) w.heap.size N lv L) ∧ Hid (CI N F S L i) ∧ Hid (Below w.heap.size w wr)) (fun iv _ => N - (intOf iv).toNat)
  case atStart => exact ⟨0, lv6, _, rfl, HC6, HI6, HB6⟩
  case round =>
    clear HC6 HI6 HB6
    obtain ⟨i, lv, L, rfl, HC, HI, HB⟩ := hrel
    have hle := nodup_le HI.out.nd HI.out.rg
    obtain ⟨c1, c2, f2⟩ := HC.out.cells
    obtain ⟨va, vc, rfl, _, hvc⟩ := owns_valP HC.out.lst
    have hci := HI.out.le
    by_cases hlt : i < L.length
    · obtain ⟨gb, hv, hg1, hg2, hcl, _⟩ := owns_cellN HC.out.lst (by omega)
      subst hv
      have c3 := hcl i _ (ints_at L i hlt)
      have hrg := HI.out.rg _ (List.getElem_mem hlt)
      have Hnx := Lib.hid (HI.out.next hlt (Hr.out _))
      have HOw := Lib.hid (HO.out.below HB.out)
      generalize hLi : L[i] = y at *
      obtain ⟨q, rfl⟩ : ∃ q : Nat, y = (q : Int) := ⟨y.toNat, by omega⟩
      have hqX : q < X.length := by have := HX.out; omega
      obtain ⟨x, hx⟩ : ∃ x, X[q]? = some x := ⟨_, List.getElem?_eq_getElem hqX⟩
      have hxe := HF.out q x hx
      have Hnext := Lib.hid (next_any wr n2 gO N vo X HOw.out HX.out hN2 q x hx)
      have hown := HO.out.each _ (List.mem_of_getElem? hx)
      have hrow : Row wr w.heap.size 1 x.1 (F (q : Int)).length (ints (F (q : Int))) := by
        rw [← hxe]; exact (Row.of_owns hown).below HB.out
      have Hnote := Lib.hid (note_any wr w.heap.size gi (gi + 1) w.heap.size N (.slice (some ⟨gb, 0, none⟩) L.length vc) L x.1 (F (q : Int)) hN2 HC.out HI.out.nd HI.out.rg hrow (Hr.out _))
      obtain ⟨xa, xc, hxv, _, _⟩ := owns_valP hown
      rw [hxv] at Hnote Hnext
      have hi1 : (i : Int) < (L.length : Int) := by omega
      have hi2 : (0 : Int) ≤ (i : Int) := by omega
      have Hlt := Lib.hid (show i < N by omega)
      obtain ⟨ln, hln⟩ : ∃ ln, ln = L.length := ⟨_, rfl⟩
      rw [← hln] at c2 hi1
      obtain ⟨xn, hxn⟩ : ∃ xn, xn = x.2.length := ⟨_, rfl⟩
      rw [← hxn] at Hnote Hnext
      have hi3 : (i : Int) ≤ 1000 := by omega
      clear hcl hrg hLi hqX hx hxe hown hrow hxv hle hci hlt hln hxn hvc hg1 hg2
      go_wp2_with fail
      refine (Hnext.out).mono ?_
      rintro e w7 ⟨rfl, rfl⟩
      go_wp2_with fail
      refine (Hnote.out).mono ?_
      rintro e w8 ⟨rfl, lv8, hC8, hB8⟩
      have HC8 := Lib.hid hC8
      have HB8 := Lib.hid (HB.out.trans hB8)
      clear hC8 hB8 Hnote Hnext c1 c2 c3
      go_wp2_with fail
      go_roundw
      case rel => exact ⟨i + 1, lv8, _, by go_num, HC8, Hnx, HB8⟩
      case measure => have := Hlt.out; simp [intOf]; omega
    · have hd := HI.out.done (by omega)
      have hrow := Row.of_owns HC.out.row
      have hlt2 : decide (i < L.length) = false := decide_eq_false hlt
      obtain ⟨ln, hln⟩ : ∃ ln, ln = L.length := ⟨_, rfl⟩
      rw [← hln] at c2 hlt2
      have Hd := Lib.hid hd; have Hrow := Lib.hid hrow
      clear hd hrow hlt hln hle hci hvc
      go_wp2_with fail
      go_ret
      refine ⟨_, _, _, rfl, Hrow.out, marksL_len _ _, fun j hj => ?_, HB.out⟩
      rw [marksL_at _ _ _ hj, ← Hd.out]
      simp
end Go.Proofs.Ytfmcigodfihlcaa
