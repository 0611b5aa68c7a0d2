/-
  The document's Heads; PackCats.
-/
import Derived.Test.YtbmaappambmhoaaPackP
namespace Go.Proofs.Ytbmaappambmhoaa
open Go.RowKit PK
set_option linter.unusedVariables false
attribute [local go_sem ↓] append_appM

structure HI (a : List Tx) (n i : Nat) (L : List Int) : Prop where
  set : IsSet L
  mem : ∀ x, x ∈ L ↔ (x ∈ headsF a ∧ x < (n : Int)) ∨ (x = (n : Int) ∧ x ∈ headsF (a.take i))
  len : L.length ≤ n ∨ ((n : Int) ∈ L ∧ L.length ≤ n + 1)
theorem HI.start (a : List Tx) : HI a 0 0 [] := by
  refine ⟨List.Pairwise.nil, fun x => ?_, .inl (Nat.le_refl _)⟩
  constructor
  · intro h; cases h
  · rintro (⟨h, h2⟩ | ⟨_, h⟩)
    · have := (headsF_range a x h).1; omega
    · simp [headsF] at h
theorem HI.len0 {a : List Tx} {n : Nat} {L : List Int} (h : HI a n 0 L) : L.length ≤ n := by
  rcases h.len with h1 | ⟨h1, _⟩
  · exact h1
  · rcases (h.mem _).1 h1 with ⟨_, h2⟩ | ⟨_, h2⟩
    · omega
    · simp [headsF] at h2
theorem HI.next {a : List Tx} {n : Nat} {L : List Int} (h : HI a n a.length L) : HI a (n + 1) 0 L := by
  refine ⟨h.set, fun x => ?_, .inl ?_⟩
  · rw [h.mem x, List.take_length]
    constructor
    · rintro (⟨h1, h2⟩ | ⟨h1, h2⟩)
      · exact .inl ⟨h1, by omega⟩
      · exact .inl ⟨h2, by omega⟩
    · rintro (⟨h1, h2⟩ | ⟨_, h2⟩)
      · by_cases h3 : x < (n : Int)
        · exact .inl ⟨h1, h3⟩
        · exact .inr ⟨by omega, h1⟩
      · simp [headsF] at h2
  · rcases h.len with h1 | ⟨_, h1⟩ <;> omega
theorem HI.skip {a : List Tx} {n i : Nat} {L : List Int} (h : HI a n i L) (hi : i < a.length) (hs : (n : Int) ∈ hd a[i] → (n : Int) ∈ L) : HI a n (i + 1) L := by
  refine ⟨h.set, fun x => ?_, h.len⟩
  rw [← headsF_take a i hi, List.mem_append]
  constructor
  · intro hx
    rcases (h.mem x).1 hx with h1 | ⟨h1, h2⟩
    · exact .inl h1
    · exact .inr ⟨h1, .inl h2⟩
  · rintro (h1 | ⟨h1, h2 | h2⟩)
    · exact (h.mem x).2 (.inl h1)
    · exact (h.mem x).2 (.inr ⟨h1, h2⟩)
    · subst h1; exact hs h2
theorem HI.push {a : List Tx} {n i : Nat} {L : List Int} (h : HI a n i L) (hi : i < a.length) (hs : (n : Int) ∈ hd a[i]) (hn : (n : Int) ∉ L) : HI a n (i + 1) (L ++ [(n : Int)]) := by
  refine ⟨List.pairwise_append.2 ⟨h.set, List.pairwise_singleton _ _, fun x hx y hy => ?_⟩, fun x => ?_, .inr ⟨by simp, ?_⟩⟩
  · rw [List.mem_singleton.1 hy]
    rcases (h.mem x).1 hx with ⟨_, h2⟩ | ⟨h2, _⟩
    · exact h2
    · subst h2; exact absurd hx hn
  · rw [← headsF_take a i hi, List.mem_append, List.mem_append, List.mem_singleton, h.mem x]
    constructor
    · rintro ((h1 | ⟨h1, h2⟩) | h1)
      · exact .inl h1
      · exact .inr ⟨h1, .inl h2⟩
      · exact .inr ⟨h1, .inr (h1 ▸ hs)⟩
    · rintro (h1 | ⟨h1, h2⟩)
      · exact .inl (.inl h1)
      · exact .inr h1
  · rw [List.length_append]
    rcases h.len with h1 | ⟨h1, _⟩
    · simpa using h1
    · exact absurd h1 hn
theorem HI.done {a : List Tx} {L : List Int} (h : HI a 256 0 L) : L = toSetI (headsF a) := int_ext h.set (toSetI_set _) fun x => by
  rw [toSetI_mem, h.mem x]
  constructor
  · rintro (⟨h1, _⟩ | ⟨_, h1⟩)
    · exact h1
    · simp [headsF] at h1
  · intro h1; exact .inl ⟨h1, (headsF_range a x h1).2⟩
theorem HI.le {a : List Tx} {n i : Nat} {L : List Int} (h : HI a n i L) (hn : n ≤ 256) : L.length ≤ 257 := by rcases h.len with h1 | ⟨_, h1⟩ <;> omega

set_option maxHeartbeats 2000000 in
set_option maxRecDepth 100000 in
theorem refHeads_any (v : Value) (a : List Tx) (B : Nat) (w : World) (hB : B ≤ w.heap.size) (r : Row w B 1 v a.length (svt a)) (hl : a.length ≤ 10000) (hx : ∀ x ∈ a, x.length ≤ 1000) :
    Calls Try.prog 26 #[v] w (OwnI w (toSetI (headsF a))) := by
  obtain ⟨ao, c, rfl, hc1, hc2⟩ := r.val
  have hl63 : a.length ≤ 9223372036854775807 := by omega
  have R := Lib.hid r; have Hx := Lib.hid hx
  clear r hx
  have hown0 := World.ownsRow_made (base := w.heap.size) (e := 3) (size := 1) w #[] 0 (Nat.le_refl _) (Nat.zero_le _) rfl
  go_enter Try.func26, Try.ntmps26
  go_wp2_with fail
  go_loopw [3, 4] (fun o i wr => ∃ (n : Nat) (L : List Int), n ≤ 256 ∧ i = .int .i64 n ∧ Hid (wr.ownsRow w.heap.size 3 1 o L.length (ints L)) ∧ Hid (HI a n 0 L) ∧ Hid (Below w.heap.size w wr)) (fun _ i _ => 256 - (intOf i).toNat)
  case atStart => exact ⟨0, [], by omega, rfl, Lib.hid hown0, Lib.hid (HI.start a), Lib.hid ((Below.refl _ w).alloc (Nat.le_refl _) _)⟩
  case round =>
    obtain ⟨n, L, hn, rfl, Hown, Hh, Hbel⟩ := hrel
    by_cases hlt : n < 256
    · have hn0 : (n : Int) < 256 := by omega
      obtain ⟨wo, rfl⟩ : ∃ wo : World, wo = wr := ⟨_, rfl⟩
      go_wp2_with fail
      go_loopw [3, 5] (fun o i wx => ∃ (k : Nat) (M : List Int), k ≤ a.length ∧ i = .int .i64 k ∧ Hid (wx.ownsRow w.heap.size 3 1 o M.length (ints M)) ∧ Hid (HI a n k M) ∧ Hid (Below w.heap.size w wx)) (fun _ i _ => a.length - (intOf i).toNat)
      case atStart => exact ⟨0, L, Nat.zero_le _, rfl, Hown, Hh, Hbel⟩
      case round =>
        obtain ⟨k, M, hk, rfl, HM, Hk, Hb⟩ := hrel
        obtain ⟨oo, oc, rfl, ho1, ho2⟩ := owns_valP HM.out
        have hMl := Hk.out.le hn
        by_cases hkl : k < a.length
        · have a1 := R.out.below (Hb.out.mono hB)
          obtain ⟨b1, o1, rfl, hb1, _⟩ := a1.at (by rw [svt_length]; omega)
          have c10 := a1.cell k _ (svt_at a k hkl)
          have hk0 : (k : Int) < (a.length : Int) := by omega
          have hk1 : (0 : Int) ≤ (k : Int) := by omega
          have hxl := Hx.out _ (List.getElem_mem hkl)
          have Hskip := Lib.hid (Hk.out.skip hkl); have Hpush := Lib.hid (Hk.out.push hkl)
          clear a1
          generalize a[k] = x at *
          cases x with
          | nil =>
            have Hs := Lib.hid (Hskip.out (by simp [hd]))
            clear Hskip Hpush hxl
            go_wp2_with fail
            go_roundw
            case rel => exact ⟨k + 1, M, hkl, by go_num, HM, Hs, Hb⟩
            case measure => simp [intOf]; omega
          | cons y x =>
            have hw1 : ∀ h : 0 < (ByteArray.mk (y :: x).toArray).size, (ByteArray.mk (y :: x).toArray)[0]'h = y := fun _ => rfl
            have hw2 : wrap64 (y.toNat : Int) = (y.toNat : Int) := by have := y.toNat_lt; unfold wrap64; omega
            have hy2 : y.toNat ≤ 255 := by have := y.toNat_lt; omega
            have hxl2 : x.length ≤ 999 := by simp at hxl; omega
            clear hxl
            by_cases hyn : y.toNat = n
            · subst hyn
              have Hmem : Hid (((y.toNat : Nat) : Int) ∈ hd (y :: x)) := Lib.hid (by simp [hd])
              have Hhas := Lib.hid (hasInt_any _ M (y.toNat : Int) wr.heap.size wr (Nat.le_refl _) (Row.of_owns HM.out))
              by_cases hin : (y.toNat : Int) ∈ M
              · rw [decide_eq_true hin] at Hhas
                have Hs := Lib.hid (Hskip.out fun _ => hin)
                clear Hskip Hpush hin
                go_wp2_with fail
                refine (Hhas.out).mono ?_
                rintro e w2 ⟨rfl, b2⟩
                have HM2 := Lib.hid (owns_belowP HM.out b2)
                have Hb2 := Lib.hid (Hb.out.trans (b2.mono Hb.out.size))
                clear b2
                go_wp2_with fail
                go_roundw
                case rel => exact ⟨k + 1, M, hkl, by go_num, HM2, Hs, Hb2⟩
                case measure => simp [intOf]; omega
              · rw [decide_eq_false hin] at Hhas
                have Hs := Lib.hid (Hpush.out Hmem.out hin)
                clear Hskip Hpush hin
                go_wp2_with fail
                refine (Hhas.out).mono ?_
                rintro e w2 ⟨rfl, b2⟩
                have Hb2 := Lib.hid (Hb.out.trans (b2.mono Hb.out.size))
                obtain ⟨vo, vc, w3, happ, hown3, hbel3, hv1, hv2⟩ := pushI0 w2 w.heap.size M.length (.slice oo M.length oc) M (y.toNat : Int) Hb2.out.size rfl (owns_belowP HM.out b2) (by omega)
                have Hown3 : Hid (w3.ownsRow w.heap.size 3 1 (.slice vo (M.length + 1) vc) (M ++ [(y.toNat : Int)]).length (ints (M ++ [(y.toNat : Int)]))) := Lib.hid (by rw [List.length_append]; exact hown3)
                have Hb3 := Lib.hid (Hb2.out.trans hbel3)
                unfold maxLen at hv2
                clear b2 hown3 hbel3
                go_wp2_with fail
                go_roundw
                case rel => exact ⟨k + 1, _, hkl, by go_num, Hown3, Hs, Hb3⟩
                case measure => simp [intOf]; omega
            · have Hs := Lib.hid (Hskip.out (fun h => by simp [hd] at h; omega))
              have q1 : ((y.toNat : Int) == (n : Int)) = false := by simp only [beq_eq_false_iff_ne, ne_eq]; omega
              have q2 : (y.toNat == n) = false := by simpa using hyn
              clear Hskip Hpush hyn
              go_wp2_with fail
              go_roundw
              case rel => exact ⟨k + 1, M, hkl, by go_num, HM, Hs, Hb⟩
              case measure => simp [intOf]; omega
        · obtain rfl : k = a.length := by omega
          have Hs := Lib.hid Hk.out.next
          go_wp2_with fail
          go_roundw
          case rel => exact ⟨n + 1, M, hlt, by go_num, HM, Hs, Hb⟩
          case measure => simp [intOf]; omega
    · obtain rfl : n = 256 := by omega
      have Hd := Lib.hid Hh.out.done
      go_wp2_with fail
      go_ret
      exact ⟨_, rfl, by rw [← Hd.out]; exact Hown.out, Hbel.out⟩
end Go.Proofs.Ytbmaappambmhoaa
