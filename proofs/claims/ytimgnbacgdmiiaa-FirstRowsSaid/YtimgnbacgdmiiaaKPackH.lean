/-
  pack.Join, Meet, Has, Same.
-/
import Derived.Test.YtimgnbacgdmiiaaKPackG
namespace Go.Proofs.Ytimgnbacgdmiiaa
open Go.RowKit PK
set_option linter.unusedVariables false

theorem rowOfOwn {w w' : World} {base n : Nat} {v : Value} {l : List Tx} (h : w.ownsRow base 9 1 v n (svt l)) (hb : Below w.heap.size w w') : Row w' w'.heap.size 1 v n (svt l) :=
  ((Row.of_owns h).below hb).mono hb.size

theorem packJoin_any (v1 v2 : Value) (a b : List Tx) (B1 B2 : Nat) (w : World) (hB1 : B1 ≤ w.heap.size) (hB2 : B2 ≤ w.heap.size) (r1 : Row w B1 1 v1 a.length (svt a)) (r2 : Row w B2 1 v2 b.length (svt b)) (ha : a.length ≤ 100000) (hb : b.length ≤ 100000) :
    Calls Try.prog 48 #[v1, v2] w (OwnT w (joinL a b)) := by
  have R2 := Lib.hid r2
  have Hm := Lib.hid (packMake_any v1 a B1 w hB1 r1 (by omega))
  have la := toSet_len a; have lb := toSet_len b
  clear r1 r2
  go_enter Try.func48, Try.ntmps48
  go_wp2_with fail
  refine (Hm.out).mono ?_
  rintro e w1 ⟨x1, rfl, own1, b1⟩
  have hs1 := b1.size
  have Hm2 := Lib.hid (packMake_any v2 b B2 w1 (by omega) (R2.out.below (b1.mono hB2)) (by omega))
  have Own1 := Lib.hid own1; have B1' := Lib.hid b1
  clear own1 b1
  go_wp2_with fail
  refine (Hm2.out).mono ?_
  rintro e w2 ⟨x2, rfl, own2, b2⟩
  have hs2 := b2.size
  have Hj := Lib.hid (joined_any x1 x2 (toSet a) (toSet b) w2 (rowOfOwn Own1.out b2) (rowOfOwn own2 (Below.refl _ _)) (by omega) (by omega))
  have B2' := Lib.hid (B1'.out.trans (b2.mono hs1))
  clear own2 b2
  go_wp2_with fail
  refine (Hj.out).mono ?_
  rintro e w3 ⟨x3, rfl, own3, b3⟩
  rw [joinR_sets] at own3
  go_wp2_with fail
  go_ret
  exact ⟨_, rfl, owns_basePK own3 (by omega), B2'.out.trans (b3.mono (by omega))⟩

set_option maxHeartbeats 1000000 in
theorem index_any (v : Value) (l : List Tx) (t : Tx) (B : Nat) (w : World) (hB : B ≤ w.heap.size) (r : Row w B 1 v l.length (svt l)) (s : ByteArray) (hs : s = ⟨t.toArray⟩) :
    Calls Try.prog 103 #[v, .string s] w fun e w' => (∃ i : Int, e = .returned (.int .i64 i) ∧ decide (0 ≤ i) = decide (t ∈ l)) ∧ Below w.heap.size w w' := by
  subst hs
  obtain ⟨ao, c, rfl, hc1, hc2⟩ := r.val
  have hl63 : l.length ≤ 9223372036854775807 := by unfold maxLen at hc2; omega
  have R := Lib.hid r
  clear r
  go_enter Try.func103, Try.ntmps103
  go_wp2_with fail
  go_loopw [5, 8] (fun _ i wr => ∃ k : Nat, k ≤ l.length ∧ i = .int .i64 k ∧ Below w.heap.size w wr ∧ t ∉ l.take k) (fun _ i _ => l.length - (intOf i).toNat)
  case atStart => exact ⟨0, Nat.zero_le _, rfl, Below.refl _ _, by simp⟩
  case round =>
    obtain ⟨k, hk, rfl, hbel, hall⟩ := hrel
    have Hall := Lib.hid hall; clear hall
    by_cases hlt : k < l.length
    · have a1 := R.out.below (hbel.mono hB)
      obtain ⟨b1, o1, rfl, hb1, _⟩ := a1.at (by rw [svt_length]; omega)
      have c10 := a1.cell k _ (svt_at l k hlt)
      have hk0 : (k : Int) < (l.length : Int) := by omega
      have hk1 : (0 : Int) ≤ (k : Int) := by omega
      have Hin : Hid (l[k] = t → t ∈ l) := Lib.hid fun e => by rw [← e]; exact List.getElem_mem hlt
      have Hst : Hid (l[k] ≠ t → t ∉ l.take (k + 1)) := Lib.hid fun e => by
        rw [List.take_succ_eq_append_getElem hlt, List.mem_append]
        rintro (h | h)
        · exact Hall.out h
        · exact e (List.mem_singleton.1 h).symm
      clear a1 Hall
      generalize l[k] = x at *
      by_cases hxt : x = t
      · replace Hin := Lib.hid (Hin.out hxt)
        have hq : (t == x) = true := by simpa using hxt.symm
        clear hxt Hst
        go_wp2_with fail
        go_ret
        exact ⟨⟨_, rfl, by rw [decide_eq_true Hin.out]; exact decide_eq_true hk1⟩, hbel⟩
      · replace Hst := Lib.hid (Hst.out hxt)
        have hq : (t == x) = false := by simpa using fun e => hxt e.symm
        clear hxt Hin
        go_wp2_with fail
        go_roundw
        case rel => exact ⟨k + 1, hlt, by go_num, hbel, Hst.out⟩
        case measure => simp [intOf]; omega
    · obtain rfl : k = l.length := by omega
      have H : Hid (t ∉ l) := Lib.hid (by have := Hall.out; rw [List.take_length] at this; exact this)
      clear Hall
      go_wp2_with fail
      go_ret
      exact ⟨⟨_, rfl, by rw [decide_eq_false H.out]; rfl⟩, hbel⟩

set_option maxRecDepth 100000 in
theorem contains_any (v : Value) (l : List Tx) (t : Tx) (B : Nat) (w : World) (hB : B ≤ w.heap.size) (r : Row w B 1 v l.length (svt l)) (s : ByteArray) (hs : s = ⟨t.toArray⟩) :
    Calls Try.prog 86 #[v, .string s] w (BoolB w (decide (t ∈ l))) := by
  subst hs
  have Hi := Lib.hid (index_any v l t B w hB r _ rfl)
  clear r
  go_enter Try.func86, Try.ntmps86
  go_wp2_with fail
  refine (Hi.out).mono ?_
  rintro e w1 ⟨⟨i, rfl, hi⟩, hb⟩
  have HI := Lib.hid hi
  clear hi
  go_wp2_with fail
  go_ret
  exact ⟨ret_boolP HI.out, hb⟩

set_option maxRecDepth 100000 in
theorem packHas_any (v : Value) (l : List Tx) (t : Tx) (B : Nat) (w : World) (hB : B ≤ w.heap.size) (r : Row w B 1 v l.length (svt l)) (s : ByteArray) (hs : s = ⟨t.toArray⟩) :
    Calls Try.prog 56 #[v, .string s] w (BoolB w (decide (t ∈ l))) := by
  subst hs
  have Hi := Lib.hid (contains_any v l t B w hB r _ rfl)
  clear r
  go_enter Try.func56, Try.ntmps56
  go_wp2_with fail
  refine (Hi.out).mono ?_
  rintro e w1 ⟨rfl, hb⟩
  go_wp2_with fail
  go_ret
  exact ⟨rfl, hb⟩

theorem bx_inj : ∀ {a b : List Tx}, (a.map fun x => ByteArray.mk x.toArray) = (b.map fun x => ByteArray.mk x.toArray) → a = b := by
  intro a
  induction a with
  | nil => intro b h; cases b with
    | nil => rfl
    | cons y b => simp at h
  | cons x a ih => intro b h; cases b with
    | nil => simp at h
    | cons y b =>
      simp only [List.map_cons, List.cons.injEq, ByteArray.mk.injEq] at h
      rw [ih h.2]
      have := congrArg Array.toList h.1
      simp at this
      rw [this]

end Go.Proofs.Ytimgnbacgdmiiaa
