/-
  Stores: two are played with side by side.
-/
import Derived.Test.YtfmhdmgkbaicbaaStoL
import Derived.Test.YtfmhdmgkbaicbaaSlC
import Derived.Deep.CutBlock
import Derived.Deep.RegionHeld3
namespace Go.Proofs.Ytfmhdmgkbaicbaa
open Go.RowKit
set_option linter.unusedVariables false
set_option linter.unusedSimpArgs false

attribute [local go_sem ↓] append_appM
abbrev ObL := List (Int × List (Int × Int))
theorem valC_take (L : List (Int × Int)) (k : Nat) : (valC L).take (k * 2) = valC (L.take k) := by
  induction L generalizing k with
  | nil => simp [valC]
  | cons t r ih =>
    cases k with
    | zero => simp [valC]
    | succ k =>
      have e : valC (t :: r) = (.int .i64 t.1) :: (.int .i64 t.2) :: valC r := rfl
      have e2 : valC ((t :: r).take (k + 1)) = (.int .i64 t.1) :: (.int .i64 t.2) :: valC (r.take k) := rfl
      rw [e, e2, Nat.succ_mul, List.take_succ_cons, List.take_succ_cons, ih]
/-- What a field holds. -/
def getO (O : ObL) (i f : Int) : Option (Int × Int) := if 0 ≤ i ∧ 0 ≤ f then (O[i.toNat]?).bind fun q => q.2[f.toNat]? else none
def setO (O : ObL) (i f : Int) (p : Int × Int) : ObL := if 0 ≤ i ∧ 0 ≤ f then O.modify i.toNat fun q => (q.1, q.2.set f.toNat p) else O
def okO (O : ObL) (k : Nat) : Prop := O.length ≤ k ∧ ∀ q ∈ O, q.2.length ≤ 10
theorem okO_set {O : ObL} {k : Nat} (h : okO O k) (i f : Int) (p : Int × Int) : okO (setO O i f p) k := by
  unfold setO
  split
  · refine ⟨by rw [List.length_modify]; exact h.1, fun q hq => ?_⟩
    obtain ⟨j, hj, rfl⟩ := List.getElem_of_mem hq
    have hj' : j < O.length := by rw [List.length_modify] at hj; exact hj
    rw [List.getElem_modify]
    have := h.2 _ (List.getElem_mem hj')
    split
    · show (List.set _ _ _).length ≤ 10; rw [List.length_set]; exact this
    · exact this
  · exact h
theorem okO_push {O : ObL} {k : Nat} (h : okO O k) (ty : Int) (L : List (Int × Int)) (hL : L.length ≤ 10) : okO (O ++ [(ty, L)]) (k + 1) := by
  refine ⟨by rw [List.length_append]; have := h.1; simp; omega, fun q hq => ?_⟩
  rcases List.mem_append.1 hq with hq | hq
  · exact h.2 q hq
  · simp only [List.mem_singleton] at hq; subst hq; exact hL
theorem okO_len {X : List Cel} {k : Nat} (h : okO (objOf X) k) : X.length ≤ k ∧ ∀ x ∈ X, x.L.length ≤ 10 := by
  refine ⟨by simpa [objOf] using h.1, fun x hx => h.2 (x.ty, x.L) (List.mem_map_of_mem hx)⟩
theorem okO_mono {O : ObL} {k k' : Nat} (h : okO O k) (hk : k ≤ k') : okO O k' := ⟨Nat.le_trans h.1 hk, h.2⟩
theorem getO_obj (X : List Cel) (i f : Int) : (∃ (i' f' : Nat) (hi : i' < X.length) (hf : f' < X[i'].L.length), i = i' ∧ f = f' ∧ getO (objOf X) i f = some X[i'].L[f']) ∨ (getO (objOf X) i f = none ∧ ∀ (i' f' : Nat) (hi : i' < X.length), i = i' → f = f' → ¬ f' < X[i'].L.length) := by
  by_cases h0 : 0 ≤ i ∧ 0 ≤ f
  · obtain ⟨i', rfl⟩ : ∃ n : Nat, i = n := ⟨i.toNat, by omega⟩
    obtain ⟨f', rfl⟩ : ∃ n : Nat, f = n := ⟨f.toNat, by omega⟩
    by_cases hi : i' < X.length
    · by_cases hf : f' < X[i'].L.length
      · exact .inl ⟨i', f', hi, hf, rfl, rfl, by unfold getO; rw [if_pos h0]; simp [objOf, hi, hf]⟩
      · refine .inr ⟨by unfold getO; rw [if_pos h0]; simp [objOf, hi]; omega, fun a b ha e1 e2 => ?_⟩
        obtain rfl : i' = a := by omega
        obtain rfl : f' = b := by omega
        exact hf
    · exact .inr ⟨by unfold getO; rw [if_pos h0]; simp [objOf, List.getElem?_eq_none (show X.length ≤ i' by omega)], fun a b ha e1 e2 => by omega⟩
  · exact .inr ⟨by unfold getO; rw [if_neg h0], fun a b ha e1 e2 => by omega⟩
def getV (r : Option (Int × Int)) : Value := match r with | some p => .tuple #[.agg #[.int .i64 p.1, .int .i64 p.2], .int .i64 0] | none => .tuple #[.agg #[.int .i64 0, .int .i64 0], .int .i64 3]
def setV (r : Option (Int × Int)) : Value := match r with | some p => .int .i64 0 | none => .int .i64 3
theorem setO_obj (X : List Cel) (i' f' : Nat) (p : Int × Int) : objOf (setX X i' f' p) = setO (objOf X) i' f' p := by
  unfold setO setX objOf
  rw [if_pos (by omega)]
  apply List.ext_getElem?
  intro j
  simp only [List.getElem?_map, List.getElem?_modify, Int.toNat_natCast]
  cases X[j]? with
  | none => simp
  | some x => simp only [Option.map_some]; split <;> rfl
theorem setO_none (O : ObL) (i f : Int) (p : Int × Int) (h : getO O i f = none) : setO O i f p = O := by
  unfold getO at h
  unfold setO
  split
  · rename_i h0
    rw [if_pos h0] at h
    apply List.ext_getElem?
    intro j
    rw [List.getElem?_modify]
    cases hO : O[j]? with
    | none => rfl
    | some q =>
      by_cases hj : i.toNat = j
      · show some (if i.toNat = j then (q.1, q.2.set f.toNat p) else q) = some q
        rw [if_pos hj]
        rw [hj, hO] at h
        simp only [Option.bind_some, List.getElem?_eq_none_iff] at h
        rw [List.set_eq_of_length_le h]
      · show some (if i.toNat = j then (q.1, q.2.set f.toNat p) else q) = some q
        rw [if_neg hj]
  · rfl
def SetAll (T : TypeId) (w : World) (B g : Nat) (vo : Value) (X : List Cel) (i f : Int) (p : Int × Int) (w' : World) : Prop :=
  ∃ X', St T w' B g vo X' ∧ objOf X' = setO (objOf X) i f p ∧ Keep (foot g vo X) w w' ∧ (∀ j, foot g vo X' j → foot g vo X j)
theorem stGet_all {w : World} {B g : Nat} {vo : Value} {X : List Cel} (h : St 54 w B g vo X) (i f : Int) :
    Calls Try.prog 10 #[.pointer (some ⟨g, 0, none⟩), .int .i64 i, .int .i64 f] w fun e w' => e = .returned (getV (getO (objOf X) i f)) ∧ Below w.heap.size w w' := by
  rcases getO_obj X i f with ⟨i', f', hi, hf, rfl, rfl, e⟩ | ⟨e, hno⟩
  · rw [e]; exact stGet_yes h i' f' hi hf
  · rw [e]; exact stGet_no h i f hno
theorem refGet_all {w : World} {B g : Nat} {vo : Value} {X : List Cel} (h : St 28 w B g vo X) (i f : Int) :
    Calls Try.prog 11 #[.pointer (some ⟨g, 0, none⟩), .int .i64 i, .int .i64 f] w fun e w' => e = .returned (getV (getO (objOf X) i f)) ∧ Below w.heap.size w w' := by
  rcases getO_obj X i f with ⟨i', f', hi, hf, rfl, rfl, e⟩ | ⟨e, hno⟩
  · rw [e]; exact refGet_yes h i' f' hi hf
  · rw [e]; exact refGet_no h i f hno
theorem stSet_all {w : World} {B g : Nat} {vo : Value} {X : List Cel} (h : St 54 w B g vo X) (i f p q : Int) :
    Calls Try.prog 12 #[.pointer (some ⟨g, 0, none⟩), .int .i64 i, .int .i64 f, .agg #[.int .i64 p, .int .i64 q]] w fun e w' => e = .returned (setV (getO (objOf X) i f)) ∧ SetAll 54 w B g vo X i f (p, q) w' := by
  rcases getO_obj X i f with ⟨i', f', hi, hf, rfl, rfl, e⟩ | ⟨e, hno⟩
  · refine (stSet_yes h i' f' hi hf p q).mono ?_
    rintro e' w' ⟨rfl, h1, h2⟩
    exact ⟨by rw [e]; rfl, _, h1, setO_obj X i' f' (p, q), h2, fun j hj => by rcases hj with rfl | hj; exact .inl rfl; exact .inr ((setX_foot _ _ _ _ _ _).1 hj)⟩
  · refine (stSet_no h i f hno p q).mono ?_
    rintro e' w' ⟨rfl, h1⟩
    exact ⟨by rw [e]; rfl, X, h.below h1, (setO_none _ _ _ _ e).symm, Keep.of_below h1, fun j hj => hj⟩
theorem refSet_all {w : World} {B g : Nat} {vo : Value} {X : List Cel} (h : St 28 w B g vo X) (i f p q : Int) :
    Calls Try.prog 13 #[.pointer (some ⟨g, 0, none⟩), .int .i64 i, .int .i64 f, .agg #[.int .i64 p, .int .i64 q]] w fun e w' => e = .returned (setV (getO (objOf X) i f)) ∧ SetAll 28 w B g vo X i f (p, q) w' := by
  rcases getO_obj X i f with ⟨i', f', hi, hf, rfl, rfl, e⟩ | ⟨e, hno⟩
  · refine (refSet_yes h i' f' hi hf p q).mono ?_
    rintro e' w' ⟨rfl, h1, h2⟩
    exact ⟨by rw [e]; rfl, _, h1, setO_obj X i' f' (p, q), h2, fun j hj => by rcases hj with rfl | hj; exact .inl rfl; exact .inr ((setX_foot _ _ _ _ _ _).1 hj)⟩
  · refine (refSet_no h i f hno p q).mono ?_
    rintro e' w' ⟨rfl, h1⟩
    exact ⟨by rw [e]; rfl, X, h.below h1, (setO_none _ _ _ _ e).symm, Keep.of_below h1, fun j hj => hj⟩
/-- Two stores that do not meet: one is changed, the other stays. -/
theorem two_apart {Tr : TypeId} {w w' : World} {B g : Nat} {vo vo' : Value} {X X' : List Cel} {g2 : Nat} {ro : Value} {Y : List Cel} (hr : St Tr w B g2 ro Y) (dis : ∀ j, foot g vo X j → ¬ foot g2 ro Y j)
    (hk : Keep (foot g vo X) w w') (hf : ∀ j, foot g vo' X' j → foot g vo X j ∨ w.heap.size ≤ j) : St Tr w' B g2 ro Y ∧ (∀ j, foot g vo' X' j → ¬ foot g2 ro Y j) := by
  refine ⟨hr.kept hk fun j hj h2 => dis j h2 hj, fun j hj h2 => ?_⟩
  rcases hf j hj with h3 | h3
  · exact dis j h3 h2
  · have := (hr.lt h2).2; omega
/-- The state of the play: both stores, apart, alike. -/
structure Play (w : World) (B g : Nat) (vo : Value) (X : List Cel) (g2 : Nat) (ro : Value) (Y : List Cel) (k : Nat) : Prop where
  s : St 54 w B g vo X
  r : St 28 w B g2 ro Y
  dis : ∀ j, foot g vo X j → ¬ foot g2 ro Y j
  same : objOf X = objOf Y
  ok : okO (objOf X) k
theorem Play.below {w w' B g vo X g2 ro Y k} (h : Play w B g vo X g2 ro Y k) (hb : Below w.heap.size w w') : Play w' B g vo X g2 ro Y k := ⟨h.s.below hb, h.r.below hb, h.dis, h.same, h.ok⟩
theorem Play.okY {w B g vo X g2 ro Y k} (h : Play w B g vo X g2 ro Y k) : okO (objOf Y) k := h.same ▸ h.ok
/-- An act's cells. -/
structure ActAt (w : World) (b off : Nat) (d i f p q : Int) (lv : Value) (L : List (Int × Int)) : Prop where
  c0 : w.cell? ⟨b, off, none⟩ = some (.int .i64 d)
  c1 : w.cell? ⟨b, off + 1, none⟩ = some (.int .i64 i)
  c2 : w.cell? ⟨b, off + 2, none⟩ = some (.int .i64 f)
  c3 : w.cell? ⟨b, off + 3, none⟩ = some (.int .i64 p)
  c4 : w.cell? ⟨b, off + 4, none⟩ = some (.int .i64 q)
  c5 : w.cell? ⟨b, off + 5, none⟩ = some lv
  row : Row w w.heap.size 2 lv L.length (valC L)
  rng : -9223372036854775808 ≤ d ∧ d ≤ 9223372036854775807
/-- The act in its box. -/
structure Boxed (w : World) (b : Nat) (d i f p q : Int) : Prop where
  c0 : w.cell? ⟨b, 0, none⟩ = some (.int .i64 d)
  c1 : w.cell? ⟨b, 1, none⟩ = some (.int .i64 i)
  c2 : w.cell? ⟨b, 2, none⟩ = some (.int .i64 f)
  c3 : w.cell? ⟨b, 3, none⟩ = some (.int .i64 p)
  c4 : w.cell? ⟨b, 4, none⟩ = some (.int .i64 q)
/-- A round, its act read and its values copied. -/
structure Stage (w : World) (B0 B g : Nat) (vo : Value) (X : List Cel) (g2 : Nat) (ro : Value) (Y : List Cel) (k b : Nat) (d i f p q : Int) (lv : Value) (L : List (Int × Int)) : Prop where
  play : Play w B g vo X g2 ro Y k
  ge : B0 ≤ w.heap.size
  box : Boxed w b d i f p q
  lt : b < w.heap.size
  own : w.ownsRow (b + 1) 30 2 lv L.length (valC L)
  ten : L.length ≤ 10
  far : ∀ j, (foot g vo X j ∨ foot g2 ro Y j) → j < b
theorem Boxed.keep {w w' : World} {b : Nat} {d i f p q : Int} {S : Nat → Prop} (h : Boxed w b d i f p q) (hb : b < w.heap.size) (hk : Keep S w w') (hS : ∀ j, S j → j < b) : Boxed w' b d i f p q := by
  have e : ∀ o, w'.cell? ⟨b, o, none⟩ = w.cell? ⟨b, o, none⟩ := fun o => World.cell?_of_block (hk.block b hb (fun h2 => by have := hS b h2; omega))
  exact ⟨(e 0).trans h.c0, (e 1).trans h.c1, (e 2).trans h.c2, (e 3).trans h.c3, (e 4).trans h.c4⟩
theorem own_keep {w w' : World} {b e size n : Nat} {v : Value} {xs : List Value} {S : Nat → Prop} (h : w.ownsRow (b + 1) e size v n xs) (hk : Keep S w w') (hS : ∀ j, S j → j < b) : w'.ownsRow (b + 1) e size v n xs :=
  owns_block h fun k e => hk.block k (h.lt k e).2 (fun h2 => by have := hS k h2; have := (h.lt k e).1; omega)
theorem St.base {T w B B' g vo X} (h : St T w B g vo X) (hB : B' ≤ B) : St T w B' g vo X :=
  ⟨Nat.le_trans hB h.ge, h.ptr, ⟨owns_base h.objs.out hB, fun x hx => ⟨owns_base (h.objs.each x hx).1 hB, (h.objs.each x hx).2⟩, h.objs.apart⟩, h.far⟩
theorem set_keep {T : TypeId} {w w' : World} {B g : Nat} {vo : Value} {X : List Cel} {i f : Int} {pq : Int × Int} (h : SetAll T w.drew B g vo X i f pq w') : Keep (foot g vo X) w w' := by
  obtain ⟨X', _, _, hk, _⟩ := h
  exact (Keep.refl _ w).drew.trans hk fun j _ h => h
theorem set_first {Ts Tr : TypeId} {w w' : World} {B g : Nat} {vo : Value} {X : List Cel} {g2 : Nat} {ro : Value} {Y : List Cel} {i f : Int} {pq : Int × Int} (hr : St Tr w B g2 ro Y) (dis : ∀ j, foot g vo X j → ¬ foot g2 ro Y j)
    (h : SetAll Ts w.drew B g vo X i f pq w') : St Tr w' B g2 ro Y ∧ (∀ X', (∀ j, foot g vo X' j → foot g vo X j) → ∀ j, foot g vo X' j → ¬ foot g2 ro Y j) := by
  have hk := set_keep h
  exact ⟨(two_apart (vo' := vo) (X' := X) hr dis hk (fun j hj => .inl hj)).1, fun X' hX j hj => dis j (hX j hj)⟩
theorem set_second {w w3 w4 : World} {B g : Nat} {vo : Value} {X : List Cel} {g2 : Nat} {ro : Value} {Y : List Cel} {k b : Nat} {d i f p q : Int} {lv : Value} {L : List (Int × Int)} {pq : Int × Int}
    (h3 : SetAll 54 w.drew B g vo X i f pq w3) (hd : ∀ X', (∀ j, foot g vo X' j → foot g vo X j) → ∀ j, foot g vo X' j → ¬ foot g2 ro Y j)
    (h4 : SetAll 28 w3 B g2 ro Y i f pq w4) (hst : Stage w B B g vo X g2 ro Y k b d i f p q lv L) :
    (∃ X' Y', Play w4 B g vo X' g2 ro Y' (k + 1)) ∧ Below B w w4 ∧ Boxed w4 b d i f p q := by
  have hk := set_keep h3
  obtain ⟨X', hs', ho', hk', hf'⟩ := h3
  obtain ⟨Y', hr', hoy', hky', hfy'⟩ := h4
  have hd2 := hd X' hf'
  obtain ⟨hs4, hd4⟩ := two_apart (vo' := ro) (X' := Y') hs' (fun j h1 h2 => hd2 j h2 h1) hky' (fun j hj => .inl (hfy' j hj))
  refine ⟨⟨X', Y', hs4, hr', fun j h1 h2 => hd4 j h2 h1, by rw [ho', hoy', hst.play.same], by rw [ho']; exact okO_mono (okO_set hst.play.ok _ _ _) (Nat.le_succ _)⟩, ?_, ?_⟩
  · exact (hk.below (fun j hj => (hst.play.s.lt hj).1) hst.ge).trans (hky'.below (fun j hj => (hst.play.r.lt hj).1) (Nat.le_trans hst.ge hk.size))
  · exact (hst.box.keep hst.lt hk (fun j hj => hst.far j (.inl hj))).keep (Nat.lt_of_lt_of_le hst.lt hk.size) hky' (fun j hj => hst.far j (.inr hj))
theorem set_second' {w w3 w4 : World} {B g : Nat} {vo : Value} {X : List Cel} {g2 : Nat} {ro : Value} {Y : List Cel} {k b : Nat} {d i f p q : Int} {lv : Value} {L : List (Int × Int)} {pq : Int × Int}
    (h3 : SetAll 28 w.drew B g2 ro Y i f pq w3) (hd : ∀ Y', (∀ j, foot g2 ro Y' j → foot g2 ro Y j) → ∀ j, foot g2 ro Y' j → ¬ foot g vo X j)
    (h4 : SetAll 54 w3 B g vo X i f pq w4) (hst : Stage w B B g vo X g2 ro Y k b d i f p q lv L) :
    (∃ X' Y', Play w4 B g vo X' g2 ro Y' (k + 1)) ∧ Below B w w4 ∧ Boxed w4 b d i f p q := by
  have hk := set_keep h3
  obtain ⟨Y', hr', hoy', hky', hfy'⟩ := h3
  obtain ⟨X', hs', ho', hk', hf'⟩ := h4
  have hd2 := hd Y' hfy'
  obtain ⟨hr4, hd4⟩ := two_apart (vo' := vo) (X' := X') hr' (fun j h1 h2 => hd2 j h2 h1) hk' (fun j hj => .inl (hf' j hj))
  refine ⟨⟨X', Y', hs', hr4, fun j h1 h2 => hd4 j h1 h2, by rw [ho', hoy', hst.play.same], by rw [ho']; exact okO_mono (okO_set hst.play.ok _ _ _) (Nat.le_succ _)⟩, ?_, ?_⟩
  · exact (hk.below (fun j hj => (hst.play.r.lt hj).1) hst.ge).trans (hk'.below (fun j hj => (hst.play.s.lt hj).1) (Nat.le_trans hst.ge hk.size))
  · exact (hst.box.keep hst.lt hk (fun j hj => hst.far j (.inr hj))).keep (Nat.lt_of_lt_of_le hst.lt hk.size) hk' (fun j hj => hst.far j (.inl hj))
set_option maxRecDepth 100000 in
set_option maxHeartbeats 8000000 in
theorem storePlays_walk (w : World) (ao : Option Addr) (n c : Nat) (hn : n ≤ c) (hc : c ≤ maxLen)
    (hacts : ∀ k, k < n → ∃ b off d i f p q lv L, ao = some ⟨b, off, none⟩ ∧ b < w.heap.size ∧ ActAt w b (off + k * 6) d i f p q lv L) :
    Calls Try.prog 3 #[.slice ao n c] w fun e w' => e = .returned (.bool true) ∧ Below w.heap.size w w' := by
  have hn63 : n ≤ 9223372036854775807 := by unfold maxLen at hc; omega
  have Hacts := Lib.hid hacts
  clear hacts
  go_enter Try.func3, Try.ntmps3
  go_wp2_with fail
  refine (stNew_any w w.heap.size (Nat.le_refl _)).mono ?_
  rintro e w1 ⟨rfl, hst, hb1, hl1⟩
  have hP0 : Play (w1.alloc (.cells #[.slice none 0 0] 28)) w.heap.size w.heap.size (.slice none 0 0) [] w1.heap.size (.slice none 0 0) [] 0 :=
    ⟨hst.below ((Below.refl _ _).alloc (Nat.le_refl _) _), St.new (heap_alloc_new w1 _) hb1.size, (fun j hj hj2 => by
      rcases hj with rfl | hj
      · rcases hj2 with h | h
        · omega
        · rcases h with h | ⟨x, hx, _⟩ <;> first | cases h | cases hx
      · rcases hj with h | ⟨x, hx, _⟩ <;> first | cases h | cases hx), rfl, ⟨Nat.le_refl _, fun q hq => by cases hq⟩⟩
  have hB0 := hb1.alloc hb1.size (.cells #[.slice none 0 0] 28)
  have HP0 := Lib.hid hP0; have HB0 := Lib.hid hB0
  clear hst hP0 hB0
  go_wp2_with fail
  go_loopw [3, 5] (fun sv iv wr => ∃ (k g : Nat) (vo : Value) (X : List Cel) (ro : Value) (Y : List Cel), iv = .int .i64 k ∧ sv = .pointer (some ⟨g, 0, none⟩) ∧ k ≤ n ∧ k ≤ 60 ∧ Hid (Play wr w.heap.size g vo X w1.heap.size ro Y k) ∧ Hid (Below w.heap.size w wr)) (fun _ i _ => n - (intOf i).toNat)
  case atStart => exact ⟨0, w.heap.size, _, [], _, [], rfl, rfl, Nat.zero_le _, Nat.zero_le _, HP0, HB0⟩
  case round =>
    obtain ⟨k, g, vo, X, ro, Y, rfl, rfl, hk, hk60, HP, HB⟩ := hrel
    by_cases hlt : k < n ∧ k < 60
    · obtain ⟨hlt, hlt60⟩ := hlt
      obtain ⟨b, off, d, i, f, p, q, lv, L, rfl, hbw, hact⟩ := Hacts.out k hlt
      have hk0 : (k : Int) < (n : Int) := by omega
      have hk1 : (0 : Int) ≤ (k : Int) := by omega
      have hk6 : (k : Int) < 60 := by omega
      have hk7 : decide (k < 60) = true := decide_eq_true hlt60
      obtain ⟨a0, a1, a2, a3, a4, a5, hrow, hrng⟩ := hact
      obtain ⟨lao, lc, rfl, hlc1, hlc2⟩ := hrow.val
      have hsw := HB.out.size
      have A0 := (HB.out.cell (p := ⟨b, off + k * 6, none⟩) hbw).trans a0
      have A1 := (HB.out.cell (p := ⟨b, off + k * 6 + 1, none⟩) hbw).trans a1
      have A2 := (HB.out.cell (p := ⟨b, off + k * 6 + 2, none⟩) hbw).trans a2
      have A3 := (HB.out.cell (p := ⟨b, off + k * 6 + 3, none⟩) hbw).trans a3
      have A4 := (HB.out.cell (p := ⟨b, off + k * 6 + 4, none⟩) hbw).trans a4
      have A5 := (HB.out.cell (p := ⟨b, off + k * 6 + 5, none⟩) hbw).trans a5
      have Hrow := Lib.hid hrow
      have hl63 : L.length ≤ 9223372036854775807 := by unfold maxLen at hlc2; omega
      have hwo : b < wr.heap.size := by omega
      clear a0 a1 a2 a3 a4 a5 hrow
      obtain ⟨j0, hj, hy0, hy1, hy2⟩ := info_parts info_val
      obtain ⟨m, hm⟩ : ∃ m : Nat, m = min L.length 10 := ⟨_, rfl⟩
      have hmin : min (L.length : Int) 10 = (m : Int) := by omega
      have hml : m ≤ L.length := by omega
      have hm10 : m ≤ 10 := by omega
      have hml2 : (m : Int) ≤ (lc : Int) := by omega
      have hbA : Below wr.heap.size wr ((wr.alloc (.cells #[.int .i64 d, .int .i64 i, .int .i64 f, .int .i64 p, .int .i64 q, .slice lao L.length lc] 33)).alloc (.cells #[] 30)) := ((Below.refl _ _).alloc (Nat.le_refl _) _).alloc (by simp) _
      have hrm : Row ((wr.alloc (.cells #[.int .i64 d, .int .i64 i, .int .i64 f, .int .i64 p, .int .i64 q, .slice lao L.length lc] 33)).alloc (.cells #[] 30)) w.heap.size 2 (.slice lao m lc) m (valC (L.take m)) := by
        have h := ((Hrow.out.below (HB.out.trans (hbA.mono hsw))).take m hml)
        rw [valC_take] at h; exact h
      have hvm : ((wr.alloc (.cells #[.int .i64 d, .int .i64 i, .int .i64 f, .int .i64 p, .int .i64 q, .slice lao L.length lc] 33)).alloc (.cells #[] 30)).ownsRow (wr.heap.size + 1) 30 2 (.slice (some ⟨wr.heap.size + 1, 0, none⟩) 0 0) 0 [] := by
        have h := World.ownsRow_made (base := wr.heap.size + 1) (e := 30) (size := 2) (wr.alloc (.cells #[.int .i64 d, .int .i64 i, .int .i64 f, .int .i64 p, .int .i64 q, .slice lao L.length lc] 33)) #[] 0 (by simp) (Nat.zero_le _) rfl
        simpa using h
      obtain ⟨v7, w2, happ, hown7, hgrow7, _⟩ := run_append_row (P := Try.prog) _ 31 31 (wr.heap.size + 1) 30 j0 (.agg #[.int .i64 0, .int .i64 0]) 2 16 Try.underlying31 hj hy0 hy1 hy2 rfl (by decide) _ 0 [] hvm _ _ m (valC (L.take m)) hrm (valC_one _) (by unfold maxLen; omega) (by omega) (by first | (simp; done) | (simp; omega))
      have happ := (show Sem.run Try.prog (appM _ _ _) _ = _ from happ)
      have hbB : Below wr.heap.size wr w2 := hbA.grown hgrow7 (by simp; omega) (fun k hk => by cases hk; exact Nat.le_succ _)
      simp only [Nat.zero_add, List.nil_append] at hown7
      obtain ⟨a7, c7, rfl, h71, h72⟩ := owns_val hown7
      have hbox : ∀ wx : World, Below (wr.heap.size + 1) ((wr.alloc (.cells #[.int .i64 d, .int .i64 i, .int .i64 f, .int .i64 p, .int .i64 q, .slice lao L.length lc] 33)).alloc (.cells #[] 30)) wx → Boxed wx wr.heap.size d i f p q := fun wx hx => by
        have tb : ∀ j u, (#[.int .i64 d, .int .i64 i, .int .i64 f, .int .i64 p, .int .i64 q, .slice lao L.length lc] : Array Value)[j]? = some u → wx.cell? ⟨wr.heap.size, j, none⟩ = some u := fun j u hu => by
          refine (hx.cell (p := ⟨wr.heap.size, j, none⟩) (by show wr.heap.size < _; omega)).trans ?_
          refine (((Below.refl _ _).alloc (Nat.le_refl _) _).cell (p := ⟨wr.heap.size, j, none⟩) (by simp)).trans ?_
          rw [cell_of_row _ _ _ _ _ (0, 0) (heap_alloc_new wr _)]; exact hu
        exact ⟨tb 0 _ rfl, tb 1 _ rfl, tb 2 _ rfl, tb 3 _ rfl, tb 4 _ rfl⟩
      have HBw := Lib.hid (HB.out.trans (hbB.mono hsw))
      have HS7 : Hid (Stage w2 w.heap.size w.heap.size g vo X w1.heap.size ro Y k wr.heap.size d i f p q (.slice a7 m c7) (L.take m)) := by
        refine ⟨HP.out.below hbB, by have := hbB.size; omega, hbox w2 ((Below.refl _ _).grown hgrow7 (by simp) (fun k hk => by cases hk; exact Nat.le_refl _)), by have := hgrow7.size; simp at this; omega, ?_, by rw [List.length_take]; omega, fun j hj => ?_⟩
        · rw [show (L.take m).length = m from by rw [List.length_take]; omega]; exact hown7
        · rcases hj with hj | hj
          · exact (HP.out.s.lt hj).2
          · exact (HP.out.r.lt hj).2
      clear hrm hvm hbA hbB hown7 hgrow7 hbox
      go_upto_region 6 with fail
      go_cut [7] (fun s7 wx => s7 = .slice a7 m c7 ∧ wx = w2)
      case first =>
        rcases Nat.lt_or_ge 10 L.length with h10 | h10
        · obtain rfl : m = 10 := by omega
          have q1 : (10 : Int) < (L.length : Int) := by omega
          clear hm hmin HP HB HS7 Hacts HP0 HB0 Hrow
          go_wp2_with fail
          go_meet
          case rel => exact ⟨rfl, rfl⟩
        · obtain rfl : m = L.length := by omega
          have q1 : (L.length : Int) ≤ 10 := by omega
          clear hm hmin HP HB HS7 Hacts HP0 HB0 Hrow
          go_wp2_with fail
          go_meet
          case rel => exact ⟨rfl, rfl⟩
      case rest =>
        obtain ⟨rfl, rfl⟩ := hcut
        clear happ hm hmin HP Hacts HP0 HB0 Hrow A0 A1 A2 A3 A4 A5
        have T0 := HS7.out.box.c0
        have hml3 : (L.take m).length = m := by rw [List.length_take]; omega
        have HML := Lib.hid hml3
        clear hml3
        generalize L.take m = Lm at *
        obtain ⟨bx, hbx⟩ : ∃ bx, bx = wr.heap.size := ⟨_, rfl⟩
        rw [← hbx] at T0 HS7 ⊢
        clear hbx
        go_wp2_with fail
        refine (among4_any d wc hrng).mono ?_
        rintro e w' ⟨z, rfl, hz0, hz4, rfl⟩
        go_upto_block 2 with fail
        go_cut [3, 8] (fun s3 s8 wx => s8 = .bool true ∧ ∃ (g' : Nat) (vo' : Value) (X' : List Cel) (ro' : Value) (Y' : List Cel), s3 = .pointer (some ⟨g', 0, none⟩) ∧ Hid (Play wx w.heap.size g' vo' X' w1.heap.size ro' Y' (k + 1)) ∧ Hid (Below w.heap.size w wx))
        case first =>
          rcases (show z = 0 ∨ z = 1 ∨ z = 2 ∨ z = 3 from by omega) with rfl | rfl | rfl | rfl
          · -- Make
            have hst := HS7.out
            have T1 := hst.box.c1
            have hsb := hst.lt
            have hXl := (okO_len hst.play.ok).1
            have hYl : Y.length = X.length := by have := congrArg List.length hst.play.same; simpa [objOf] using this.symm
            have hv0 : (wc.alloc (.cells #[] 30)).drew.ownsRow wc.heap.size 30 2 (.slice (some ⟨wc.heap.size, 0, none⟩) 0 0) 0 [] := owns_block (World.ownsRow_made (base := wc.heap.size) (e := 30) (size := 2) wc #[] 0 (Nat.le_refl _) (Nat.zero_le _) rfl) (fun _ _ => rfl)
            have hbC : Below wc.heap.size wc (wc.alloc (.cells #[] 30)).drew := ((Below.refl _ wc).alloc (Nat.le_refl _) _).drew
            have hrow7 : Row wc wc.heap.size 2 (.slice a7 m c7) m (valC Lm) := by have := Row.of_owns hst.own; rw [HML.out] at this; exact this
            obtain ⟨v8, w3, happ8, hown8, hgrow8, _⟩ := run_append_row (P := Try.prog) (wc.alloc (.cells #[] 30)).drew 31 31 wc.heap.size 30 j0 (.agg #[.int .i64 0, .int .i64 0]) 2 16 Try.underlying31 hj hy0 hy1 hy2 rfl (by decide) _ 0 [] hv0 wc.heap.size _ m (valC Lm) (hrow7.below hbC) (valC_one _) (by unfold maxLen; omega) (by omega) (by simp)
            have happ8 := (show Sem.run Try.prog (appM _ _ _) _ = _ from happ8)
            have hb3 : Below wc.heap.size wc w3 := hbC.grown hgrow8 (by simp) (fun k hk => by cases hk; exact Nat.le_refl _)
            simp only [Nat.zero_add, List.nil_append] at hown8
            obtain ⟨a8, c8, rfl, _, _⟩ := owns_val hown8
            have hrow8 : Row w3 w3.heap.size 2 (.slice a8 m c8) Lm.length (valC Lm) := by have := Row.of_owns hown8; rw [HML.out]; exact this
            have HMk := Lib.hid (stMake_yes (hst.play.s.below hb3) (Nat.le_trans hst.ge hb3.size) i (.slice a8 m c8) Lm hrow8 (by omega) (by have := hst.ten; omega))
            have Hst := Lib.hid hst
            have Hb3 := Lib.hid hb3
            have T1' := (hb3.cell (p := ⟨bx, 1, none⟩) hsb).trans T1
            have HYl := Lib.hid hYl
            clear hv0 hbC hrow7 hown8 hgrow8 hb3 hrow8 hst hYl hXl
            go_wp2_with fail
            go_region_with (go_at_call 8; (refine HMk.out.mono ?_; rintro e w4 ⟨rfl, vn, v', hst4, hk4, hf4⟩); (have Hk4 := Lib.hid hk4); (have Hst4 := Lib.hid hst4); (have Hf4 := Lib.hid hf4); clear hst4 hk4 hf4)
            all_goals
              have hkw : Keep (foot g vo X) wc w4 := (Keep.of_below Hb3.out).trans Hk4.out fun j _ h => h
              have hS : ∀ j, foot g vo X j → j < bx := fun j hj => Hst.out.far j (.inl hj)
              have hbox4 := Hst.out.box.keep Hst.out.lt hkw hS
              have U1 := hbox4.c1
              have hown4 := own_keep Hst.out.own hkw hS
              have hrow4 : Row w4 w4.heap.size 2 (.slice a7 m c7) Lm.length (valC Lm) := by have := Row.of_owns hown4; exact this
              have hf4' : ∀ j, foot g vn (X ++ [⟨i, v', Lm⟩]) j → foot g vo X j ∨ wc.heap.size ≤ j := fun j hj => (Hf4.out j hj).imp id fun h => Nat.le_trans Hb3.out.size h
              obtain ⟨hr4, hd4⟩ := two_apart Hst.out.play.r Hst.out.play.dis hkw hf4'
              have hMr := refMake_yes hr4 (Nat.le_trans Hst.out.ge hkw.size) i (.slice a7 m c7) Lm hrow4 (by rw [HYl.out]; have := (okO_len Hst.out.play.ok).1; omega) (by have := Hst.out.ten; omega)
              unfold MakePost at hMr
              rw [HYl.out] at hMr
              have HMr := Lib.hid hMr
              have Hr4 := Lib.hid hr4; have Hd4 := Lib.hid hd4; have Hkw := Lib.hid hkw
              clear hkw hS hbox4 hown4 hrow4 hf4' hr4 hd4 hMr
              go_wp2_with fail
              refine HMr.out.mono ?_
              rintro e w5 ⟨rfl, rn, r', hst5, hk5, hf5⟩
              have hd4' : ∀ j, foot w1.heap.size ro Y j → ¬ foot g vn (X ++ [⟨i, v', Lm⟩]) j := fun j h1 h2 => Hd4.out j h2 h1
              obtain ⟨hs5, hd5⟩ := two_apart Hst4.out hd4' hk5 hf5
              have HP5 : Hid (Play w5 w.heap.size g vn (X ++ [⟨i, v', Lm⟩]) w1.heap.size rn (Y ++ [⟨i, r', Lm⟩]) (k + 1)) := ⟨hs5, hst5, fun j h1 h2 => hd5 j h2 h1, by rw [objOf_append, objOf_append, Hst.out.play.same]; rfl, by rw [objOf_append]; exact okO_push Hst.out.play.ok i Lm Hst.out.ten⟩
              have HB5 : Hid (Below w.heap.size w w5) := HBw.out.trans ((Hkw.out.below (fun j hj => (Hst.out.play.s.lt hj).1) Hst.out.ge).trans (hk5.below (fun j hj => (Hr4.out.lt hj).1) (Nat.le_trans Hst.out.ge Hkw.out.size)))
              clear hd4' hs5 hd5 hst5 hk5 hf5
              go_wp2_with fail
              go_meet
              case rel => exact ⟨rfl, g, vn, _, rn, _, rfl, HP5, HB5⟩
          · -- Get
            have hst := HS7.out
            have T1 := hst.box.c1
            have T2 := hst.box.c2
            have hsb := hst.lt
            have hG := stGet_all hst.play.s i f
            have hGr := fun w' (hb : Below wc.heap.size wc w') => refGet_all (hst.play.r.below hb) i f
            rw [← hst.play.same] at hGr
            have Hst := Lib.hid hst
            clear hst
            cases hr : getO (objOf X) i f with
            | none =>
              rw [hr] at hG hGr
              simp only [getV] at hG hGr
              have HG := Lib.hid hG; have HGr := Lib.hid hGr
              clear hG hGr hr
              go_wp2_with fail
              refine HG.out.mono ?_
              rintro e w3 ⟨rfl, hb3⟩
              have hbD : Below wc.heap.size wc (w3.alloc (.cells #[.int .i64 (0), .int .i64 (0)] 30)) := hb3.alloc hb3.size _
              have U1 := (hb3.cell (p := ⟨bx, 1, none⟩) hsb).trans T1
              have U2 := (hb3.cell (p := ⟨bx, 2, none⟩) hsb).trans T2
              have hsb3 : bx < w3.heap.size := Nat.lt_of_lt_of_le hsb hb3.size
              have hGr := HGr.out _ hbD
              have HGr2 := Lib.hid hGr
              have HbD := Lib.hid hbD
              obtain ⟨x0, x1⟩ := TkV_new w3 (0) (0)
              have X0 := Lib.hid x0; have X1 := Lib.hid x1
              clear hGr hbD hb3 x0 x1 HG HGr T1 T2
              go_wp2_with fail
              refine HGr2.out.mono ?_
              rintro e w4 ⟨rfl, hb4⟩
              have y0 := (hb4.cell (p := ⟨w3.heap.size, 0, none⟩) (by simp)).trans X0.out
              have y1 := (hb4.cell (p := ⟨w3.heap.size, 1, none⟩) (by simp)).trans X1.out
              have hl34 : w3.heap.size < w4.heap.size := by have := hb4.size; simp at this; omega
              have hb24 := HbD.out.trans (hb4.mono HbD.out.size)
              have hb25 := hb24.alloc hb24.size (.cells #[.int .i64 (0), .int .i64 (0)] 30)
              have HP4 : Hid (Play (w4.alloc (.cells #[.int .i64 (0), .int .i64 (0)] 30)) w.heap.size g vo X w1.heap.size ro Y (k + 1)) := by
                have h := Hst.out.play.below hb25
                exact ⟨h.s, h.r, h.dis, h.same, okO_mono h.ok (Nat.le_succ _)⟩
              have HB4 : Hid (Below w.heap.size w (w4.alloc (.cells #[.int .i64 (0), .int .i64 (0)] 30))) := HBw.out.trans (hb25.mono Hst.out.ge)
              clear hb4 hb24 hb25 HGr2 X0 X1
              go_wp2_with fail
              go_meet
              case rel => exact ⟨rfl, g, vo, X, ro, Y, rfl, HP4, HB4⟩
            | some pq =>
              rw [hr] at hG hGr
              simp only [getV] at hG hGr
              have HG := Lib.hid hG; have HGr := Lib.hid hGr
              clear hG hGr hr
              go_wp2_with fail
              refine HG.out.mono ?_
              rintro e w3 ⟨rfl, hb3⟩
              have hbD : Below wc.heap.size wc (w3.alloc (.cells #[.int .i64 (pq.1), .int .i64 (pq.2)] 30)) := hb3.alloc hb3.size _
              have U1 := (hb3.cell (p := ⟨bx, 1, none⟩) hsb).trans T1
              have U2 := (hb3.cell (p := ⟨bx, 2, none⟩) hsb).trans T2
              have hsb3 : bx < w3.heap.size := Nat.lt_of_lt_of_le hsb hb3.size
              have hGr := HGr.out _ hbD
              have HGr2 := Lib.hid hGr
              have HbD := Lib.hid hbD
              obtain ⟨x0, x1⟩ := TkV_new w3 (pq.1) (pq.2)
              have X0 := Lib.hid x0; have X1 := Lib.hid x1
              clear hGr hbD hb3 x0 x1 HG HGr T1 T2
              go_wp2_with fail
              refine HGr2.out.mono ?_
              rintro e w4 ⟨rfl, hb4⟩
              have y0 := (hb4.cell (p := ⟨w3.heap.size, 0, none⟩) (by simp)).trans X0.out
              have y1 := (hb4.cell (p := ⟨w3.heap.size, 1, none⟩) (by simp)).trans X1.out
              have hl34 : w3.heap.size < w4.heap.size := by have := hb4.size; simp at this; omega
              have hb24 := HbD.out.trans (hb4.mono HbD.out.size)
              have hb25 := hb24.alloc hb24.size (.cells #[.int .i64 (pq.1), .int .i64 (pq.2)] 30)
              have HP4 : Hid (Play (w4.alloc (.cells #[.int .i64 (pq.1), .int .i64 (pq.2)] 30)) w.heap.size g vo X w1.heap.size ro Y (k + 1)) := by
                have h := Hst.out.play.below hb25
                exact ⟨h.s, h.r, h.dis, h.same, okO_mono h.ok (Nat.le_succ _)⟩
              have HB4 : Hid (Below w.heap.size w (w4.alloc (.cells #[.int .i64 (pq.1), .int .i64 (pq.2)] 30))) := HBw.out.trans (hb25.mono Hst.out.ge)
              clear hb4 hb24 hb25 HGr2 X0 X1
              go_wp2_with fail
              go_meet
              case rel => exact ⟨rfl, g, vo, X, ro, Y, rfl, HP4, HB4⟩
          · -- Set
            have hst := HS7.out
            have T1 := hst.box.c1
            have T2 := hst.box.c2
            have T3 := hst.box.c3
            have T4 := hst.box.c4
            have hsb := hst.lt
            have hS1 := stSet_all hst.play.s.drew i f p q
            have hS2 := refSet_all hst.play.r.drew i f p q
            have hS1' := fun w' (h : St 54 w' w.heap.size g vo X) => stSet_all h i f p q
            have hS2' := fun w' (h : St 28 w' w.heap.size w1.heap.size ro Y) => refSet_all h i f p q
            rw [← hst.play.same] at hS2
            simp only [← hst.play.same] at hS2'
            have Hst := Lib.hid hst
            clear hst
            cases hr : getO (objOf X) i f with
            | none =>
              rw [hr] at hS1 hS2
              simp only [hr] at hS1' hS2'
              simp only [setV] at hS1 hS2 hS1' hS2'
              have HS1 := Lib.hid hS1; have HS2 := Lib.hid hS2; have HS1' := Lib.hid hS1'; have HS2' := Lib.hid hS2'
              clear hS1 hS2 hS1' hS2' hr
              have D1 : wc.drew.cell? ⟨bx, 1, none⟩ = some (.int .i64 i) := T1
              have D2 : wc.drew.cell? ⟨bx, 2, none⟩ = some (.int .i64 f) := T2
              have D3 : wc.drew.cell? ⟨bx, 3, none⟩ = some (.int .i64 p) := T3
              have D4 : wc.drew.cell? ⟨bx, 4, none⟩ = some (.int .i64 q) := T4
              go_wp2_with fail
              go_region_held3 (fun w' => w'.cell? ⟨bx, 1, none⟩ = some (.int .i64 i) ∧ w'.cell? ⟨bx, 2, none⟩ = some (.int .i64 f) ∧ w'.cell? ⟨bx, 3, none⟩ = some (.int .i64 p) ∧ w'.cell? ⟨bx, 4, none⟩ = some (.int .i64 q)) (go_keep) (first
                | (go_at_call 12; ((with_reducible refine HS1.out.mono ?_); rintro e w3 ⟨rfl, h3⟩; (have H3 := Lib.hid (set_first Hst.out.play.r Hst.out.play.dis h3)); (have hbx3 := Hst.out.box.keep Hst.out.lt (set_keep h3) (fun j hj => Hst.out.far j (.inl hj))); (obtain ⟨_, E1, E2, E3, E4⟩ := hbx3); (have H33 := Lib.hid h3); clear h3))
                | (go_at_call 13; ((with_reducible refine (HS2'.out w3 H3.out.1).mono ?_); rintro e w4 ⟨rfl, h4⟩; (have HPL := Lib.hid (set_second H33.out H3.out.2 h4 Hst.out)); (have hbx4 := HPL.out.2.2; obtain ⟨_, F1, F2, F3, F4⟩ := hbx4); clear h4)))
              all_goals
                obtain ⟨X', Y', hpl⟩ := HPL.out.1
                have HPx := Lib.hid hpl
                have HB4 : Hid (Below w.heap.size w w4) := HBw.out.trans HPL.out.2.1
                clear hpl
                go_wp2_with fail
                go_meet
                case rel => exact ⟨rfl, g, vo, X', ro, Y', rfl, HPx, HB4⟩
            | some pq =>
              rw [hr] at hS1 hS2
              simp only [hr] at hS1' hS2'
              simp only [setV] at hS1 hS2 hS1' hS2'
              have HS1 := Lib.hid hS1; have HS2 := Lib.hid hS2; have HS1' := Lib.hid hS1'; have HS2' := Lib.hid hS2'
              clear hS1 hS2 hS1' hS2' hr
              have D1 : wc.drew.cell? ⟨bx, 1, none⟩ = some (.int .i64 i) := T1
              have D2 : wc.drew.cell? ⟨bx, 2, none⟩ = some (.int .i64 f) := T2
              have D3 : wc.drew.cell? ⟨bx, 3, none⟩ = some (.int .i64 p) := T3
              have D4 : wc.drew.cell? ⟨bx, 4, none⟩ = some (.int .i64 q) := T4
              go_wp2_with fail
              go_region_held3 (fun w' => w'.cell? ⟨bx, 1, none⟩ = some (.int .i64 i) ∧ w'.cell? ⟨bx, 2, none⟩ = some (.int .i64 f) ∧ w'.cell? ⟨bx, 3, none⟩ = some (.int .i64 p) ∧ w'.cell? ⟨bx, 4, none⟩ = some (.int .i64 q)) (go_keep) (first
                | (go_at_call 12; ((with_reducible refine HS1.out.mono ?_); rintro e w3 ⟨rfl, h3⟩; (have H3 := Lib.hid (set_first Hst.out.play.r Hst.out.play.dis h3)); (have hbx3 := Hst.out.box.keep Hst.out.lt (set_keep h3) (fun j hj => Hst.out.far j (.inl hj))); (obtain ⟨_, E1, E2, E3, E4⟩ := hbx3); (have H33 := Lib.hid h3); clear h3))
                | (go_at_call 13; ((with_reducible refine (HS2'.out w3 H3.out.1).mono ?_); rintro e w4 ⟨rfl, h4⟩; (have HPL := Lib.hid (set_second H33.out H3.out.2 h4 Hst.out)); (have hbx4 := HPL.out.2.2; obtain ⟨_, F1, F2, F3, F4⟩ := hbx4); clear h4)))
              all_goals
                obtain ⟨X', Y', hpl⟩ := HPL.out.1
                have HPx := Lib.hid hpl
                have HB4 : Hid (Below w.heap.size w w4) := HBw.out.trans HPL.out.2.1
                clear hpl
                go_wp2_with fail
                go_meet
                case rel => exact ⟨rfl, g, vo, X', ro, Y', rfl, HPx, HB4⟩
          · -- Fork
            have hst := HS7.out
            have hok := okO_len hst.play.ok
            have HFk := Lib.hid (stFork_any hst.play.s (by omega) (fun x hx => by have := hok.2 x hx; omega))
            have Hst := Lib.hid hst
            clear hst hok happ
            go_wp2_with fail
            refine HFk.out.mono ?_
            rintro e w3 ⟨g3, v3, X3, rfl, hst3, ho3, hb3⟩
            have HS1 := Lib.hid (stSet_all (Hst.out.play.s.below hb3) 0 0 9 0)
            have HF3 := Lib.hid hst3; have Ho3 := Lib.hid ho3; have Hb3 := Lib.hid hb3
            clear hst3 ho3 hb3 HFk
            go_wp2_with fail
            refine HS1.out.mono ?_
            rintro e w4 ⟨rfl, X4, hst4, ho4, hk4, hf4⟩
            have hok4 : X4.length ≤ k := (okO_len (by rw [ho4]; exact okO_set Hst.out.play.ok 0 0 (9, 0))).1
            have HMk := Lib.hid (stMake_yes hst4 (Nat.le_trans Hst.out.ge (Nat.le_trans Hb3.out.size hk4.size)) 7 (.slice none 0 0) [] ⟨rfl, Nat.zero_le _, .inl ⟨rfl, rfl⟩⟩ (by omega) (by show 0 ≤ 1000; omega))
            have Hst4 := Lib.hid hst4; have Hk4 := Lib.hid hk4; have Hf4 := Lib.hid hf4
            clear hst4 ho4 hk4 hf4 HS1 hok4
            generalize setV (getO (objOf X) 0 0) = sv at *
            go_wp2_with fail
            refine HMk.out.mono ?_
            rintro e w5 ⟨rfl, vn, v', hst5, hk5, hf5⟩
            have hk35 : Keep (foot g vo X) w3 w5 := Hk4.out.trans hk5 fun j _ h => Hf4.out j h
            have hsl : ∀ j, foot g vo X j → j < wc.heap.size := fun j hj => (Hst.out.play.s.lt hj).2
            have hs5 := HF3.out.kept hk35 (fun j h1 h2 => by have h3 := (HF3.out.lt h1).1; have h4 := hsl j h2; omega)
            have hr5 := (Hst.out.play.r.below Hb3.out).kept hk35 (fun j h1 h2 => Hst.out.play.dis j h2 h1)
            have HP5 : Hid (Play w5 w.heap.size g3 v3 X3 w1.heap.size ro Y (k + 1)) := ⟨hs5.base Hst.out.ge, hr5, fun j h1 h2 => by have h3 := (HF3.out.lt h1).1; have h4 := (Hst.out.play.r.lt h2).2; omega, by rw [Ho3.out]; exact Hst.out.play.same, by rw [Ho3.out]; exact okO_mono Hst.out.play.ok (Nat.le_succ _)⟩
            have HB5 : Hid (Below w.heap.size w w5) := (HBw.out.trans (Hb3.out.mono Hst.out.ge)).trans (hk35.below (fun j hj => (Hst.out.play.s.lt hj).1) (Nat.le_trans Hst.out.ge Hb3.out.size))
            clear hk35 hsl hs5 hr5 hst5 hk5 hf5 HMk
            go_wp2_with fail
            go_meet
            case rel => exact ⟨rfl, g3, v3, X3, ro, Y, rfl, HP5, HB5⟩
        case rest =>
          obtain ⟨rfl, g', vo', X', ro', Y', rfl, HP', HB'⟩ := hcut
          have hp := HP'.out
          have hXY : Y'.length = X'.length := by have := congrArg List.length hp.same; simpa [objOf] using this.symm
          obtain ⟨ra, rc, hro, _, _⟩ := owns_val hp.r.objs.out
          rw [hXY] at hro
          obtain ⟨r0, _⟩ := hp.r.cell
          rw [hro] at r0
          have HLn : Hid (∀ u : Nat, Calls Try.prog 15 #[.pointer (some ⟨g', 0, none⟩)] (wc.drewN u) fun e w' => e = .returned (.int .i64 (X'.length : Nat)) ∧ w' = wc.drewN u) := fun u => (stLen_any (hp.s.keep (w' := wc.drewN u) fun _ _ => rfl)).mono fun e w' h => ⟨h.1, h.2.symm⟩
          clear hp hXY hro HS7 HBw T0
          go_wp2_with fail
          go_quiet ((go_at_call 15; exact Calls.quiet_of_same (HLn.out _)))
          go_wp2_with fail
          go_roundw
          case rel => exact ⟨k + 1, g', vo', X', ro', Y', by go_num, rfl, hlt, hlt60, HP'.out.below (below_drewsS _ _), HB'.out.trans ((below_drewsS _ _).mono HB'.out.size)⟩
          case measure => simp [intOf]; omega
    · have hp := HP.out
      have hXY : Y.length = X.length := by have := congrArg List.length hp.same; simpa [objOf] using this.symm
      obtain ⟨ra, rc, hro, _, _⟩ := owns_val hp.r.objs.out
      obtain ⟨r0, _⟩ := hp.r.cell
      rw [hro, hXY] at r0
      have hrl := hp.r.gl
      have hok := okO_len hp.ok
      have HAll := Lib.hid (stAll_any hp.s.drew (by omega) (fun x hx => by have := hok.2 x hx; omega))
      have HSL : Hid (∀ (w3 : World) (v : Value) (Z : List Cel), Objs w3 wr.heap.size v Z → objOf Z = objOf X → Below wr.heap.size wr w3 → Calls Try.prog 16 #[v, .slice ra X.length rc] w3 fun e w' => e = .returned (.bool true) ∧ Below w3.heap.size w3 w') := fun w3 v Z hz hoz hb => by
        have h := sameList_any hz ((hp.r.objs).below hb) (hoz.trans hp.same)
        rw [hro, hXY] at h; exact h
      have D0 : wr.drew.cell? ⟨w1.heap.size, 0, none⟩ = some (.slice ra X.length rc) := r0
      have hsw := HB.out.size
      clear hp hXY hro hok Hacts HP0 HB0
      have hex : n ≤ k ∨ (k < n ∧ 60 ≤ k) := by omega
      clear hlt
      rcases hex with h1 | ⟨h1, h2⟩
      · have q1 : ¬ (k : Int) < (n : Int) := by omega
        have q2 : decide ((k : Int) < (n : Int)) = false := decide_eq_false q1
        have q3 : decide (k < n) = false := decide_eq_false (by omega)
        clear h1
        go_wp2_with fail
        go_region_held3 (fun w' => w'.cell? ⟨w1.heap.size, 0, none⟩ = some (.slice ra X.length rc)) (go_keep) (first
          | (go_at_call 17; ((with_reducible refine HAll.out.mono ?_); rintro e w3 ⟨v3, Z, rfl, hz, hoz, hb3⟩; (have hb3 : Below wr.heap.size wr w3 := (Below.refl _ wr).drew.trans hb3); (have E0 := (hb3.cell (p := ⟨w1.heap.size, 0, none⟩) hrl).trans r0); (have hl3 : w1.heap.size < w3.heap.size := Nat.lt_of_lt_of_le hrl hb3.size); (have HC3 := Lib.hid (HSL.out w3 v3 Z hz hoz hb3)); (have HB3 := Lib.hid (HB.out.trans (hb3.mono hsw))); clear hz hoz hb3))
          | (go_at_call 16; ((with_reducible refine HC3.out.mono ?_); rintro e w4 ⟨rfl, hb4⟩; (have F0 := (hb4.cell (p := ⟨w1.heap.size, 0, none⟩) hl3).trans E0); (have hl4 : w1.heap.size < w4.heap.size := Nat.lt_of_lt_of_le hl3 hb4.size); (have HB4 := Lib.hid (HB3.out.trans (hb4.mono HB3.out.size))); clear hb4))
          | (go_at_call 18; ((with_reducible refine (law33works_any w4).mono ?_); rintro e w5 ⟨rfl, hb5⟩; (have G0 := (hb5.cell (p := ⟨w1.heap.size, 0, none⟩) hl4).trans F0); (have HB5 := Lib.hid (HB4.out.trans (hb5.mono HB4.out.size))); clear hb5)))
        all_goals
          go_wp2_with fail
          go_ret
          exact ⟨rfl, HB5.out⟩
      · have q1 : (k : Int) < (n : Int) := by omega
        have q2 : ¬ (k : Int) < 60 := by omega
        have q3 : decide ((k : Int) < 60) = false := decide_eq_false q2
        have q4 : decide (k < 60) = false := decide_eq_false (by omega)
        clear h1 h2
        go_wp2_with fail
        go_region_held3 (fun w' => w'.cell? ⟨w1.heap.size, 0, none⟩ = some (.slice ra X.length rc)) (go_keep) (first
          | (go_at_call 17; ((with_reducible refine HAll.out.mono ?_); rintro e w3 ⟨v3, Z, rfl, hz, hoz, hb3⟩; (have hb3 : Below wr.heap.size wr w3 := (Below.refl _ wr).drew.trans hb3); (have E0 := (hb3.cell (p := ⟨w1.heap.size, 0, none⟩) hrl).trans r0); (have hl3 : w1.heap.size < w3.heap.size := Nat.lt_of_lt_of_le hrl hb3.size); (have HC3 := Lib.hid (HSL.out w3 v3 Z hz hoz hb3)); (have HB3 := Lib.hid (HB.out.trans (hb3.mono hsw))); clear hz hoz hb3))
          | (go_at_call 16; ((with_reducible refine HC3.out.mono ?_); rintro e w4 ⟨rfl, hb4⟩; (have F0 := (hb4.cell (p := ⟨w1.heap.size, 0, none⟩) hl3).trans E0); (have hl4 : w1.heap.size < w4.heap.size := Nat.lt_of_lt_of_le hl3 hb4.size); (have HB4 := Lib.hid (HB3.out.trans (hb4.mono HB3.out.size))); clear hb4))
          | (go_at_call 18; ((with_reducible refine (law33works_any w4).mono ?_); rintro e w5 ⟨rfl, hb5⟩; (have G0 := (hb5.cell (p := ⟨w1.heap.size, 0, none⟩) hl4).trans F0); (have HB5 := Lib.hid (HB4.out.trans (hb5.mono HB4.out.size))); clear hb5)))
        all_goals
          go_wp2_with fail
          go_ret
          exact ⟨rfl, HB5.out⟩
section
variable {H : Type} {enc : TypeId × Value → H} {w : World} {base : Nat} {spare : Nat → Bool} {held : Bool}
theorem val_of {n : Nat} {c : List Value} {y : DataW H × List MemPlace} (h : DataW.trod enc Try.prog w base spare held n 30 c = some y) (hl : c.length = 2) : ∃ k m : Int, c = [.int .i64 k, .int .i64 m] := by
  obtain ⟨xs, n', _, _, _, hx, hf⟩ := DataW.trod_struct Try.underlying30 h
  match c, hl with
  | [c0, c1], _ =>
    have h0 := hf 0 _ rfl
    have h1 := hf 1 _ rfl
    obtain ⟨y0, e0⟩ : ∃ y, xs[0]? = some y := ⟨_, List.getElem?_eq_getElem (by rw [hx]; decide)⟩; rw [e0] at h0
    obtain ⟨y1, e1⟩ : ∃ y, xs[1]? = some y := ⟨_, List.getElem?_eq_getElem (by rw [hx]; decide)⟩; rw [e1] at h1
    have h0' : DataW.trod enc Try.prog w base spare held n' 3 [c0] = some y0 := h0
    have h1' : DataW.trod enc Try.prog w base spare held n' 2 [c1] = some y1 := h1
    obtain ⟨a, ha, _, _⟩ := DataW.trod_int Try.underlying3 h0'
    obtain ⟨b, hb, _, _⟩ := DataW.trod_int Try.underlying2 h1'
    simp only [List.cons.injEq, and_true] at ha hb
    exact ⟨a, b, by rw [ha, hb]⟩
theorem valC_of (xs : List (List Value)) (h : ∀ c ∈ xs, ∃ k m : Int, c = [.int .i64 k, .int .i64 m]) : ∃ L : List (Int × Int), L.length = xs.length ∧ xs.flatten = valC L := by
  induction xs with
  | nil => exact ⟨[], rfl, rfl⟩
  | cons c r ih =>
    obtain ⟨k, m, rfl⟩ := h c (by simp)
    obtain ⟨L, h1, h2⟩ := ih (fun c hc => h c (by simp [hc]))
    exact ⟨(k, m) :: L, by simp [h1], by rw [List.flatten_cons, h2]; rfl⟩
theorem act_of {n : Nat} {c : List Value} {y : DataW H × List MemPlace} (h : DataW.trod enc Try.prog w base spare held n 33 c = some y) (hl : c.length = 6) :
    ∃ (d i f p q : Int) (lv : Value) (L : List (Int × Int)), c = [.int .i64 d, .int .i64 i, .int .i64 f, .int .i64 p, .int .i64 q, lv] ∧ Row w w.heap.size 2 lv L.length (valC L) ∧ -9223372036854775808 ≤ d ∧ d ≤ 9223372036854775807 := by
  obtain ⟨xs, n', _, _, _, hx, hf⟩ := DataW.trod_struct Try.underlying33 h
  match c, hl with
  | [c0, c1, c2, c3, c4, c5], _ =>
    have h0 := hf 0 _ rfl; have h1 := hf 1 _ rfl; have h2 := hf 2 _ rfl; have h3 := hf 3 _ rfl; have h4 := hf 4 _ rfl
    obtain ⟨y0, e0⟩ : ∃ y, xs[0]? = some y := ⟨_, List.getElem?_eq_getElem (by rw [hx]; decide)⟩; rw [e0] at h0
    obtain ⟨y1, e1⟩ : ∃ y, xs[1]? = some y := ⟨_, List.getElem?_eq_getElem (by rw [hx]; decide)⟩; rw [e1] at h1
    obtain ⟨y2, e2⟩ : ∃ y, xs[2]? = some y := ⟨_, List.getElem?_eq_getElem (by rw [hx]; decide)⟩; rw [e2] at h2
    obtain ⟨y3, e3⟩ : ∃ y, xs[3]? = some y := ⟨_, List.getElem?_eq_getElem (by rw [hx]; decide)⟩; rw [e3] at h3
    obtain ⟨y4, e4⟩ : ∃ y, xs[4]? = some y := ⟨_, List.getElem?_eq_getElem (by rw [hx]; decide)⟩; rw [e4] at h4
    have h0' : DataW.trod enc Try.prog w base spare held n' 3 [c0] = some y0 := h0
    have h1' : DataW.trod enc Try.prog w base spare held n' 3 [c1] = some y1 := h1
    have h2' : DataW.trod enc Try.prog w base spare held n' 3 [c2] = some y2 := h2
    have h3' : DataW.trod enc Try.prog w base spare held n' 30 [c3, c4] = some y3 := h3
    have h4' : DataW.trod enc Try.prog w base spare held n' 31 [c5] = some y4 := h4
    obtain ⟨d, hd, _, wd⟩ := DataW.trod_int Try.underlying3 h0'
    obtain ⟨i, hi, _, _⟩ := DataW.trod_int Try.underlying3 h1'
    obtain ⟨f, hf2, _, _⟩ := DataW.trod_int Try.underlying3 h2'
    obtain ⟨p, q, hpq⟩ := val_of h3' rfl
    simp only [List.cons.injEq, and_true] at hd hi hf2 hpq
    obtain ⟨hp, hq⟩ := hpq
    subst hd hi hf2 hp hq
    have hok : ∃ a len cap, c5 = .slice a len cap := by
      rcases DataW.trod_slice Try.underlying31 h4' with ⟨hc, _⟩ | ⟨a, len, cap, _, _, _, _, hc, _⟩
      · simp only [List.cons.injEq, and_true] at hc; exact ⟨_, _, _, hc⟩
      · simp only [List.cons.injEq, and_true] at hc; exact ⟨_, _, _, hc⟩
    obtain ⟨zs, hr, hz⟩ := rowOfElems (v := c5) Try.underlying31 (size := 2) (by kernel_rfl) (by decide) hok ⟨n', by obtain ⟨a, len, cap, rfl⟩ := hok; exact h4'⟩
    obtain ⟨L, hL1, hL2⟩ := valC_of zs (fun c hc => by obtain ⟨h1, n2, y2, h2⟩ := hz c hc; exact val_of h2 h1)
    rw [← hL1, hL2] at hr
    exact ⟨d, i, f, p, q, c5, L, rfl, hr, i64_of_wfS wd⟩
end
theorem storePlays_law {H : Type} {base : Nat} (enc : TypeId × Value → H) (W : World)
    (v0 : Value) (d0 : DataW H) (p0 : List MemPlace) (k0 : Value.okWide Try.prog W .any base 22 v0) (h0 : DataW.Trod enc Try.prog W 0 (fun _ => true) true 22 v0 d0 p0) :
    Calls Try.prog 3 #[v0] W fun e w' => e = .returned (.bool true) ∧ Below W.heap.size W w' := by
  obtain ⟨xs, hr, hx⟩ := rowOfElems Try.underlying22 (size := 6) (by kernel_rfl) (by decide) (Go.WideShapes.okWide_slice Try.underlying22 k0) h0
  obtain ⟨ao, c, rfl, hc1, hc2⟩ := hr.val
  refine storePlays_walk W ao xs.length c hc1 hc2 fun k hk => ?_
  have hs : ∀ c ∈ xs, c.length = 6 := fun c hc => (hx c hc).1
  obtain ⟨b, off, rfl, hb, hcell⟩ := hr.at (by rw [flat_len xs 6 hs]; omega)
  obtain ⟨h1, n2, y2, h2⟩ := hx _ (List.getElem_mem hk)
  obtain ⟨d, i, f, p, q, lv, L, he, hrow, hd⟩ := act_of h2 h1
  have hc : ∀ j (hj : j < 6), W.cell? ⟨b, off + (k * 6 + j), none⟩ = (some (xs[k][j]'(by omega))) := fun j hj => hcell _ _ (by rw [flat_at xs 6 hs k hk j hj, List.getElem?_eq_getElem (by omega)])
  refine ⟨b, off, d, i, f, p, q, lv, L, rfl, hb, ⟨?_, ?_, ?_, ?_, ?_, ?_, hrow, hd⟩⟩
  · have := hc 0 (by omega); simpa [he] using this
  · have := hc 1 (by omega); simpa [he, Nat.add_assoc] using this
  · have := hc 2 (by omega); simpa [he, Nat.add_assoc] using this
  · have := hc 3 (by omega); simpa [he, Nat.add_assoc] using this
  · have := hc 4 (by omega); simpa [he, Nat.add_assoc] using this
  · have := hc 5 (by omega); simpa [he, Nat.add_assoc] using this
end Go.Proofs.Ytfmhdmgkbaicbaa
