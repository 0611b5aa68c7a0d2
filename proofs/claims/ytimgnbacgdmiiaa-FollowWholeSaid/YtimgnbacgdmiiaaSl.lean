/-
  Slices in a world, over any program: 'Row': what a slice value reads as; the walk's laws for append, for a cut, for bytes turned into a string, said of it.
-/
import Derived.WalkKit
import Derived.WalkSpells
import Derived.WalkLawsBesides
import Derived.Laws.AppendOwnNone
import Derived.Laws.BytesString
import Derived.OpenShut
import Derived.Lib.Hide
namespace Go.Proofs.Ytimgnbacgdmiiaa
open Go.RowKit

/-- The slice value v, of n elements of 'size' cells each, reads as the cells xs; they lie in a block below B. -/
def Row (w : World) (B : Nat) (size : Nat) (v : Value) (n : Nat) (xs : List Value) : Prop :=
  xs.length = n * size ∧ n ≤ maxLen ∧
  ((v = .slice none 0 0 ∧ n = 0) ∨ ∃ a c, v = .slice (some a) n c ∧ n ≤ c ∧ c ≤ maxLen ∧ (n = 0 ∨ a.block < B) ∧ ∀ j u, xs[j]? = some u → w.cell? (a.add j) = some u)

theorem Row.val {w B size v n xs} (h : Row w B size v n xs) : ∃ ao c, v = .slice ao n c ∧ n ≤ c ∧ c ≤ maxLen := by
  rcases h.2.2 with ⟨rfl, rfl⟩ | ⟨a, c, rfl, h1, h2, _⟩
  · exact ⟨none, 0, rfl, Nat.le_refl _, Nat.zero_le _⟩
  · exact ⟨_, c, rfl, h1, h2⟩

theorem Row.at {w B size ao n c xs} (h : Row w B size (.slice ao n c) n xs) (hp : 0 < xs.length) :
    ∃ b off, ao = some ⟨b, off, none⟩ ∧ b < B ∧ ∀ j u, xs[j]? = some u → w.cell? ⟨b, off + j, none⟩ = some u := by
  rcases h.2.2 with ⟨_, h0⟩ | ⟨a, c', hv, _, _, hb, hc⟩
  · have := h.1; rw [h0] at this; omega
  · simp only [Value.slice.injEq] at hv
    obtain ⟨rfl, _⟩ := hv
    obtain ⟨b, off, spot⟩ := a
    have h0 : w.cell? (Addr.add ⟨b, off, spot⟩ 0) = some xs[0] := hc 0 _ (by simp [hp])
    have hspot : spot = none := by simpa [Addr.add] using World.cell?_spot h0
    subst hspot
    have hb' : b < B := by
      rcases hb with h0 | h0
      · have := h.1; rw [h0] at this; omega
      · exact h0
    exact ⟨b, off, rfl, hb', fun j u hu => by rw [← Go.WideShapes.add_plain]; exact hc j u hu⟩

theorem Row.cell {w B size b off n c xs} (h : Row w B size (.slice (some ⟨b, off, none⟩) n c) n xs) (j : Nat) (u : Value) (hu : xs[j]? = some u) : w.cell? ⟨b, off + j, none⟩ = some u := by
  have hp : 0 < xs.length := by rcases Nat.eq_zero_or_pos xs.length with h0 | h0
                                · have := List.length_eq_zero_iff.1 h0; subst this; simp at hu
                                · exact h0
  obtain ⟨b', off', hb, _, hc⟩ := h.at hp
  simp only [Option.some.injEq, Addr.mk.injEq, and_true] at hb
  obtain ⟨rfl, rfl⟩ := hb
  exact hc j u hu

theorem Row.below {w w' B size v n xs} (h : Row w B size v n xs) (hb : Below B w w') : Row w' B size v n xs := by
  refine ⟨h.1, h.2.1, ?_⟩
  rcases h.2.2 with h0 | ⟨a, c, hv, h1, h2, h3, hc⟩
  · exact .inl h0
  · refine .inr ⟨a, c, hv, h1, h2, h3, fun j u hu => ?_⟩
    rcases h3 with h0 | h3
    · have := h.1; rw [h0, Nat.zero_mul] at this
      have := List.length_eq_zero_iff.1 this; subst this; simp at hu
    · rw [hb.cell (p := a.add j) (by unfold Addr.add; split <;> exact h3)]; exact hc j u hu

theorem Row.mono {w B B' size v n xs} (h : Row w B size v n xs) (hB : B ≤ B') : Row w B' size v n xs := by
  refine ⟨h.1, h.2.1, ?_⟩
  rcases h.2.2 with h0 | ⟨a, c, hv, h1, h2, h3, hc⟩
  · exact .inl h0
  · exact .inr ⟨a, c, hv, h1, h2, h3.imp id (fun h => by omega), hc⟩

theorem Row.of_owns {w : World} {base e size v n xs} (h : w.ownsRow base e size v n xs) : Row w w.heap.size size v n xs := by
  rcases h.2 with ⟨hv, hn⟩ | ⟨g, cap, cur, rfl, hb, hg, hnc, hcm, hcs, htake⟩
  · exact ⟨h.1, by omega, .inl ⟨hv, hn⟩⟩
  · exact ⟨h.1, by omega, .inr ⟨_, cap, rfl, hnc, hcm, .inr (by show g < _; have := World.ownsRow.lt h g rfl; omega), fun j u hu => World.ownsRow.cells h rfl j u hu⟩⟩

/-- The cut 'l[:k]'. -/
theorem Row.take {w B size ao n c xs} (h : Row w B size (.slice ao n c) n xs) (k : Nat) (hk : k ≤ n) : Row w B size (.slice ao k c) k (xs.take (k * size)) := by
  refine ⟨?_, by have := h.2.1; omega, ?_⟩
  · rw [List.length_take, h.1]; have := Nat.mul_le_mul_right size hk; omega
  · rcases h.2.2 with ⟨hv, hn⟩ | ⟨a, c', hv, h1, h2, h3, hc⟩
    · simp only [Value.slice.injEq] at hv
      obtain ⟨rfl, _, rfl⟩ := hv
      obtain rfl : k = 0 := by omega
      exact .inl ⟨rfl, rfl⟩
    · simp only [Value.slice.injEq] at hv
      obtain ⟨rfl, _, rfl⟩ := hv
      refine .inr ⟨a, c, rfl, by omega, h2, h3.imp (fun h => by omega) id, fun j u hu => hc j u ?_⟩
      rw [List.getElem?_take] at hu
      split at hu
      · exact hu
      · cases hu

section
variable {P : Program} {w : World}

/-- 'dst = append(dst, src...)': dst the call's own, src whatever reads as a row. -/
theorem wpList_append_row {ops : Array Oper} {rest : List Oper} {o : Oper} {a : Act} {Q : Exit → Act → World → Prop} (hgd : o.guard = none) (s x : Operand) (t : TypeId)
    (ho : o.op = .call { callee := .builtin .append, args := #[s, x], argTypes := #[t, t] })
    (base : Nat) (e : TypeId) (i : TypeInfo) (z : Value) (size bytes : Nat) (ht : P.underlying t = some (.slice e)) (hi : P.info? e = some i) (hz : i.zero = some z)
    (hsize : i.size = size) (hby : i.bytes = bytes) (hzs : z.cells.size = size) (hsz : 0 < size)
    (v : Value) (n : Nat) (xs : List Value) (hs : a.eval s = v) (hown : w.ownsRow base e size v n xs)
    (B : Nat) (vx : Value) (m : Nat) (news : List Value) (hx : a.eval x = vx) (hr : Row w B size vx m news) (h1 : ∀ u ∈ news, u.oneCell' = true)
    (h63 : n + m ≤ maxLen) (hbytes : (n + m) * bytes ≤ 140737488355328) (hbase : base ≤ w.heap.size)
    (h : ∀ v' w', w'.ownsRow base e size v' (n + m) (xs ++ news) → w.grownBy w' v.ownBlock → wpList P ops Q rest (a.put o.dst v') w') : wpList P ops Q (o :: rest) a w := by
  rcases hr.2.2 with ⟨rfl, rfl⟩ | ⟨ad, c, rfl, _, _, _, hc⟩
  · have hn : news = [] := List.length_eq_zero_iff.1 (by have := hr.1; simpa using this)
    subst hn
    refine wpList_append_own_none hgd s x t ho base e i size ht hi v n xs hs hown hx ?_
    exact h v w (by simpa using hown) ⟨rfl, rfl, rfl, Nat.le_refl _, fun _ _ _ => rfl⟩
  · exact wpList_append_own w hgd s x t ho base e i z size bytes ht hi hz hsize hby hzs hsz v n xs hs hown ad m c news hx hr.1 hc h1 h63 hbytes hbase fun v' w' h2 h3 _ => h v' w' h2 h3

/-- Bytes as cells. -/
def bys (l : List UInt8) : List Value := l.map fun b => .int .u8 (b.toNat : Int)
theorem bys_length (l : List UInt8) : (bys l).length = l.length := by simp [bys]
theorem bys_one (l : List UInt8) : ∀ u ∈ bys l, u.oneCell' = true := by
  intro u hu; obtain ⟨b, _, rfl⟩ := List.mem_map.1 hu; rfl
def ints (l : List Int) : List Value := l.map (.int .i64)
theorem ints_length (l : List Int) : (ints l).length = l.length := by simp [ints]
theorem ints_one (l : List Int) : ∀ u ∈ ints l, u.oneCell' = true := by
  intro u hu; obtain ⟨b, _, rfl⟩ := List.mem_map.1 hu; rfl
theorem ints_at (l : List Int) (j : Nat) (hj : j < l.length) : (ints l)[j]? = some (.int .i64 l[j]) := by simp [ints, hj]

theorem foldl_push (l : List UInt8) : ∀ s : ByteArray, ((l.map fun b => (b.toNat : Int)).foldl (fun r n => r.push (UInt8.ofNat n.toNat)) s) = ⟨s.data ++ l.toArray⟩ := by
  induction l with
  | nil => intro s; simp
  | cons b l ih =>
    intro s
    simp only [List.map_cons, List.foldl_cons, Int.toNat_natCast, UInt8.ofNat_toNat]
    rw [ih]
    simp [ByteArray.push]

/-- 'string(b)', b a row of bytes. -/
theorem run_bytes_row {src dst e : TypeId} {B : Nat} {v : Value} {l : List UInt8} (hs : P.underlying src = some (.slice e)) (he : P.underlying e = some (.int .u8)) (hd : P.underlying dst = some .string)
    (h : Row w B 1 v l.length (bys l)) : (convert src dst v).run P w = .ok (.string ⟨l.toArray⟩) w := by
  rcases h.2.2 with ⟨rfl, hn⟩ | ⟨a, c, rfl, _, _, _, hc⟩
  · obtain rfl : l = [] := List.length_eq_zero_iff.1 hn
    rw [run_convert_bytes_string w src dst e _ _ _ hs he hd]
    rfl
  · rw [run_convert_bytes_string w src dst e _ _ _ hs he hd]
    have hl := run_loadCells_list (P := P) w a (bys l) hc
    rw [bys_length] at hl
    rw [run_bytesToString w a l.length c (l.map fun b => (b.toNat : Int)) (by rw [hl]; simp [bys])]
    rw [foldl_push]
    simp

/-- A slice of integers that came in. -/
theorem Row.of_ints {H : Type} {enc : TypeId × Value → H} {base : Nat} {spare : Nat → Bool} {held : Bool} {t e : TypeId} {k : IntKind} {v : Value} {d : DataW H} {p : List MemPlace}
    (ht : P.underlying t = some (.slice e)) (he : P.underlying e = some (.int k)) (hc : P.cellsOf e = 1) (hok : ∃ a len cap, v = .slice a len cap) (h : DataW.Trod enc P w base spare held t v d p) :
    ∃ l : List Int, Row w w.heap.size 1 v l.length (l.map (.int k)) ∧ ∀ n ∈ l, (Lit.int k n).wf = true := by
  obtain ⟨fuel, hf⟩ := h
  obtain ⟨a0, len, cap, rfl⟩ := hok
  rcases Go.ChangeShapes.open_ints ht he hc hf with ⟨hcs, _⟩ | ⟨a, len', cap', zs, hcs, _, hl, hm, hz, _, hcell, hwz⟩
  · simp [Value.cells] at hcs
    obtain ⟨rfl, rfl, rfl⟩ := hcs
    exact ⟨[], ⟨rfl, Nat.zero_le _, .inl ⟨rfl, rfl⟩⟩, fun n hn => by cases hn⟩
  · simp [Value.cells] at hcs
    obtain ⟨rfl, rfl, rfl⟩ := hcs
    have hzl : len ≤ zs.length := by split at hz <;> omega
    have hlen : (zs.take len).length = len := by rw [List.length_take]; omega
    refine ⟨zs.take len, ⟨by simp, by rw [hlen]; omega, .inr ⟨a, cap, by rw [hlen], by rw [hlen]; exact hl, hm, ?_, ?_⟩⟩, fun n hn => hwz n (List.mem_of_mem_take hn)⟩
    · rw [hlen]
      rcases Nat.eq_zero_or_pos len with h0 | h0
      · exact .inl h0
      · right
        have := World.block_lt_of_cell? w _ (hcell 0 (by omega))
        simpa [Addr.add] using this
    · intro j u hu
      rw [List.getElem?_map, List.getElem?_take] at hu
      split at hu
      · have hj : j < zs.length := by omega
        rw [hcell j hj, ← hu]
        simp [hj]
      · simp at hu
end
end Go.Proofs.Ytimgnbacgdmiiaa
