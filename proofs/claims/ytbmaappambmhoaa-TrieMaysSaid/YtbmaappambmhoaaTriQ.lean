/-
  (*trie.maker).node.
-/
import Derived.Test.YtbmaappambmhoaaTriP
import Derived.Test.YtbmaappambmhoaaPackF
import Derived.BigRegion
import Derived.Deep.RegionWith
import Derived.Deep.DeepCutAuto
import Derived.Deep.QuietTactic
import Derived.BigQuiet
namespace Go.Proofs.Ytbmaappambmhoaa
open Go.RowKit PK Go.Maps Go.WideMaps
set_option linter.unusedVariables false
set_option linter.unusedSimpArgs false
attribute [local go_sem ↓] append_appM

/-- A row of texts below block n, and not in block g. -/
def TS (w : World) (g n : Nat) (v : Value) (l : List Tx) : Prop := ∃ ao c, v = .slice ao l.length c ∧ l.length ≤ c ∧ c ≤ maxLen ∧
  (l = [] ∨ ∃ b off, ao = some ⟨b, off, none⟩ ∧ b ≠ g ∧ b < n ∧ ∀ j (hj : j < l.length), w.cell? ⟨b, off + j, none⟩ = some (.string ⟨l[j].toArray⟩))
theorem TS.kb {w w' : World} {g n : Nat} {v : Value} {l : List Tx} (h : TS w g n v l) (hk : KB n g w w') : TS w' g n v l := by
  obtain ⟨ao, c, h1, h2, h3, h4⟩ := h
  refine ⟨ao, c, h1, h2, h3, ?_⟩
  rcases h4 with h4 | ⟨b, off, h5, h6, h7, h8⟩
  · exact .inl h4
  · exact .inr ⟨b, off, h5, h6, h7, fun j hj => (cell_eq (p := ⟨b, off + j, none⟩) (hk.block b h7 h6)).trans (h8 j hj)⟩
theorem MSt.drew {w n g K mv vo X} (h : MSt w n g K mv vo X) : MSt w.drew n g K mv vo X := h.keep (Below.refl _ w).drew
theorem MSt.drews {w n g K mv vo X} (h : MSt w n g K mv vo X) (q : Nat) : MSt (w.drewN q) n g K mv vo X := h.keep (below_drewsP w q)
/-- What node answers. -/
def NodePost (n g : Nat) (K : Int) (mv : Value) (w : World) (X : List Cn) (new : List Nd) (e : Ending) (w' : World) : Prop :=
  e = .returned (.int .i64 (X.length : Nat)) ∧ ∃ vo' X', MSt w' n g K mv vo' X' ∧ ndsOf X' = ndsOf X ++ new ∧ KB n g w w'

set_option maxHeartbeats 4000000 in
set_option maxRecDepth 100000 in
theorem node_leaf (n g mb nm : Nat) (K : Nat) (f : Tx → Option Nat) (p : Tx) (x : Nat) (E : List Tx) (lv vo : Value) (X : List Cn) (w : World) (hK : K ≤ 4) (hf : f p = some x) (hx : x < 20000) (hp : p.length ≤ 100)
    (hl : X.length + 1 ≤ 20000) (h : MSt w n g K (.map (some mb)) vo X) (hm : MapS w mb nm f) (hmn : mb < n) (hmg : mb ≠ g) (ht : TS w g n lv (p :: E)) (hE : E.length ≤ 100000) :
    Calls Try.prog 55 #[.pointer (some ⟨g, 0, none⟩), lv, .int .i64 K] w (NodePost n g K (.map (some mb)) w X [⟨((x : Nat) : Int), [], []⟩]) := by
  obtain ⟨c0, c1, c2, c3, cf, hgl⟩ := h.cell
  obtain ⟨ao, c, rfl, hc1, hc2⟩ := owns_valP h.nds.out
  have f1 := cf 1
  obtain ⟨ao1, d1, w2, happ, k1, k2, k3, hd1, hd2, hst, hkb⟩ := h.push (by omega)
  obtain ⟨lao, lc, rfl, hlc, hlc2, hrow⟩ := ht
  rcases hrow with hrow | ⟨bl, ol, rfl, hbg, hbn, hcell⟩
  · cases hrow
  have s0 := hcell 0 (by simp)
  simp only [Nat.add_zero, List.getElem_cons_zero] at s0
  have hne : ((X.length : Int) == 20000) = false := by rw [beq_eq_false_iff_ne]; omega
  have hlp : (0 : Int) < ((p :: E).length : Int) := by simp
  have hlp2 : 0 < (p :: E).length := by simp
  have Hf := Lib.hid hf; have Hx := Lib.hid hx; have Hm := Lib.hid hm; have Hst := Lib.hid hst; have Hkb := Lib.hid hkb; have Hs0 := Lib.hid s0; have Hcell := Lib.hid (fun (w' : World) (hk : KB n g w w') => (cell_eq (p := ⟨bl, ol, none⟩) (hk.block bl hbn hbg)).trans s0)
  unfold maxLen at hc2 hd2 hlc2
  have hX63 : X.length ≤ 9223372036854775807 := by omega
  clear hf hx hm hst hkb s0 hcell h cf hK
  generalize (p :: E).length = le at *
  go_enter Try.func55, Try.ntmps55
  go_upto_region 6 with fail
  generalize w2.setCell ⟨g, 1, none⟩ (.slice ao1 (X.length + 1) d1) = w3 at *
  clear happ k1 k2 k3 c0 c1 c2 c3 f1 hgl
  have hst := Hst.out
  have hx0 : (X ++ [(⟨-1, .slice none 0 0, .slice none 0 0, [], []⟩ : Cn)])[X.length]? = some ⟨-1, .slice none 0 0, .slice none 0 0, [], []⟩ := by simp
  have hnx : ndsOf ((X ++ [(⟨-1, .slice none 0 0, .slice none 0 0, [], []⟩ : Cn)]).set X.length ⟨(x : Nat), .slice none 0 0, .slice none 0 0, [], []⟩) = ndsOf X ++ [⟨((x : Nat) : Int), [], []⟩] := by
    rw [List.set_append_right _ _ (Nat.le_refl _), Nat.sub_self]; simp [ndsOf]
  have hl1 : (X ++ [(⟨-1, .slice none 0 0, .slice none 0 0, [], []⟩ : Cn)]).length = X.length + 1 := by simp
  generalize X ++ [(⟨-1, .slice none 0 0, .slice none 0 0, [], []⟩ : Cn)] = X1 at *
  rw [← hl1] at hst
  obtain ⟨b, rfl, hbB, hbl, e0, e1, e2, ef⟩ := hst.nds.at X.length (by omega)
  have hxe : X1[X.length]'(by omega) = ⟨-1, .slice none 0 0, .slice none 0 0, [], []⟩ := by
    have := hx0; rw [List.getElem?_eq_getElem (by omega)] at this; exact Option.some.inj this
  rw [hxe] at e0 e1 e2
  obtain ⟨s1, s2⟩ := hst.setLeaf X.length _ hx0 (x : Nat)
  obtain ⟨s3, s4⟩ := s1.setFull
  have Hend := Lib.hid (⟨rfl, _, _, s3, hnx, (Hkb.out.trans s2).trans s4⟩ : NodePost n g K (.map (some mb)) w X [⟨((x : Nat) : Int), [], []⟩] (.returned (.int .i64 (X.length : Nat))) ((w3.setCell ⟨b, X.length * 3, none⟩ (.int .i64 (x : Nat))).setCell ⟨g, 3, none⟩ (.bool false)))
  obtain ⟨c0, c1, c2, c3, cf, hgl⟩ := hst.cell
  have t3 : (w3.setCell ⟨b, X.length * 3, none⟩ (.int .i64 (x : Nat))).cell? ⟨g, 3, none⟩ = some (.bool false) := s1.cell.2.2.2.1
  have t1 := s1.cell.2.1
  have tf : (w3.setCell ⟨b, X.length * 3, none⟩ (.int .i64 (x : Nat))).frozen? ⟨g, 3, none⟩ = false := s1.cell.2.2.2.2.1 3
  have f0 := ef (X.length * 3)
  have sx := Hcell.out w3 Hkb.out
  have hlook := (Hm.out.kb Hkb.out hmn hmg).look p (by unfold maxLen; omega) x Hf.out
  have hlook2 : (Instr.lookup 70 (.map (some mb)) (.string ⟨p.toArray⟩) false).run Try.prog w3.drew = .ok (.int .i64 (x : Nat)) w3.drew := ((Hm.out.kb (Hkb.out.drews 1) hmn hmg : MapS w3.drew mb nm f)).look p (by unfold maxLen; omega) x Hf.out
  have q1 : decide ((20000 : Int) ≤ (x : Int)) = false := decide_eq_false (by have := Hx.out; omega)
  have q2 : decide (20000 ≤ x) = false := decide_eq_false (by have := Hx.out; omega)
  have hi1 : (X.length : Int) < (X1.length : Int) := by omega
  have hi0 : (0 : Int) ≤ (X.length : Int) := by omega
  clear hst s1 s2 s3 s4 hnx hx0 Hst cf ef hxe Hm Hcell Hkb hl
  generalize hsp : (⟨p.toArray⟩ : ByteArray) = s at *
  go_upto_region 7 with fail
  go_region
  all_goals
    go_wp2_with fail
    go_ret
    obtain ⟨_, vo', X', q1, q2, q3⟩ := Hend.out
    first | exact ⟨rfl, vo', X', q1, q2, q3⟩ | exact ⟨rfl, vo', X', q1.drew, q2, q3.drews 1⟩

theorem ndsOf_set (X : List Cn) (i : Nat) (x : Cn) : ndsOf (X.set i x) = (ndsOf X).set i ⟨x.leaf, x.toks, x.kids⟩ := by simp [ndsOf, List.map_set]
theorem nds_get {X : List Cn} {A C : List Nd} {d : Nd} (h : ndsOf X = A ++ d :: C) : ∃ x, X[A.length]? = some x ∧ x.leaf = d.leaf ∧ x.toks = d.toks ∧ x.kids = d.kids := by
  have h1 : (ndsOf X)[A.length]? = some d := by rw [h, List.getElem?_append_right (Nat.le_refl _), Nat.sub_self]; rfl
  unfold ndsOf at h1
  rw [List.getElem?_map] at h1
  cases hx : X[A.length]? with
  | none => rw [hx] at h1; cases h1
  | some x => rw [hx] at h1; simp only [Option.map_some, Option.some.injEq] at h1; subst h1; exact ⟨x, rfl, rfl, rfl, rfl⟩
theorem set_mid {α : Type} (A C : List α) (d d' : α) : (A ++ d :: C).set A.length d' = A ++ d' :: C := by
  rw [List.set_append_right _ _ (Nat.le_refl _), Nat.sub_self]; rfl
theorem grp_len {X : Type} (l : List (UInt8 × X)) : (grp l).length ≤ l.length := by
  induction l with
  | nil => simp [grp]
  | cons a r ih =>
    rw [grp]
    cases hg : grp r with
    | nil => simp
    | cons q g =>
      rw [hg] at ih
      simp only
      by_cases h : a.1 = q.1
      · rw [if_pos h]; simp only [List.length_cons] at ih ⊢; omega
      · rw [if_neg h]; simp only [List.length_cons] at ih ⊢; omega
theorem TS.take {w : World} {g n : Nat} {b off len c : Nat} {l : List Tx} (h : TS w g n (.slice (some ⟨b, off, none⟩) len c) l) (k : Nat) (hk : k ≤ l.length) (hk0 : 0 < k) : TS w g n (.slice (some ⟨b, off, none⟩) k c) (l.take k) := by
  obtain ⟨ao, c', h1, h2, h3, h4⟩ := h
  simp only [Value.slice.injEq] at h1
  obtain ⟨rfl, rfl, rfl⟩ := h1
  refine ⟨_, c, by rw [List.length_take, Nat.min_eq_left hk], by rw [List.length_take]; omega, h3, ?_⟩
  rcases h4 with rfl | ⟨b', off', h5, h6, h7, h8⟩
  · exact .inl (by simp)
  · refine .inr ⟨b', off', h5, h6, h7, fun j hj => ?_⟩
    rw [List.length_take] at hj
    rw [List.getElem_take]; exact h8 j (by omega)
theorem TS.drop {w : World} {g n : Nat} {b off len c : Nat} {l : List Tx} (h : TS w g n (.slice (some ⟨b, off, none⟩) len c) l) (k : Nat) (hk : k ≤ l.length) : TS w g n (.slice (some ⟨b, off + k, none⟩) (len - k) (c - k)) (l.drop k) := by
  obtain ⟨ao, c', h1, h2, h3, h4⟩ := h
  simp only [Value.slice.injEq] at h1
  obtain ⟨rfl, rfl, rfl⟩ := h1
  refine ⟨_, c - k, by rw [List.length_drop], by rw [List.length_drop]; omega, by omega, ?_⟩
  rcases h4 with rfl | ⟨b', off', h5, h6, h7, h8⟩
  · exact .inl (by simp)
  · simp only [Option.some.injEq, Addr.mk.injEq, and_true] at h5
    obtain ⟨rfl, rfl⟩ := h5
    refine .inr ⟨b, off + k, rfl, h6, h7, fun j hj => ?_⟩
    rw [List.length_drop] at hj
    rw [List.getElem_drop, Nat.add_assoc]; exact h8 (k + j) (by omega)
theorem TS.dropIf {w : World} {g n : Nat} {b off len c : Nat} {l : List Tx} (h : TS w g n (.slice (some ⟨b, off, none⟩) len c) l) (k : Nat) (hk : k ≤ l.length) : TS w g n (.slice (if c = k then some ⟨b, off, none⟩ else some ⟨b, off + k, none⟩) (len - k) (c - k)) (l.drop k) := by
  have h2 := h.drop k hk
  by_cases e : c = k
  · rw [if_pos e]
    obtain ⟨ao, c', h1, h3, h4, h5⟩ := h
    simp only [Value.slice.injEq] at h1
    obtain ⟨rfl, rfl, rfl⟩ := h1
    exact ⟨_, c - k, by rw [List.length_drop], by rw [List.length_drop]; omega, by omega, .inl (by apply List.length_eq_zero_iff.1; rw [List.length_drop]; omega)⟩
  · rw [if_neg e]; exact h2
theorem tx_byte (p t : Tx) (h : 0 < t.length) (i : Nat) (hi : i = p.length) : ∀ hh : i < (ByteArray.mk (p ++ t).toArray).size, (ByteArray.mk (p ++ t).toArray)[i]'hh = t.headD 0 := by
  intro hh
  subst hi
  show (p ++ t).toArray[p.length]'(by simp; exact h) = _
  rw [List.getElem_toArray, List.getElem_append_right (Nat.le_refl _)]
  cases t with
  | nil => simp at h
  | cons b t => simp
/-- A run of texts that begin alike: what is left of each. -/
def tailR (Er : En) (cn : Nat) : En := (Er.take cn).map fun e => (e.1.tail, e.2)
theorem head_tail {t : Tx} {b : UInt8} {m : Nat} (h : t.length = m + 1) (hb : t.headD 0 = b) : t = b :: t.tail := by
  cases t with
  | nil => simp at h
  | cons a t => simp at hb; simp [hb]
theorem take_mem_at {α : Type} {l : List α} {cn : Nat} {e : α} (h : e ∈ l.take cn) : ∃ j, ∃ hj : j < l.length, j < cn ∧ l[j] = e := by
  obtain ⟨j, hj, rfl⟩ := List.getElem_of_mem h
  rw [List.length_take] at hj
  exact ⟨j, by omega, by omega, by rw [List.getElem_take]⟩
theorem run_parts (p : Tx) (b0 : UInt8) (Er : En) (cn m : Nat) (hlen : ∀ e ∈ Er, e.1.length = m + 1) (hall : ∀ j (hj : j < Er.length), j < cn → Er[j].1.headD 0 = b0) :
    (Er.map fun e => p ++ e.1).take cn = (tailR Er cn).map fun e => (p ++ [b0]) ++ e.1 := by
  unfold tailR
  rw [List.map_map, ← List.map_take]
  apply List.map_congr_left
  intro e he
  obtain ⟨j, hj, hjc, rfl⟩ := take_mem_at he
  show p ++ Er[j].1 = p ++ [b0] ++ Er[j].1.tail
  rw [List.append_assoc, List.singleton_append, ← head_tail (hlen _ (List.getElem_mem hj)) (hall j hj hjc)]
theorem tailR_each {f : Tx → Option Nat} (p : Tx) (b0 : UInt8) (Er : En) (cn m : Nat) (h : ∀ e ∈ Er, e.1.length = m + 1 ∧ f (p ++ e.1) = some e.2 ∧ e.2 < 20000) (hall : ∀ j (hj : j < Er.length), j < cn → Er[j].1.headD 0 = b0) :
    ∀ e ∈ tailR Er cn, e.1.length = m ∧ f ((p ++ [b0]) ++ e.1) = some e.2 ∧ e.2 < 20000 := by
  intro e he
  obtain ⟨e', he', rfl⟩ := List.mem_map.1 he
  obtain ⟨j, hj, hjc, rfl⟩ := take_mem_at he'
  obtain ⟨h1, h2, h3⟩ := h _ (List.getElem_mem hj)
  have h4 := head_tail h1 (hall j hj hjc)
  refine ⟨by simp; omega, ?_, h3⟩
  show f (p ++ [b0] ++ Er[j].1.tail) = some Er[j].2
  rw [List.append_assoc, List.singleton_append, ← h4]; exact h2
theorem run_grp (b0 : UInt8) (Er : En) (cn m : Nat) (hcn : 1 ≤ cn) (hle : cn ≤ Er.length) (hall : ∀ j (hj : j < Er.length), j < cn → Er[j].1.headD 0 = b0) (hS : ∀ e, (Er.drop cn).head? = some e → e.1.headD 0 ≠ b0) :
    (grp (hdE Er)).map (fun q => (q.1, mkT m q.2)) = (b0, mkT m (tailR Er cn)) :: (grp (hdE (Er.drop cn))).map fun q => (q.1, mkT m q.2) := by
  have h := mk_run b0 (Er.take cn) (Er.drop cn) (by intro e; have := congrArg List.length e; rw [List.length_take, List.length_nil] at this; omega) (fun e he => by
    obtain ⟨j, hj, hjc, rfl⟩ := take_mem_at he
    exact hall j hj hjc) hS m
  rw [List.take_append_drop] at h
  exact h
/-- Does the run of texts that begin so go on? -/
def RunB (Er : En) (b0 : UInt8) (cn : Nat) (q : Bool) : Prop := (q = true → ∃ h : cn < Er.length, Er[cn].1.headD 0 = b0) ∧ (q = false → ∀ e, (Er.drop cn).head? = some e → e.1.headD 0 ≠ b0)
/-- What stands between two rounds of node. -/
structure NInv (w wr : World) (n g : Nat) (K : Int) (mv : Value) (m deep : Nat) (f : Tx → Option Nat) (p : Tx) (X : List Cn) (ks dn : List (UInt8 × Tr m)) (Er : En) (vr : Value) (Xr : List Cn) : Prop where
  rest : dn ++ (grp (hdE Er)).map (fun q => (q.1, mkT m q.2)) = ks
  each : ∀ e ∈ Er, e.1.length = m + 1 ∧ f (p ++ e.1) = some e.2 ∧ e.2 < 20000
  st : MSt wr n g K mv vr Xr
  nds : ndsOf Xr = ndsOf X ++ ⟨-1, tokL dn, starts (tsize m) (X.length + 1) dn⟩ :: flats (flat m) (tsize m) (X.length + 1) dn
  kb : KB n g w wr
/-- One round of node, as a whole. -/
theorem NInv.next {w wr w9 : World} {n g : Nat} {K : Int} {mv : Value} {m deep : Nat} {f : Tx → Option Nat} {p : Tx} {X : List Cn} {ks dn : List (UInt8 × Tr m)} {Er : En} {vr v9 : Value} {Xr X2 : List Cn}
    (h : NInv w wr n g K mv m deep f p X ks dn Er vr Xr) (b0 : UInt8) (cn : Nat) (hcn : 1 ≤ cn) (hle : cn ≤ Er.length) (hall : ∀ j (hj : j < Er.length), j < cn → Er[j].1.headD 0 = b0) (hS : ∀ e, (Er.drop cn).head? = some e → e.1.headD 0 ≠ b0)
    (h2 : ndsOf X2 = ndsOf Xr ++ flat m Xr.length (mkT m (tailR Er cn))) (x : Cn) (hx : X2[X.length]? = some x) (hk : KB n g wr w9) (a b : Value) (t : Int) (ht : t = (b0.toNat : Int)) (k : Int) (hkk : k = ((Xr.length : Nat) : Int))
    (h9 : MSt w9 n g K mv v9 ((X2.set X.length ⟨x.leaf, a, x.kv, x.toks ++ [t], x.kids⟩).set X.length ⟨x.leaf, a, b, x.toks ++ [t], x.kids ++ [k]⟩)) :
    NInv w w9 n g K mv m deep f p X ks (dn ++ [(b0, mkT m (tailR Er cn))]) (Er.drop cn) v9 ((X2.set X.length ⟨x.leaf, a, x.kv, x.toks ++ [t], x.kids⟩).set X.length ⟨x.leaf, a, b, x.toks ++ [t], x.kids ++ [k]⟩) := by
  have hlen := h.nds
  have h3 : ndsOf X2 = ndsOf X ++ ⟨-1, tokL dn, starts (tsize m) (X.length + 1) dn⟩ :: (flats (flat m) (tsize m) (X.length + 1) dn ++ flat m Xr.length (mkT m (tailR Er cn))) := by
    rw [h2, h.nds, List.append_assoc]; rfl
  have hXl : Xr.length = X.length + 1 + sizes (tsize m) dn := by
    have h1 := congrArg List.length h.nds
    rw [ndsOf_len, List.length_append, ndsOf_len, List.length_cons, flats_len _ _ (flatT_len m)] at h1
    omega
  obtain ⟨x', hx', e1, e2, e3⟩ := nds_get h3
  rw [ndsOf_len] at hx'
  rw [hx] at hx'
  obtain rfl := Option.some.inj hx'
  refine ⟨?_, fun e he => h.each e (List.mem_of_mem_drop he), h9, ?_, h.kb.trans hk⟩
  · rw [List.append_assoc, List.singleton_append, ← run_grp b0 Er cn m hcn hle hall hS]; exact h.rest
  · rw [ndsOf_set, ndsOf_set, h3, ← ndsOf_len X, set_mid, set_mid, tokL_snoc, starts_snoc, flats_snoc, ndsOf_len, ← hXl, ht, hkk, e1, e2, e3]
theorem NInv.len {w wr n g K mv m deep f p X ks dn Er vr Xr} (h : NInv w wr n g K mv m deep f p X ks dn Er vr Xr) : Xr.length = X.length + 1 + sizes (tsize m) dn := by
  have h1 := congrArg List.length h.nds
  rw [ndsOf_len, List.length_append, ndsOf_len, List.length_cons, flats_len _ _ (flatT_len m)] at h1
  omega

set_option maxHeartbeats 4000000 in
set_option maxRecDepth 100000 in
theorem node_any (n g mb nm K : Nat) (f : Tx → Option Nat) (hK : K ≤ 4) (hK0 : 0 < K) (hmn : mb < n) (hmg : mb ≠ g) (n' : Nat) : ∀ (deep : Nat) (p : Tx) (E : En) (lv vo : Value) (X : List Cn) (w : World), deep + n' = K → p.length = deep →
    (∀ e ∈ E, e.1.length = n' ∧ f (p ++ e.1) = some e.2 ∧ e.2 < 20000) → (0 < deep → E ≠ []) → X.length + tsize n' (mkT n' E) ≤ 20000 → MSt w n g K (.map (some mb)) vo X → MapS w mb nm f → TS w g n lv (E.map fun e => p ++ e.1) → E.length ≤ 100000 →
    Calls Try.prog 55 #[.pointer (some ⟨g, 0, none⟩), lv, .int .i64 deep] w (NodePost n g K (.map (some mb)) w X (flat n' X.length (mkT n' E))) := by
  induction n' with
  | zero =>
    intro deep p E lv vo X w hd hp hE hne hl h hm ht hEl
    obtain rfl : deep = K := by omega
    cases E with
    | nil => exact absurd rfl (hne hK0)
    | cons e E =>
      obtain ⟨h1, h2, h3⟩ := hE e List.mem_cons_self
      have h4 : e.1 = [] := List.length_eq_zero_iff.1 h1
      rw [h4, List.append_nil] at h2
      rw [List.map_cons, h4, List.append_nil] at ht
      have hl' : X.length + 1 ≤ 20000 := hl
      exact node_leaf n g mb nm deep f p e.2 (E.map fun e => p ++ e.1) lv vo X w hK h2 h3 (by omega) hl' h hm hmn hmg ht (by simp at hEl ⊢; omega)
  | succ m ih =>
    intro deep p E lv vo X w hd hp hE hne0 hl h hm ht hEl
    obtain ⟨c0, c1, c2, c3, cf, hgl⟩ := h.cell
    obtain ⟨ao, c, rfl, hc1, hc2⟩ := owns_valP h.nds.out
    have f1 := cf 1
    have hl1 : X.length + 1 ≤ 20000 := by
      simp only [tsize] at hl; omega
    obtain ⟨ao1, d1, w2, happ, k1, k2, k3, hd1, hd2, hst, hkb⟩ := h.push (by omega)
    have hne : ((X.length : Int) == 20000) = false := by rw [beq_eq_false_iff_ne]; omega
    have hdk : ((deep : Int) == (K : Int)) = false := by rw [beq_eq_false_iff_ne]; omega
    have hd' : deep + 1 + m = K := by omega
    have Hp := Lib.hid hp
    have Hm := Lib.hid hm
    have Hsz : Hid (∀ dn : List (UInt8 × Tr m), ∀ q rest, dn ++ q :: rest = (show List (UInt8 × Tr m) from mkT (m + 1) E) → X.length + 1 + sizes (tsize m) dn + tsize m q.2 ≤ 20000 ∧ dn.length ≤ 100000) := Lib.hid fun dn q rest hks => by
      have h1 : tsize (m + 1) (mkT (m + 1) E) = 1 + sizes (tsize m) (dn ++ q :: rest) := by rw [hks]; rfl
      have h2 : sizes (tsize m) (dn ++ q :: rest) = sizes (tsize m) dn + (tsize m q.2 + sizes (tsize m) rest) := by simp [sizes]
      have h3 : (dn ++ q :: rest).length ≤ E.length := by
        rw [hks]
        have := grp_len (hdE E)
        rw [hdE_len] at this
        show ((grp (hdE E)).map fun q => (q.1, mkT m q.2)).length ≤ _
        rw [List.length_map]; exact this
      rw [List.length_append] at h3
      exact ⟨by omega, by omega⟩
    have Hinv : Hid (NInv w (w2.setCell ⟨g, 1, none⟩ (.slice ao1 (X.length + 1) d1)) n g K (.map (some mb)) m deep f p X (show List (UInt8 × Tr m) from mkT (m + 1) E) [] E (.slice ao1 (X.length + 1) d1) (X ++ [⟨-1, .slice none 0 0, .slice none 0 0, [], []⟩])) := Lib.hid ⟨rfl, hE, hst, by rw [ndsOf_snoc]; rfl, hkb⟩
    have Ht : Hid (TS (w2.setCell ⟨g, 1, none⟩ (.slice ao1 (X.length + 1) d1)) g n lv (E.map fun e => p ++ e.1)) := Lib.hid (ht.kb hkb)
    have HEl := Lib.hid hEl
    unfold maxLen at hc2 hd2
    have hX63 : X.length ≤ 9223372036854775807 := by omega
    have Hflat : Hid (∀ ks : List (UInt8 × Tr m), ks = (show List (UInt8 × Tr m) from mkT (m + 1) E) → flat (m + 1) X.length (mkT (m + 1) E) = ⟨-1, tokL ks, starts (tsize m) (X.length + 1) ks⟩ :: flats (flat m) (tsize m) (X.length + 1) ks) := Lib.hid fun ks hks => by rw [hks]; rfl
    clear hp hE hne0 hl h hm hst hkb ht hEl cf
    generalize hk : (show List (UInt8 × Tr m) from mkT (m + 1) E) = ks at *
    generalize flat (m + 1) X.length (mkT (m + 1) E) = out at *
    clear hk
    obtain ⟨ar, lc, rfl, hlc, hlc2, -⟩ := Ht.out
    go_enter Try.func55, Try.ntmps55
    go_upto_region 6 with fail
    generalize w2.setCell ⟨g, 1, none⟩ (.slice ao1 (X.length + 1) d1) = w3 at *
    clear happ k1 k2 k3 c0 c1 c2 c3 f1 hgl
    obtain ⟨c0, c1, c2, c3, cf, hgl⟩ := Hinv.out.st.cell
    go_wp2_with fail
    clear c0 c1 c2 c3 cf hgl
    go_loopw [1] (fun lv wr => ∃ (dn : List (UInt8 × Tr m)) (Er : En) (vr : Value) (Xr : List Cn), Hid (NInv w wr n g K (.map (some mb)) m deep f p X ks dn Er vr Xr) ∧ Hid (TS wr g n lv (Er.map fun e => p ++ e.1)) ∧ Hid (Er.length ≤ 100000)) (fun lv _ => slen lv)
    case atStart => exact ⟨[], E, _, _, Hinv, Ht, HEl⟩
    case round =>
      obtain ⟨dn, Er, vr, Xr, HI, HT, HL⟩ := hrel
      obtain ⟨c0, c1, c2, c3, cf, hgl⟩ := HI.out.st.cell
      obtain ⟨br, dr, rfl, hd3, hd4⟩ := owns_valP HI.out.st.nds.out
      obtain ⟨lr, lcr, rfl, hlc3, hlc4, hrow⟩ := HT.out
      rw [List.length_map] at hlc3 HT ⊢
      unfold maxLen at hd4 hlc4
      have hX64 : Xr.length ≤ 9223372036854775807 := by omega
      rcases Nat.eq_zero_or_pos Er.length with hz | hpos
      · obtain rfl := List.length_eq_zero_iff.1 hz
        have Hend : Hid (NodePost n g K (.map (some mb)) w X out (.returned (.int .i64 (X.length : Nat))) wr) := Lib.hid ⟨rfl, _, _, HI.out.st, by
          have h1 := HI.out.rest
          have h2 : dn = ks := by simpa [hdE, grp] using h1
          rw [HI.out.nds, h2, Hflat.out ks rfl], HI.out.kb⟩
        simp only [List.length_nil] at hlc3
        go_wp2_with fail
        go_ret
        exact Hend.out
      · rcases hrow with hrow | ⟨bl, ol, rfl, hbg, hbn, hcell⟩
        · rw [List.map_eq_nil_iff.1 hrow] at hpos; simp at hpos
        have hcell' : ∀ j (hj : j < Er.length), wr.cell? ⟨bl, ol + j, none⟩ = some (.string ⟨(p ++ Er[j].1).toArray⟩) := fun j hj => by
          have := hcell j (by rw [List.length_map]; exact hj)
          rw [List.getElem_map] at this; exact this
        have HC : Hid (∀ w', Below n wr w' ∨ KB n g wr w' → ∀ j (hj : j < Er.length), w'.cell? ⟨bl, ol + j, none⟩ = some (.string ⟨(p ++ Er[j].1).toArray⟩)) := Lib.hid fun w' hk j hj => by
          have hk' : KB n g wr w' := hk.elim (fun h => KB.of_below h) id
          exact (cell_eq (p := ⟨bl, ol + j, none⟩) (hk'.block bl hbn hbg)).trans (hcell' j hj)
        clear hcell hcell'
        have HX : Hid (∀ j (hj : j < Er.length), ∃ s : ByteArray, s = ⟨(p ++ Er[j].1).toArray⟩ ∧ (∀ hh : deep < s.size, s[deep]'hh = Er[j].1.headD 0) ∧ deep < s.size ∧ s.size ≤ 1000) := Lib.hid fun j hj => by
          have h1 := (HI.out.each _ (List.getElem_mem hj)).1
          have h2 := Hp.out
          refine ⟨_, rfl, tx_byte p _ (by omega) deep h2.symm, ?_, ?_⟩
          · rw [tx_size, List.length_append]; omega
          · rw [tx_size, List.length_append]; omega
        obtain ⟨s0, hs0, hb0, hsz0, hsm0⟩ := HX.out 0 hpos
        have hd0 : (0 : Int) ≤ (deep : Int) := by omega
        have hdz : (deep : Int) < (s0.size : Int) := by omega
        have hbb : (Er[0].1.headD 0).toNat ≤ 255 := by have := (Er[0].1.headD 0).toNat_lt; omega
        obtain ⟨b0, hb0e⟩ : ∃ b0, b0 = Er[0].1.headD 0 := ⟨_, rfl⟩
        rw [← hb0e] at hb0 hbb
        have Hs0 := Lib.hid hs0; have Hb0e := Lib.hid hb0e
        have hposI : (0 : Int) < (Er.length : Int) := by omega
        have hL := HL.out
        have hL63 : Er.length ≤ 9223372036854775807 := by omega
        clear hL hs0 hb0e
        obtain ⟨wo, hwo⟩ : ∃ wo : World, wo = wr := ⟨_, rfl⟩
        rw [← hwo] at HC HI HT c0 c1 c2 c3 cf hgl
        have HBz : Hid (Below wo.heap.size wo wr) := Lib.hid (by rw [hwo]; exact Below.refl _ _)
        clear hwo
        have c3' : wr.cell? ⟨g, 3, none⟩ = some (.bool false) := (HBz.out.cell (p := ⟨g, 3, none⟩) hgl).trans c3
        go_wp2_with fail
        clear c3'
        go_loopw [8] (fun nx wx => ∃ cn : Nat, 1 ≤ cn ∧ cn ≤ Er.length ∧ nx = .int .i64 cn ∧ Hid (Below wo.heap.size wo wx) ∧ Hid (∀ j (hj : j < Er.length), j < cn → Er[j].1.headD 0 = b0)) (fun nx _ => Er.length - (intOf nx).toNat)
        case atStart => exact ⟨1, Nat.le_refl _, hpos, rfl, HBz, Lib.hid fun j hj h => (by have e : j = 0 := (by omega); subst e; exact Hb0e.out.symm)⟩
        case round =>
          obtain ⟨cn, hcn1, hcn, rfl, HB, Hrun⟩ := hrel
          clear HBz
          have hnw : n ≤ wo.heap.size := HI.out.st.hi
          have z0 := HC.out wr (.inl (HB.out.mono hnw)) 0 hpos
          rw [← Hs0.out, Nat.add_zero] at z0
          go_upto_region 12 with fail
          go_cut [104] (fun s104 wx => ∃ q : Bool, s104 = .bool q ∧ Hid (RunB Er b0 cn q) ∧ Hid (Below wr.heap.size wr wx))
          case first =>
            have hd1' : (0 : Int) < (Er.length : Int) := hposI
            rcases Nat.lt_or_ge cn Er.length with hlt | hge
            · obtain ⟨s1, hs1, hb1, hsz1, hsm1⟩ := HX.out cn hlt
              have z1 := HC.out wr (.inl (HB.out.mono hnw)) cn hlt
              rw [← hs1] at z1
              have hdz1 : (deep : Int) < (s1.size : Int) := by omega
              have q1 : decide ((cn : Int) < (Er.length : Int)) = true := decide_eq_true (by omega)
              have q2 : decide (cn < Er.length) = true := decide_eq_true hlt
              have q0 : (0 : Int) ≤ (cn : Int) := by omega
              have q00 : (cn : Int) < (Er.length : Int) := by omega
              have hy1 : (Er[cn].1.headD 0).toNat ≤ 255 := by have := (Er[cn].1.headD 0).toNat_lt; omega
              obtain ⟨y1, hy1e⟩ : ∃ y1, y1 = Er[cn].1.headD 0 := ⟨_, rfl⟩
              rw [← hy1e] at hb1 hy1
              have Hy1 : Hid (∃ h : cn < Er.length, Er[cn].1.headD 0 = y1) := Lib.hid ⟨hlt, hy1e.symm⟩
              clear hs1 hy1e hlt hposI
              by_cases hyb : y1 = b0
              · subst hyb
                have HQ : Hid (RunB Er y1 cn true) := Lib.hid ⟨fun _ => Hy1.out, fun h => (by cases h)⟩
                clear Hsz Hflat HI HT HC HX Hrun Hs0 Hb0e Hy1 HL Hm Hinv Ht HEl c0 c1 c2 c3 cf ih HB
                refine wp_region_quiet_lit (by kernel_rfl) (by kernel_rfl) ?_
                repeat (first | go_big_quiet_step (fail) | quiet_step (fail))
                refine wpQuiet_nil ?_
                intro _ hw'
                obtain ⟨nq, hw''⟩ := hw'
                subst hw''
                go_wp2_with fail
                go_meet
                case rel => exact ⟨true, rfl, HQ, Lib.hid (below_drewsP wr nq)⟩
              · have q4 : ((y1.toNat : Int) == (b0.toNat : Int)) = false := by
                  rw [beq_eq_false_iff_ne]; intro e; exact hyb (UInt8.toNat_inj.1 (by omega))
                have q5 : (y1.toNat == b0.toNat) = false := by
                  rw [beq_eq_false_iff_ne]; intro e; exact hyb (UInt8.toNat_inj.1 (by omega))
                have HQ : Hid (RunB Er b0 cn false) := Lib.hid ⟨fun h => (by cases h), fun _ e he => (by
                  obtain ⟨h2, h3⟩ := Hy1.out
                  rw [List.drop_eq_getElem_cons h2, List.head?_cons, Option.some.injEq] at he
                  rw [← he, h3]; exact hyb)⟩
                clear hyb
                clear Hsz Hflat HI HT HC HX Hrun Hs0 Hb0e Hy1 HL Hm Hinv Ht HEl c0 c1 c2 c3 cf ih HB
                refine wp_region_quiet_lit (by kernel_rfl) (by kernel_rfl) ?_
                repeat (first | go_big_quiet_step (fail) | quiet_step (fail))
                refine wpQuiet_nil ?_
                intro _ hw'
                obtain ⟨nq, hw''⟩ := hw'
                subst hw''
                go_wp2_with fail
                go_meet
                case rel => exact ⟨false, rfl, HQ, Lib.hid (below_drewsP wr nq)⟩
            · obtain rfl : cn = Er.length := by omega
              have q1 : decide ((Er.length : Int) < (Er.length : Int)) = false := decide_eq_false (by omega)
              have HQ : Hid (RunB Er b0 Er.length false) := Lib.hid ⟨fun h => (by cases h), fun _ e he => (by rw [List.drop_length] at he; cases he)⟩
              clear hposI
              clear Hsz Hflat HI HT HC HX Hrun Hs0 Hb0e HL Hm Hinv Ht HEl c0 c1 c2 c3 cf ih HB
              refine wp_region_quiet_lit (by kernel_rfl) (by kernel_rfl) ?_
              repeat (first | go_big_quiet_step (fail) | quiet_step (fail))
              refine wpQuiet_nil ?_
              intro _ hw'
              obtain ⟨nq, hw''⟩ := hw'
              subst hw''
              go_wp2_with fail
              go_meet
              case rel => exact ⟨false, rfl, HQ, Lib.hid (below_drewsP wr nq)⟩
          case rest =>
            obtain ⟨q, rfl, HQ, HB2⟩ := hcut
            have HB3 := Lib.hid (HB.out.trans (HB2.out.mono HB.out.size))
            clear HB2 z0
            cases q
            · have Hstop := Lib.hid (HQ.out.2 rfl)
              clear HQ
              have Hcall : Hid (Calls Try.prog 55 #[.pointer (some ⟨g, 0, none⟩), .slice (some ⟨bl, ol, none⟩) cn lcr, .int .i64 ((deep : Int) + 1)] wc (NodePost n g K (.map (some mb)) wc Xr (flat m Xr.length (mkT m (tailR Er cn))))) := Lib.hid (by
                have hk : KB n g wo wc := KB.of_below (HB3.out.mono hnw)
                have h1 := ((HT.out.kb hk).take cn (by rw [List.length_map]; exact hcn) (by omega))
                rw [run_parts p b0 Er cn m (fun e he => (HI.out.each e he).1) Hrun.out] at h1
                have hgr := run_grp b0 Er cn m hcn1 hcn Hrun.out Hstop.out
                have h2 := Hsz.out dn _ _ ((congrArg (dn ++ ·) hgr.symm).trans HI.out.rest)
                have h3 := HI.out.len
                have h4 : (tailR Er cn).length = cn := by unfold tailR; rw [List.length_map, List.length_take]; omega
                exact ih (deep + 1) (p ++ [b0]) (tailR Er cn) _ _ Xr wc hd' (by rw [List.length_append, Hp.out]; rfl) (tailR_each p b0 Er cn m HI.out.each Hrun.out) (fun _ e => by rw [e] at h4; simp at h4; omega) (by rw [h3]; exact h2.1) (HI.out.st.keep HB3.out) (Hm.out.kb (HI.out.kb.trans hk) hmn hmg) h1 (by have := HL.out; omega))
              have hdn : Hid (dn.length ≤ 100000) := Lib.hid (by
                have hgr := run_grp b0 Er cn m hcn1 hcn Hrun.out Hstop.out
                exact (Hsz.out dn _ _ ((congrArg (dn ++ ·) hgr.symm).trans HI.out.rest)).2)
              have hcl : (cn : Int) ≤ (lcr : Int) := by omega
              have hcl2 : (cn : Int) ≤ (Er.length : Int) := by omega
              have hcn0 : (0 : Int) ≤ (cn : Int) := by omega
              have hll : (Er.length : Int) ≤ (lcr : Int) := by omega
              clear Hsz ih Hm
              go_upto_region 14 with fail
              go_wp2_with fail
              refine (Hcall.out).mono ?_
              rintro e w5 ⟨rfl, v5, X2, hst5, hn5, hk5⟩
              have Hk5 : Hid (KB n g wo w5) := Lib.hid ((KB.of_below (HB3.out.mono hnw)).trans hk5)
              have Hn5 := Lib.hid hn5
              clear hn5 hk5 Hcall
              have hn2 : ndsOf X2 = ndsOf X ++ ⟨-1, tokL dn, starts (tsize m) (X.length + 1) dn⟩ :: (flats (flat m) (tsize m) (X.length + 1) dn ++ flat m Xr.length (mkT m (tailR Er cn))) := by
                rw [Hn5.out, HI.out.nds, List.append_assoc]; rfl
              obtain ⟨x, hx, hx1, hx2, hx3⟩ := nds_get hn2
              rw [ndsOf_len] at hx
              obtain ⟨hiX, hxe⟩ := List.getElem?_eq_some_iff.1 hx
              have htl : x.toks.length ≤ 100000 := by rw [hx2, tokL_len]; exact hdn.out
              have hkl : x.kids.length ≤ 100000 := by rw [hx3, starts_len]; exact hdn.out
              obtain ⟨a5, d5, rfl, hd5, hd6⟩ := owns_valP hst5.nds.out
              obtain ⟨b, rfl, hbB, hbl, y0, y1, y2, yf⟩ := hst5.nds.at X.length hiX
              rw [hxe] at y0 y1 y2
              clear c0 c1 c2 c3 cf hgl
              obtain ⟨c0, c1, c2, c3, cf, hgl⟩ := hst5.cell
              obtain ⟨a6, d6, w6, happ1, u1, u2, G1⟩ := hst5.pushTok X.length x hx (b0.toNat : Int) (by omega)
              have z5 := HC.out w5 (.inr Hk5.out) 0 hpos
              rw [← Hs0.out, Nat.add_zero] at z5
              have ca : (w5.alloc (.cells #[.int .i64 (b0.toNat : Int)] 3)).cell? ⟨g, 1, none⟩ = some (.slice (some ⟨b, 0, none⟩) X2.length d5) := (((Below.refl w5.heap.size w5).alloc (Nat.le_refl _) _).cell (p := ⟨g, 1, none⟩) hgl).trans c1
              have ya : (w5.alloc (.cells #[.int .i64 (b0.toNat : Int)] 3)).cell? ⟨b, X.length * 3 + 1, none⟩ = some x.tv := (((Below.refl w5.heap.size w5).alloc (Nat.le_refl _) _).cell (p := ⟨b, X.length * 3 + 1, none⟩) hbl).trans y1
              have cb := G1.c1
              have yb := G1.d1
              have fb := G1.f1
              have HG1 := Lib.hid G1
              have hw2 : wrap64 (b0.toNat : Int) = (b0.toNat : Int) := by unfold wrap64; omega
              have hi1 : (X.length : Int) < (X2.length : Int) := by omega
              have hi0 : (0 : Int) ≤ (X.length : Int) := by omega
              have Hx := Lib.hid hx; have Htl := Lib.hid htl; have Hkl := Lib.hid hkl; have Hst5 := Lib.hid hst5
              have Hx123 := Lib.hid hn2
              unfold maxLen at hd6 u2
              have hX2 : X2.length ≤ 9223372036854775807 := by omega
              clear G1 hst5 hx hx1 hx2 hx3 hxe htl hkl c0 c2 c3 cf y0 y2 yf hn2
              have Hnum := Lib.hid (And.intro hcn1 (And.intro hcn (And.intro hlc3 hlc4)))
              go_upto_region 15 with fail
              clear hd hd' hne hdk hl1 hd1 hd2 hlc hlc2 hlc3 hlc4 hcn hcn1 hcl hcl2 hcn0 hll hX63 hX64 hc1 hc2 hd3 hd4 hL63 hsm0 hK hK0 hmn hmg hbg hbn hnw hbB hd5 hd6 hX2 u1 u2
              go_big_region
              generalize hw7 : w6.setCell ⟨b, X.length * 3 + 1, none⟩ (.slice a6 (x.toks.length + 1) d6) = w7 at *
              have hst7 := HG1.out.st
              have Hk7 := Lib.hid (Hk5.out.trans HG1.out.kb)
              clear happ1 hw7 c1 y1 ca ya cb yb fb hgl hbl z5
              have hx3 : (X2.set X.length ⟨x.leaf, .slice a6 (x.toks.length + 1) d6, x.kv, x.toks ++ [(b0.toNat : Int)], x.kids⟩)[X.length]? = some ⟨x.leaf, .slice a6 (x.toks.length + 1) d6, x.kv, x.toks ++ [(b0.toNat : Int)], x.kids⟩ := List.getElem?_set_self hiX
              obtain ⟨X3, hX3⟩ : ∃ X3, X3 = X2.set X.length ⟨x.leaf, .slice a6 (x.toks.length + 1) d6, x.kv, x.toks ++ [(b0.toNat : Int)], x.kids⟩ := ⟨_, rfl⟩
              rw [← hX3] at hst7 hx3
              have hl3 : X3.length = X2.length := by rw [hX3, List.length_set]
              have HX3 := Lib.hid hX3
              clear hX3 HG1
              rw [← hl3] at hst7
              have hi3 : (X.length : Int) < (X3.length : Int) := by omega
              have hiX3 : X.length < X3.length := by omega
              obtain ⟨b', hb', hbB, hbl, y0, y1, y2, yf⟩ := hst7.nds.at X.length hiX3
              have hxe3 : X3[X.length]'hiX3 = ⟨x.leaf, .slice a6 (x.toks.length + 1) d6, x.kv, x.toks ++ [(b0.toNat : Int)], x.kids⟩ := by
                have := hx3; rw [List.getElem?_eq_getElem hiX3] at this; exact Option.some.inj this
              simp only [Option.some.injEq, Addr.mk.injEq, and_true] at hb'
              subst hb'
              rw [hxe3] at y2
              obtain ⟨c0, c1, c2, c3, cf, hgl⟩ := hst7.cell
              obtain ⟨a8, d8, w8, happ2, u1, u2, G2⟩ := hst7.pushKid X.length _ hx3 ((Xr.length : Nat) : Int) (by have := Hkl.out; show x.kids.length + 1 ≤ _; omega)
              simp only at happ2 y2
              have ca : (w7.alloc (.cells #[.int .i64 ((Xr.length : Nat) : Int)] 3)).cell? ⟨g, 1, none⟩ = some (.slice (some ⟨b, 0, none⟩) X3.length d5) := (((Below.refl w7.heap.size w7).alloc (Nat.le_refl _) _).cell (p := ⟨g, 1, none⟩) hgl).trans c1
              have ya : (w7.alloc (.cells #[.int .i64 ((Xr.length : Nat) : Int)] 3)).cell? ⟨b, X.length * 3 + 2, none⟩ = some x.kv := (((Below.refl w7.heap.size w7).alloc (Nat.le_refl _) _).cell (p := ⟨b, X.length * 3 + 2, none⟩) hbl).trans y2
              have cb := G2.c1
              have yb := G2.d1
              have fb := G2.f1
              have HG2 := Lib.hid G2
              simp only at yb
              clear G2 hst7 hx3 hxe3 c0 c2 c3 cf y0 y1 yf hi1 hl3 hbB u1 u2 hiX
              go_upto_region 16 with fail
              go_big_region
              clear happ2 c1 y2 ca ya cb yb fb hgl hbl hi3 hi0 hw2 hiX3 hb0 hbb hsz0 hdz hd0
              have HKz := Lib.hid (Hk7.out.trans HG2.out.kb)
              have hTS := (HT.out.kb HKz.out).dropIf cn (by rw [List.length_map]; exact Hnum.out.2.1)
              have hNI := HI.out.next b0 cn Hnum.out.1 Hnum.out.2.1 Hrun.out Hstop.out Hn5.out x Hx.out HKz.out (.slice a6 (x.toks.length + 1) d6) (.slice a8 (x.kids.length + 1) d8) _ rfl _ rfl (by have h := HG2.out.st; rw [HX3.out] at h; exact h)
              have HTS := Lib.hid hTS; have HNI := Lib.hid hNI
              obtain ⟨hcn1, hcn, hlc3, hlc4⟩ := Hnum.out
              have hcl : (cn : Int) ≤ (lcr : Int) := by omega
              have hcl2 : (cn : Int) ≤ (Er.length : Int) := by omega
              have hcn0 : (0 : Int) ≤ (cn : Int) := by omega
              have hll : (Er.length : Int) ≤ (lcr : Int) := by omega
              clear hTS hNI HG2 Hnum HKz
              go_wp2_with fail
              go_roundw
              case rel => exact ⟨_, _, _, _, HNI, Lib.hid (by have h := HTS.out; rw [← List.map_drop] at h; exact h), Lib.hid (by have := HL.out; rw [List.length_drop]; omega)⟩
              case measure => simp [slen]; omega
            · have HQ2 := Lib.hid (HQ.out.1 rfl)
              have hlt : cn + 1 ≤ Er.length := HQ2.out.1
              have Hrun2 : Hid (∀ j (hj : j < Er.length), j < cn + 1 → Er[j].1.headD 0 = b0) := Lib.hid fun j hj hjc => by
                rcases Nat.lt_or_ge j cn with h1 | h1
                · exact Hrun.out j hj h1
                · obtain rfl : j = cn := by omega
                  exact HQ2.out.2
              clear HQ
              go_wp2_with fail
              go_roundw
              case rel => exact ⟨cn + 1, by omega, hlt, by go_num, HB3, Hrun2⟩
              case measure => simp [intOf]; omega
end Go.Proofs.Ytbmaappambmhoaa
