/-
  (trie.Trie).Sets and Heads.
-/
import Derived.Test.YtbmaappambmhoaaTrjC
namespace Go.Proofs.Ytbmaappambmhoaa
open Go.RowKit PK
set_option linter.unusedVariables false
set_option linter.unusedSimpArgs false

theorem rr_of {w : World} {n : Nat} {vo : Value} {X : List (Value × List Tx)} (h : Srs w n vo X) : RR w w.heap.size vo (X.map (·.2)) := by
  refine ⟨X.map (·.1), by rw [List.length_map]; exact Row.of_owns h.out, fun i hi => ?_⟩
  have hi' : i < X.length := by rw [List.length_map] at hi; exact hi
  refine ⟨X[i].1, by rw [List.getElem?_map, List.getElem?_eq_getElem hi']; rfl, ?_⟩
  rw [List.getElem_map]
  exact Row.of_owns (h.each _ (List.getElem_mem hi'))
def SetsPost (w : World) (C : List (List Tx)) (e : Ending) (w' : World) : Prop := ∃ v', e = .returned v' ∧ RR w' w'.heap.size v' C ∧ Below w.heap.size w w'
theorem run_store_func {P : Program} {w : World} {a : Addr} {m : Mode} (fn : Fn) (x y : Array Value) : (store a (.func fn x y) m).run P w = stored P w a (.func fn x y) m := run_store P w a _ m rfl
attribute [local go_sem] run_store_func
theorem zeroMay : mayB18 0 [] = false := by kernel_rfl
theorem nr_nil (w : World) (B : Nat) : NR w B (.slice none 0 0) [] := ⟨[], ⟨rfl, Nat.zero_le _, .inl ⟨rfl, rfl⟩⟩, rfl, (fun c hc => by cases hc), (fun i hi => by simp at hi)⟩
theorem rr_nil (w : World) (B : Nat) : RR w B (.slice none 0 0) [] := ⟨[], ⟨rfl, Nat.zero_le _, .inl ⟨rfl, rfl⟩⟩, fun i hi => by simp at hi⟩
set_option maxHeartbeats 2000000 in
set_option maxRecDepth 100000 in
theorem sets_zero (w : World) : Calls Try.prog 35 #[.agg #[.int .i64 0, .slice none 0 0]] w (SetsPost w []) := by
  have hb := (Below.refl w.heap.size w).alloc (Nat.le_refl _) (.cells #[.int .i64 0, .slice none 0 0] 41)
  have hm := triMay_any (.slice none 0 0) [] 0 w.heap.size (w.alloc (.cells #[.int .i64 0, .slice none 0 0] 41)) hb.size (nr_nil _ _) (by decide)
  rw [zeroMay] at hm
  have Hm := Lib.hid hm; have Hb := Lib.hid hb
  clear hm hb
  go_enter Try.func35, Try.ntmps35
  go_wp2_with fail
  refine (Hm.out).mono ?_
  rintro e w2 ⟨rfl, b2⟩
  have Hb2 := Lib.hid (Hb.out.trans (b2.mono Hb.out.size))
  clear b2
  go_wp2_with fail
  go_ret
  exact ⟨_, rfl, rr_nil _ _, Hb2.out⟩
set_option maxHeartbeats 2000000 in
set_option maxRecDepth 100000 in
theorem sets_any (K : Nat) (T : Tr K) (v : Value) (B : Nat) (w : World) (hB : B ≤ w.heap.size) (h1 : 1 ≤ K) (h4 : K ≤ 4) (hu : Up K T) (hsz : tsize K T ≤ 20000) (hE : (ents K [] T).length ≤ 100000) (r : NR w B v (flat K 0 T)) :
    Calls Try.prog 35 #[.agg #[.int .i64 K, v]] w (SetsPost w (addAll [] (ents K [] T))) := by
  obtain ⟨ao, c, rfl, hc1, hc2⟩ := r.val
  have hfl := flatT_len K 0 T
  have hmay := may_flat K T h1 h4 hu hsz
  have hsub := sub_all K T
  obtain ⟨N, hN⟩ : ∃ N, N = flat K 0 T := ⟨_, rfl⟩
  rw [← hN] at r hfl hmay hsub hc1 ⊢
  clear hN
  have hb := (Below.refl w.heap.size w).alloc (Nat.le_refl _) (.cells #[.int .i64 (K : Int), .slice ao N.length c] 41)
  have hm := triMay_any (.slice ao N.length c) N (K : Int) B (w.alloc (.cells #[.int .i64 (K : Int), .slice ao N.length c] 41)) (Nat.le_trans hB hb.size) (r.below (hb.mono hB)) (by omega)
  rw [hmay] at hm
  have hs1 : (w.alloc (.cells #[.int .i64 (K : Int), .slice ao N.length c] 41)).heap.size = w.heap.size + 1 := by simp
  have g0 : (w.alloc (.cells #[.int .i64 (K : Int), .slice ao N.length c] 41)).cell? ⟨w.heap.size, 0, none⟩ = some (.int .i64 (K : Int)) := cell_new w _ _ 0 _ rfl
  have g1 : (w.alloc (.cells #[.int .i64 (K : Int), .slice ao N.length c] 41)).cell? ⟨w.heap.size, 1, none⟩ = some (.slice ao N.length c) := cell_new w _ _ 1 _ rfl
  have Hm := Lib.hid hm; have Hb := Lib.hid hb; have Hr := Lib.hid r; have Hs1 := Lib.hid hs1; have Hg0 := Lib.hid g0; have Hg1 := Lib.hid g1
  have Hall := Lib.hid (And.intro hfl (And.intro hsub (And.intro hu (And.intro hE (And.intro hsz (And.intro h4 hB))))))
  clear hm hb r hs1 hfl hmay hsub hu hsz hE h1 h4 hc1 hc2 hB
  go_enter Try.func35, Try.ntmps35
  go_wp2_with fail
  clear g0 g1
  generalize w.alloc (.cells #[.int .i64 (K : Int), .slice ao N.length c] 41) = w1 at *
  refine (Hm.out).mono ?_
  rintro e w2 ⟨rfl, b2⟩
  have Hb2 := Lib.hid b2
  clear b2 Hm
  have hsz2 : w.heap.size + 1 ≤ w2.heap.size := by have h1 := Hs1.out; have h2 := Hb2.out.size; omega
  obtain ⟨hfl, hsub, hu, hE, hsz, h4, hB⟩ := Hall.out
  have s3 : (w2.alloc (.cells #[.slice none 0 0] 37)).heap.size = w2.heap.size + 1 := by simp
  have b3 : Below w2.heap.size w2 (w2.alloc (.cells #[.slice none 0 0] 37)) := (Below.refl _ w2).alloc (Nat.le_refl _) _
  have hp3 : (w2.alloc (.cells #[.slice none 0 0] 37)).heap[w2.heap.size]? = some (.cells #[.slice none 0 0] 37 (0, 0)) := heap_alloc_new w2 _
  have b4 : ∀ (T : TypeId) (fv : Value), Below (w2.heap.size + 1) (w2.alloc (.cells #[.slice none 0 0] 37)) ((w2.alloc (.cells #[.slice none 0 0] 37)).alloc (.cells #[fv] T)) := fun T fv => (Below.refl _ _).alloc (by rw [s3]; exact Nat.le_refl _) _
  go_upto_region 6 with fail
  generalize hw5 : (w2.alloc (.cells #[.slice none 0 0] 37)).alloc (.cells #[.func (.func 58) #[] #[.pointer (some ⟨w.heap.size, 0, none⟩), .pointer (some ⟨w2.heap.size, 0, none⟩), .pointer (some ⟨w2.heap.size + 1, 0, none⟩)]] _) = w5 at *
  have b5 : Below (w2.heap.size + 1) (w2.alloc (.cells #[.slice none 0 0] 37)) w5 := by rw [← hw5]; exact b4 _ _
  have s5 : w5.heap.size = w2.heap.size + 2 := by rw [← hw5]; simp
  have f5 : w5.cell? ⟨w2.heap.size + 1, 0, none⟩ = some (.func (.func 58) #[] #[.pointer (some ⟨w.heap.size, 0, none⟩), .pointer (some ⟨w2.heap.size, 0, none⟩), .pointer (some ⟨w2.heap.size + 1, 0, none⟩)]) := by
    have h := fun (T : TypeId) (fv : Value) => cell_new (w2.alloc (.cells #[.slice none 0 0] 37)) #[fv] T 0 fv rfl
    rw [← hw5]
    simp only [s3] at h
    exact h _ _
  have b25 : Below w2.heap.size w2 w5 := b3.trans (b5.mono (by omega))
  have bw5 : Below w.heap.size w w5 := (Hb.out.trans (Hb2.out.mono Hb.out.size)).trans (b25.mono (by omega))
  have b15 : Below w1.heap.size w1 w5 := Hb2.out.trans (b25.mono Hb2.out.size)
  have hbox : SBox w5 (w2.heap.size + 2) w2.heap.size (.slice none 0 0) [] := ⟨by omega, by omega, (b5.block _ (by omega)).trans hp3, ⟨World.ownsRow_nil _ _ _ _, (fun x hx => by cases hx), List.pairwise_singleton _ _⟩⟩
  have henv : GEnv w5 B (w2.heap.size + 2) w.heap.size w2.heap.size (w2.heap.size + 1) (K : Int) (.slice ao N.length c) N :=
    ⟨Hr.out.below (bw5.mono hB), by omega, by omega, (b15.cell (p := ⟨w.heap.size, 0, none⟩) (by have := Hs1.out; show w.heap.size < _; omega)).trans Hg0.out, (b15.cell (p := ⟨w.heap.size, 1, none⟩) (by have := Hs1.out; show w.heap.size < _; omega)).trans Hg1.out, f5, ⟨by omega, by omega⟩, ⟨by omega, by omega⟩⟩
  have hcall := gather_any B (w2.heap.size + 2) w.heap.size w2.heap.size (w2.heap.size + 1) (K : Int) (.slice ao N.length c) N (by omega) K 0 [] T w5 (.slice none 0 0) [] 0 hsub hu henv hbox (Nat.zero_le _) (fun y hy => by cases hy) (by omega) (by simpa using h4)
  have Hcall : Hid (Calls Try.prog 58 #[.int .i64 0, .string ⟨#[]⟩, .pointer (some ⟨w.heap.size, 0, none⟩), .pointer (some ⟨w2.heap.size, 0, none⟩), .pointer (some ⟨w2.heap.size + 1, 0, none⟩)] w5 (GPost (w2.heap.size + 2) w2.heap.size w5 (.slice none 0 0) [] (ents K [] T))) := Lib.hid hcall
  have Hbox := Lib.hid hbox; have Hbw5 := Lib.hid bw5; have Hsz2 := Lib.hid hsz2
  have eg := enters_of Try.func58 (by kernel_rfl) rfl
  clear hcall henv hbox b15 bw5 b25 b5 b4 b3 hp3 s3 hw5 s5 hfl hsub hu hE hsz h4 hB hsz2
  go_wp2_with (go_at_call 58; refine (Hcall.out).mono ?_; rintro e w6 ⟨rfl, v6, X6, hs6, hc6, hk6⟩; obtain ⟨c6, _, _⟩ := hs6.cell; obtain ⟨a6, d6, rfl, _, _⟩ := owns_valP hs6.rows.out; have HS6 := Lib.hid hs6; have HC6 := Lib.hid hc6; have HK6 := Lib.hid hk6; clear hs6 hc6 hk6)
  go_ret
  have hkb := HK6.out.kb Hbox.out.rows Hbox.out.hi
  have hr6 := rr_of HS6.out.rows
  rw [HC6.out] at hr6
  exact ⟨_, rfl, hr6, Hbw5.out.trans (hkb.below (by have := Hsz2.out; omega) (by have := Hsz2.out; omega))⟩
end Go.Proofs.Ytbmaappambmhoaa
