/-
  (trie.Trie).below: at a leaf's depth.
-/
import Derived.Test.YtbmaappambmhoaaTriF
import Derived.Deep.RegionWith
import Derived.Deep.QuietTactic
import Derived.BigQuiet
namespace Go.Proofs.Ytbmaappambmhoaa
open Go.RowKit PK
set_option linter.unusedVariables false

def leafB (x : Nd) : Bool := decide (0 ≤ x.leaf) && decide (x.leaf < 20000) && ((x.toks.length : Int) == 0) && ((x.kids.length : Int) == 0)
theorem below_drews2 {w0 w : World} (h : Below w0.heap.size w0 w) (n : Nat) : Below w0.heap.size w0 (w.drewN n) := ⟨h.os, h.tape, h.output, h.size, h.block⟩
set_option maxHeartbeats 2000000 in
set_option maxRecDepth 100000 in
theorem below_leaf (v : Value) (N : List Nd) (K : Int) (m B : Nat) (w : World) (hB : B ≤ w.heap.size) (r : NR w B v N) (hl : N.length ≤ 20000) (hm : m < N.length) :
    Calls Try.prog 56 #[.agg #[.int .i64 K, v], .int .i64 m, .int .i64 K] w fun e w' => e = .returned (.tuple #[.int .i64 (m + 1), .bool (leafB N[m])]) ∧ Below w.heap.size w w' := by
  obtain ⟨ao, c, rfl, hc1, hc2⟩ := r.val
  unfold maxLen at hc2
  obtain ⟨b, off, a1, c1, a2, c2, rfl, hb, e0, e1, e2, r1, r2, k1, k2, k3, k4⟩ := r.get m hm
  have hmi : (m : Int) < (N.length : Int) := by omega
  have hm0 : (0 : Int) ≤ (m : Int) := by omega
  have hn : ¬ (m : Int) < 0 := by omega
  have hl63 : N.length ≤ 9223372036854775807 := by omega
  unfold maxLen at k2 k4
  have hbw : b < w.heap.size := by omega
  clear r r1 r2 hl
  have hq : ∃ q, q = leafB N[m] := ⟨_, rfl⟩
  obtain ⟨q, hq⟩ := hq
  rw [← hq]
  unfold leafB at hq
  generalize N[m] = x at *
  have BB := Lib.hid (((Below.refl w.heap.size w).alloc (Nat.le_refl _) (.cells #[.int .i64 K, .slice (some ⟨b, off, none⟩) N.length c] 41)).alloc (by simp) (.cells #[.int .i64 x.leaf, .slice a1 x.toks.length c1, .slice a2 x.kids.length c2] 59))
  have Hq := Lib.hid hq; clear hq
  go_enter Try.func56, Try.ntmps56
  go_upto_region 5 with fail
  have hq := Hq.out; clear Hq
  have hlen1 : x.toks.length ≤ 9223372036854775807 := by omega
  have hlen2 : x.kids.length ≤ 9223372036854775807 := by omega
  cases p1 : decide (0 ≤ x.leaf) <;> cases p2 : decide (x.leaf < 20000) <;> cases p3 : ((x.toks.length : Int) == 0) <;> cases p4 : ((x.kids.length : Int) == 0)
  all_goals
    rw [p1, p2, p3, p4] at hq
    subst hq
    refine wp_region_quiet_lit (by kernel_rfl) (by kernel_rfl) ?_
    repeat (first | go_big_quiet_step (fail) | quiet_step (fail))
    refine wpQuiet_nil ?_
    intro _ hw'
    obtain ⟨nq, hw''⟩ := hw'
    subst hw''
    go_wp2_with fail
    go_ret2
    exact ⟨rfl, below_drews2 BB.out nq⟩
end Go.Proofs.Ytbmaappambmhoaa
