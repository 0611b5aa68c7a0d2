/-
  pack.met and joined: walked.
-/
import Derived.Test.YtimgnbacgdmiiaaKPackF
import Derived.Deep.RegionWith
namespace Go.Proofs.Ytimgnbacgdmiiaa
open Go.RowKit PK
set_option linter.unusedVariables false
attribute [local go_sem ↓] append_appM

theorem slen_slice (a : Option Addr) (n c : Nat) : slen (.slice a n c) = n := rfl
theorem pushT2 (X : World) (base n : Nat) (v : Value) (l : List Tx) (x : Tx) (hb : base ≤ X.heap.size) (hn : l.length = n) (hown : X.ownsRow base 9 1 v n (svt l)) (hm : n + 1 ≤ 1000000) (s : ByteArray) (hs : s = ⟨x.toArray⟩) :
    ∃ ao c w', Sem.run Try.prog (appM #[32, 32] 32 #[v, .slice (some ⟨X.heap.size, 0, none⟩) 1 1]) (X.alloc (.cells #[.string s] 9)).drew.drew = .ok (.slice ao (n + 1) c) w' ∧ w'.ownsRow base 9 1 (.slice ao (n + 1) c) (n + 1) (svt (l ++ [x])) ∧ Below base X w' ∧ n + 1 ≤ c ∧ c ≤ maxLen := by
  obtain ⟨ao, c, w', h1, h2, h3, h4, h5⟩ := pushT X.drew base n v l x hb hn hown.drew hm s hs
  exact ⟨ao, c, w', h1, h2, (Below.refl base X).drew.trans h3, h4, h5⟩
set_option maxHeartbeats 4000000 in
set_option maxRecDepth 100000 in
theorem joined_any (v1 v2 : Value) (a b : List Tx) (w : World) (r1 : Row w w.heap.size 1 v1 a.length (svt a)) (r2 : Row w w.heap.size 1 v2 b.length (svt b)) (hl : a.length ≤ 100000) (hl2 : b.length ≤ 100000) :
    Calls Try.prog 80 #[v1, v2] w (OwnT w (joinR a b)) := by
  obtain ⟨i0, hi, hz0, hz1, hz2⟩ := info_parts info_str
  obtain ⟨a1, c1, rfl, hc1, hc1'⟩ := r1.val
  obtain ⟨a2, c2, rfl, hc2, hc2'⟩ := r2.val
  have R1 := Lib.hid r1; have R2 := Lib.hid r2
  have n1 : a.length ≤ 9223372036854775807 := by omega
  have n2 : b.length ≤ 9223372036854775807 := by omega
  have n3 : Hid (((a.length : Int) + (b.length : Int)) = ((a.length + b.length : Nat) : Int)) := Lib.hid (by omega)
  have n4 : (a.length : Int) + (b.length : Int) ≤ 9223372036854775807 := by omega
  clear r1 r2
  go_enter Try.func80, Try.ntmps80
  go_wp2_with (at_make; refine wpList_make_own _ rfl _ _ 32 rfl w.heap.size 9 i0 (.string ByteArray.empty) 1 Try.underlying32 hi hz0 hz1 .i64 .i64 _ (a.length + b.length) rfl rfl n3.out (by rw [hz2]; omega) (by unfold maxLen; omega) (Nat.le_refl _) ?_; intro w0 hown0 hgrow0)
  have Hown0 := Lib.hid hown0
  have Hb0 := Lib.hid ((Below.refl w.heap.size w).grown hgrow0 (Nat.le_refl _) (fun k hk => by cases hk))
  clear hown0 hgrow0
  go_loopw [0, 1, 5, 6] (fun s0 s1 o _ wr => ∃ A C l, Row wr w.heap.size 1 s0 A.length (svt A) ∧ Row wr w.heap.size 1 s1 C.length (svt C) ∧ wr.ownsRow w.heap.size 9 1 o l.length (svt l) ∧ Below w.heap.size w wr ∧ l ++ joinR A C = joinR a b ∧ l.length + A.length + C.length ≤ a.length + b.length) (fun s0 s1 _ _ _ => slen s0 + slen s1)
  case atStart => exact ⟨a, b, [], R1.out.below Hb0.out, R2.out.below Hb0.out, Hown0.out, Hb0.out, rfl, by simp⟩
  case round =>
    obtain ⟨A, C, l, q1, q2, hown, hbel, hmet, hlen⟩ := hrel
    have Hmet := Lib.hid hmet
    have Hown := Lib.hid hown
    have Hlen := Lib.hid hlen
    have Hbel := Lib.hid hbel
    clear hc1 hc1' hc2 hc2' n3
    obtain ⟨a1, c1, rfl, hc1, hc1'⟩ := q1.val
    obtain ⟨a2, c2, rfl, hc2, hc2'⟩ := q2.val
    obtain ⟨ao, co, rfl, hco, hco'⟩ := owns_valPK hown
    unfold maxLen at hc1' hc2' hco'
    by_cases hend : A = [] ∨ C = []
    · have hj : joinR A C = A ++ C := by
        rcases hend with rfl | rfl
        · simp [joinR]
        · rw [joinR_nil, List.append_nil]
      rw [hj] at Hmet
      clear hj
      obtain ⟨p1, d1, w1, f1, own1, g1, x1, y1⟩ := appT wr w.heap.size l.length (.slice ao l.length co) l Hbel.out.size rfl Hown.out w.heap.size A.length _ A q1 (by omega)
      obtain ⟨p2, d2, w2, f2, own2, g2, x2, y2⟩ := appT w1 w.heap.size (l.length + A.length) (.slice p1 (l.length + A.length) d1) (l ++ A) (by have := g1.size; have := hbel.size; omega) (by simp) own1 w.heap.size C.length _ C (q2.below g1) (by omega)
      have Own2 := Lib.hid own2; have G2 := Lib.hid (hbel.trans (g1.trans g2))
      unfold maxLen at y1 y2
      clear q1 q2 hown hmet hlen hbel own1 own2 g1 g2
      have hfin : Hid (w2.ownsRow w.heap.size 9 1 (.slice p2 (l.length + A.length + C.length) d2) (joinR a b).length (svt (joinR a b))) := by
        have h := Own2.out
        rw [List.append_assoc, Hmet.out] at h
        rw [← Hmet.out] at h ⊢
        simp only [List.length_append] at h ⊢
        rw [← Nat.add_assoc]; exact h
      rcases A with _ | ⟨x, A⟩
      · clear hend
        simp only [List.length_nil, Nat.add_zero] at f1 f2 x1 x2 hfin
        go_wp2_with fail
        go_ret
        exact ⟨_, rfl, hfin.out, G2.out⟩
      · obtain rfl : C = [] := by rcases hend with h | h
                                  · cases h
                                  · exact h
        clear hend
        simp only [List.length_cons, List.length_nil, Nat.add_zero] at f1 f2 x1 x2 hfin
        go_wp2_with fail
        go_ret
        exact ⟨_, rfl, hfin.out, G2.out⟩
    · rcases A with _ | ⟨x, A⟩
      · exact absurd (.inl rfl) hend
      rcases C with _ | ⟨y, C⟩
      · exact absurd (.inr rfl) hend
      · clear hend
        simp only [List.length_cons, svt, List.map_cons] at q1 q2
        obtain ⟨b1, o1, rfl, hb1, e1, hcc1, t1, t1'⟩ := rowTail q1
        obtain ⟨b2, o2, rfl, hb2, e2, hcc2, t2, t2'⟩ := rowTail q2
        have T1 := Lib.hid t1; have T1' := Lib.hid t1'; have T2 := Lib.hid t2; have T2' := Lib.hid t2'
        have Q1 := Lib.hid q1; have Q2 := Lib.hid q2
        clear q1 q2 t1 t1' t2 t2' hown hmet hlen hbel
        replace e1 : wr.cell? ⟨b1, o1, none⟩ = some (.string ⟨x.toArray⟩) := e1
        replace e2 : wr.cell? ⟨b2, o2, none⟩ = some (.string ⟨y.toArray⟩) := e2
        have bw : Below w.heap.size wr wr.drew := (Below.refl _ _).drew
        have Bw := Lib.hid bw; clear bw
        simp only [List.length_cons] at hc1 hc2
        have k1 : A.length + 1 ≤ 9223372036854775807 := by omega
        have k2 : C.length + 1 ≤ 9223372036854775807 := by omega
        by_cases hxy : x < y
        · have hcmp : Hid (cmpT x y = -1) := Lib.hid (by unfold cmpT; rw [if_pos hxy])
          rw [joinR_lt A C hxy] at Hmet
          clear hxy
          by_cases h1 : c1 = 1
          · skip
            have Tx := Lib.hid (by have h := T1.out h1; rw [h1] at h; exact h)
            obtain ⟨vo, vc, w3, happ, hown3, hbel3, hv1, hv2⟩ := pushT2 wr w.heap.size l.length (.slice ao l.length co) l x Hbel.out.size rfl Hown.out (by have := Hlen.out; simp at this; omega) _ rfl
            have Hown3 := Lib.hid hown3; have Hbel3 := Lib.hid (Hbel.out.trans hbel3)
            have B3 := Lib.hid hbel3
            have cc : (wr.alloc (.cells #[.string ⟨x.toArray⟩] 9)).cell? ⟨b1, o1, none⟩ = some (.string ⟨x.toArray⟩) := (((Below.refl wr.heap.size wr).alloc (Nat.le_refl _) _).cell (by have := Hbel.out.size; show b1 < _; omega)).trans e1
            clear hown3 hbel3
            unfold maxLen at hv2
            go_wp2_with fail
            go_region_with (go_at_call 101; refine (compare_any x y _ _ _ rfl rfl).mono ?_; rintro e w' ⟨rfl, rfl⟩)
            all_goals
              rw [hcmp.out]
              go_wp2_with fail
              go_region
              all_goals
                go_wp2_with fail
                go_roundw
                case rel => exact ⟨A, y :: C, l ++ [x], (Tx.out).below B3.out, (Q2.out).below B3.out, by have h := Hown3.out; simp only [List.length_append, List.length_cons, List.length_nil]; exact h, Hbel3.out, by rw [List.append_assoc]; exact Hmet.out, by have := Hlen.out; simp at this ⊢; omega⟩
                case measure => simp [slen]; try omega
          · skip
            have Tx := Lib.hid ((T1'.out h1))
            obtain ⟨vo, vc, w3, happ, hown3, hbel3, hv1, hv2⟩ := pushT2 wr w.heap.size l.length (.slice ao l.length co) l x Hbel.out.size rfl Hown.out (by have := Hlen.out; simp at this; omega) _ rfl
            have Hown3 := Lib.hid hown3; have Hbel3 := Lib.hid (Hbel.out.trans hbel3)
            have B3 := Lib.hid hbel3
            have cc : (wr.alloc (.cells #[.string ⟨x.toArray⟩] 9)).cell? ⟨b1, o1, none⟩ = some (.string ⟨x.toArray⟩) := (((Below.refl wr.heap.size wr).alloc (Nat.le_refl _) _).cell (by have := Hbel.out.size; show b1 < _; omega)).trans e1
            clear hown3 hbel3
            unfold maxLen at hv2
            go_wp2_with fail
            go_region_with (go_at_call 101; refine (compare_any x y _ _ _ rfl rfl).mono ?_; rintro e w' ⟨rfl, rfl⟩)
            all_goals
              rw [hcmp.out]
              go_wp2_with fail
              go_region
              all_goals
                go_wp2_with fail
                go_roundw
                case rel => exact ⟨A, y :: C, l ++ [x], (Tx.out).below B3.out, (Q2.out).below B3.out, by have h := Hown3.out; simp only [List.length_append, List.length_cons, List.length_nil]; exact h, Hbel3.out, by rw [List.append_assoc]; exact Hmet.out, by have := Hlen.out; simp at this ⊢; omega⟩
                case measure => simp [slen]; try omega
        · by_cases hyx : y < x
          · have hcmp : Hid (cmpT x y = 1) := Lib.hid (by unfold cmpT; rw [if_neg hxy, if_pos hyx])
            rw [joinR_gt A C hxy hyx] at Hmet
            clear hxy hyx
            by_cases h2 : c2 = 1
            · skip
              have Ty := Lib.hid (by have h := T2.out h2; rw [h2] at h; exact h)
              obtain ⟨vo, vc, w3, happ, hown3, hbel3, hv1, hv2⟩ := pushT2 wr w.heap.size l.length (.slice ao l.length co) l y Hbel.out.size rfl Hown.out (by have := Hlen.out; simp at this; omega) _ rfl
              have Hown3 := Lib.hid hown3; have Hbel3 := Lib.hid (Hbel.out.trans hbel3)
              have B3 := Lib.hid hbel3
              have cc : (wr.alloc (.cells #[.string ⟨y.toArray⟩] 9)).cell? ⟨b2, o2, none⟩ = some (.string ⟨y.toArray⟩) := (((Below.refl wr.heap.size wr).alloc (Nat.le_refl _) _).cell (by have := Hbel.out.size; show b2 < _; omega)).trans e2
              clear hown3 hbel3
              unfold maxLen at hv2
              go_wp2_with fail
              go_region_with (go_at_call 101; refine (compare_any x y _ _ _ rfl rfl).mono ?_; rintro e w' ⟨rfl, rfl⟩)
              all_goals
                rw [hcmp.out]
                go_wp2_with fail
                go_region
                all_goals
                  go_wp2_with fail
                  go_roundw
                  case rel => exact ⟨x :: A, C, l ++ [y], (Q1.out).below B3.out, (Ty.out).below B3.out, by have h := Hown3.out; simp only [List.length_append, List.length_cons, List.length_nil]; exact h, Hbel3.out, by rw [List.append_assoc]; exact Hmet.out, by have := Hlen.out; simp at this ⊢; omega⟩
                  case measure => simp [slen]; try omega
            · skip
              have Ty := Lib.hid ((T2'.out h2))
              obtain ⟨vo, vc, w3, happ, hown3, hbel3, hv1, hv2⟩ := pushT2 wr w.heap.size l.length (.slice ao l.length co) l y Hbel.out.size rfl Hown.out (by have := Hlen.out; simp at this; omega) _ rfl
              have Hown3 := Lib.hid hown3; have Hbel3 := Lib.hid (Hbel.out.trans hbel3)
              have B3 := Lib.hid hbel3
              have cc : (wr.alloc (.cells #[.string ⟨y.toArray⟩] 9)).cell? ⟨b2, o2, none⟩ = some (.string ⟨y.toArray⟩) := (((Below.refl wr.heap.size wr).alloc (Nat.le_refl _) _).cell (by have := Hbel.out.size; show b2 < _; omega)).trans e2
              clear hown3 hbel3
              unfold maxLen at hv2
              go_wp2_with fail
              go_region_with (go_at_call 101; refine (compare_any x y _ _ _ rfl rfl).mono ?_; rintro e w' ⟨rfl, rfl⟩)
              all_goals
                rw [hcmp.out]
                go_wp2_with fail
                go_region
                all_goals
                  go_wp2_with fail
                  go_roundw
                  case rel => exact ⟨x :: A, C, l ++ [y], (Q1.out).below B3.out, (Ty.out).below B3.out, by have h := Hown3.out; simp only [List.length_append, List.length_cons, List.length_nil]; exact h, Hbel3.out, by rw [List.append_assoc]; exact Hmet.out, by have := Hlen.out; simp at this ⊢; omega⟩
                  case measure => simp [slen]; try omega
          · have hcmp : Hid (cmpT x y = 0) := Lib.hid (by unfold cmpT; rw [if_neg hxy, if_neg hyx])
            rw [joinR_eq A C hxy hyx] at Hmet
            clear hxy hyx
            by_cases h1 : c1 = 1
            · by_cases h2 : c2 = 1
              · skip
                have Tx := Lib.hid (by have h := T1.out h1; rw [h1] at h; exact h)
                have Ty := Lib.hid (by have h := T2.out h2; rw [h2] at h; exact h)
                obtain ⟨vo, vc, w3, happ, hown3, hbel3, hv1, hv2⟩ := pushT2 wr w.heap.size l.length (.slice ao l.length co) l x Hbel.out.size rfl Hown.out (by have := Hlen.out; simp at this; omega) _ rfl
                have Hown3 := Lib.hid hown3; have Hbel3 := Lib.hid (Hbel.out.trans hbel3)
                have B3 := Lib.hid hbel3
                have cc : (wr.alloc (.cells #[.string ⟨x.toArray⟩] 9)).cell? ⟨b1, o1, none⟩ = some (.string ⟨x.toArray⟩) := (((Below.refl wr.heap.size wr).alloc (Nat.le_refl _) _).cell (by have := Hbel.out.size; show b1 < _; omega)).trans e1
                clear hown3 hbel3
                unfold maxLen at hv2
                go_wp2_with fail
                go_region_with (go_at_call 101; refine (compare_any x y _ _ _ rfl rfl).mono ?_; rintro e w' ⟨rfl, rfl⟩)
                all_goals
                  rw [hcmp.out]
                  go_wp2_with fail
                  go_region
                  all_goals
                    go_wp2_with fail
                    go_roundw
                    case rel => exact ⟨A, C, l ++ [x], (Tx.out).below B3.out, (Ty.out).below B3.out, by have h := Hown3.out; simp only [List.length_append, List.length_cons, List.length_nil]; exact h, Hbel3.out, by rw [List.append_assoc]; exact Hmet.out, by have := Hlen.out; simp at this ⊢; omega⟩
                    case measure => simp [slen]; try omega
              · skip
                have Tx := Lib.hid (by have h := T1.out h1; rw [h1] at h; exact h)
                have Ty := Lib.hid ((T2'.out h2))
                obtain ⟨vo, vc, w3, happ, hown3, hbel3, hv1, hv2⟩ := pushT2 wr w.heap.size l.length (.slice ao l.length co) l x Hbel.out.size rfl Hown.out (by have := Hlen.out; simp at this; omega) _ rfl
                have Hown3 := Lib.hid hown3; have Hbel3 := Lib.hid (Hbel.out.trans hbel3)
                have B3 := Lib.hid hbel3
                have cc : (wr.alloc (.cells #[.string ⟨x.toArray⟩] 9)).cell? ⟨b1, o1, none⟩ = some (.string ⟨x.toArray⟩) := (((Below.refl wr.heap.size wr).alloc (Nat.le_refl _) _).cell (by have := Hbel.out.size; show b1 < _; omega)).trans e1
                clear hown3 hbel3
                unfold maxLen at hv2
                go_wp2_with fail
                go_region_with (go_at_call 101; refine (compare_any x y _ _ _ rfl rfl).mono ?_; rintro e w' ⟨rfl, rfl⟩)
                all_goals
                  rw [hcmp.out]
                  go_wp2_with fail
                  go_region
                  all_goals
                    go_wp2_with fail
                    go_roundw
                    case rel => exact ⟨A, C, l ++ [x], (Tx.out).below B3.out, (Ty.out).below B3.out, by have h := Hown3.out; simp only [List.length_append, List.length_cons, List.length_nil]; exact h, Hbel3.out, by rw [List.append_assoc]; exact Hmet.out, by have := Hlen.out; simp at this ⊢; omega⟩
                    case measure => simp [slen]; try omega
            · by_cases h2 : c2 = 1
              · skip
                have Tx := Lib.hid ((T1'.out h1))
                have Ty := Lib.hid (by have h := T2.out h2; rw [h2] at h; exact h)
                obtain ⟨vo, vc, w3, happ, hown3, hbel3, hv1, hv2⟩ := pushT2 wr w.heap.size l.length (.slice ao l.length co) l x Hbel.out.size rfl Hown.out (by have := Hlen.out; simp at this; omega) _ rfl
                have Hown3 := Lib.hid hown3; have Hbel3 := Lib.hid (Hbel.out.trans hbel3)
                have B3 := Lib.hid hbel3
                have cc : (wr.alloc (.cells #[.string ⟨x.toArray⟩] 9)).cell? ⟨b1, o1, none⟩ = some (.string ⟨x.toArray⟩) := (((Below.refl wr.heap.size wr).alloc (Nat.le_refl _) _).cell (by have := Hbel.out.size; show b1 < _; omega)).trans e1
                clear hown3 hbel3
                unfold maxLen at hv2
                go_wp2_with fail
                go_region_with (go_at_call 101; refine (compare_any x y _ _ _ rfl rfl).mono ?_; rintro e w' ⟨rfl, rfl⟩)
                all_goals
                  rw [hcmp.out]
                  go_wp2_with fail
                  go_region
                  all_goals
                    go_wp2_with fail
                    go_roundw
                    case rel => exact ⟨A, C, l ++ [x], (Tx.out).below B3.out, (Ty.out).below B3.out, by have h := Hown3.out; simp only [List.length_append, List.length_cons, List.length_nil]; exact h, Hbel3.out, by rw [List.append_assoc]; exact Hmet.out, by have := Hlen.out; simp at this ⊢; omega⟩
                    case measure => simp [slen]; try omega
              · skip
                have Tx := Lib.hid ((T1'.out h1))
                have Ty := Lib.hid ((T2'.out h2))
                obtain ⟨vo, vc, w3, happ, hown3, hbel3, hv1, hv2⟩ := pushT2 wr w.heap.size l.length (.slice ao l.length co) l x Hbel.out.size rfl Hown.out (by have := Hlen.out; simp at this; omega) _ rfl
                have Hown3 := Lib.hid hown3; have Hbel3 := Lib.hid (Hbel.out.trans hbel3)
                have B3 := Lib.hid hbel3
                have cc : (wr.alloc (.cells #[.string ⟨x.toArray⟩] 9)).cell? ⟨b1, o1, none⟩ = some (.string ⟨x.toArray⟩) := (((Below.refl wr.heap.size wr).alloc (Nat.le_refl _) _).cell (by have := Hbel.out.size; show b1 < _; omega)).trans e1
                clear hown3 hbel3
                unfold maxLen at hv2
                go_wp2_with fail
                go_region_with (go_at_call 101; refine (compare_any x y _ _ _ rfl rfl).mono ?_; rintro e w' ⟨rfl, rfl⟩)
                all_goals
                  rw [hcmp.out]
                  go_wp2_with fail
                  go_region
                  all_goals
                    go_wp2_with fail
                    go_roundw
                    case rel => exact ⟨A, C, l ++ [x], (Tx.out).below B3.out, (Ty.out).below B3.out, by have h := Hown3.out; simp only [List.length_append, List.length_cons, List.length_nil]; exact h, Hbel3.out, by rw [List.append_assoc]; exact Hmet.out, by have := Hlen.out; simp at this ⊢; omega⟩
                    case measure => simp [slen]; try omega
end Go.Proofs.Ytimgnbacgdmiiaa
