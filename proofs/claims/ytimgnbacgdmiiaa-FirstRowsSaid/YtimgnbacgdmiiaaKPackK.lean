/-
  pack.Cat: walked.
-/
import Derived.Test.YtimgnbacgdmiiaaKPackJ
import Derived.Deep.CutBlock
import Derived.Deep.CutRange
namespace Go.Proofs.Ytimgnbacgdmiiaa
open Go.RowKit PK Go.Maps Go.WideMaps
set_option linter.unusedVariables false
attribute [local go_sem ↓] append_appM

set_option maxHeartbeats 4000000 in
set_option maxRecDepth 100000 in
theorem packCat_any (v1 v2 : Value) (a b : List Tx) (k : Int) (B1 B2 : Nat) (w : World) (hB1 : B1 ≤ w.heap.size) (hB2 : B2 ≤ w.heap.size) (r1 : Row w B1 1 v1 a.length (svt a)) (r2 : Row w B2 1 v2 b.length (svt b)) (ha : a.length ≤ 650) (hb : b.length ≤ 650) (hxa : ∀ x ∈ a, x.length ≤ 1000) (hxb : ∀ x ∈ b, x.length ≤ 1000) (hk : -9223372036854775808 ≤ k ∧ k ≤ 9223372036854775807) :
    Calls Try.prog 63 #[v1, v2, .int .i64 k] w (OwnT w (catL a b k)) := by
  obtain ⟨ao, c, rfl, hc1, hc2⟩ := r1.val
  obtain ⟨bo, d, rfl, hd1, hd2⟩ := r2.val
  have hl63 : a.length ≤ 9223372036854775807 := by omega
  have hl64 : b.length ≤ 9223372036854775807 := by omega
  have R1 := Lib.hid r1; have R2 := Lib.hid r2; have Hxa := Lib.hid hxa; have Hxb := Lib.hid hxb
  clear r1 r2 hxa hxb
  rcases Nat.eq_zero_or_pos b.length with hb0 | hb0
  · obtain rfl := List.length_eq_zero_iff.1 hb0
    have hcl : Hid (catL a [] k = []) := Lib.hid (by
      unfold catL catsF
      have : (a.flatMap fun x => ([] : List Tx).map fun y => catT x y k) = [] := by simp
      rw [this, toSet_nil])
    clear hk
    go_enter Try.func63, Try.ntmps63
    go_wp2_with fail
    go_ret
    exact ⟨_, rfl, by rw [hcl.out]; exact World.ownsRow_nil _ _ _ _, Below.refl _ _⟩
  · obtain ⟨n, hn⟩ : ∃ n : Nat, max k 0 = (n : Int) := ⟨k.toNat, by omega⟩
    have hkn : k.toNat = n := by omega
    have hn63 : (n : Int) ≤ 9223372036854775807 := by omega
    have Hgs := Lib.hid (gath_set a b n k hkn)
    have hmm := @run_makeMap Try.prog
    have hb1 : ((b.length : Int) == 0) = false := by simp only [beq_eq_false_iff_ne, ne_eq]; omega
    clear hkn hk
    go_enter Try.func63, Try.ntmps63
    go_wp2_with fail
    go_loopw [8, 24] (fun vl i wr => ∃ (m : Nat) (l : List Tx) (nn : Nat) (f : Int → Option Value), m ≤ a.length ∧ i = .int .i64 m ∧ nn ≤ m ∧ Hid (l = gath (a.take m) b n) ∧ Hid (CatInv w wr vl l b nn f)) (fun _ i _ => a.length - (intOf i).toNat)
    case atStart => exact ⟨0, [], 0, _, Nat.zero_le _, rfl, Nat.le_refl _, Lib.hid (by simp [gath]), Lib.hid (CatInv.start w b)⟩
    case round =>
      obtain ⟨m, l, nn, f, hm, rfl, hnn, Hl, Hinv⟩ := hrel
      obtain ⟨lo, lc, rfl, hlc, hlc'⟩ := owns_valPK Hinv.out.own
      have hll : l.length ≤ 500000 := by
        rw [Hl.out]
        have h1 := gath_len (a.take m) b n
        rw [List.length_take, Nat.min_eq_left hm] at h1
        exact Nat.le_trans h1 (Nat.le_trans (Nat.mul_le_mul (Nat.le_trans hm ha) hb) (by omega))
      have Hll := Lib.hid hll
      unfold maxLen at hlc'
      clear hll
      by_cases hlt : m < a.length
      · have a1 := R1.out.below (Hinv.out.bel.mono hB1)
        obtain ⟨b1, o1, rfl, hbb1, _⟩ := a1.at (by rw [svt_length]; omega)
        have c10 := a1.cell m _ (svt_at a m hlt)
        have hm0 : (m : Int) < (a.length : Int) := by omega
        have hm1 : (0 : Int) ≤ (m : Int) := by omega
        have hxl := Hxa.out _ (List.getElem_mem hlt)
        have Hg := Lib.hid (gath_take a b n m hlt)
        clear a1
        generalize a[m] = x at *
        obtain ⟨s, hsx⟩ : ∃ s : ByteArray, s = ⟨x.toArray⟩ := ⟨_, rfl⟩
        have hsz := tx_size x
        rw [← hsx] at c10 hsz
        have Hsx := Lib.hid hsx
        have hs1 : s.size ≤ 1000 := by omega
        obtain ⟨room, hrm⟩ : ∃ room, room = n - x.length := ⟨_, rfl⟩
        have hroom : max ((n : Int) - (s.size : Int)) 0 = (room : Int) := by omega
        have hr64 : (room : Int) ≤ 9223372036854775807 := by omega
        have hin : In64T (room : Int) := ⟨by omega, hr64⟩
        have hlo : -9223372036854775808 ≤ (n : Int) - (s.size : Int) := by omega
        have hhi : (n : Int) - (s.size : Int) ≤ 9223372036854775807 := by omega
        rw [← hrm] at Hg
        obtain ⟨v0, hlook⟩ := Hinv.out.map.look_ok (room : Int) hin
        have Hin := Lib.hid hin; have Hrm := Lib.hid hrm; have Hsz := Lib.hid hsz
        clear hsx hsz hrm hin
        have Hbg := Lib.hid (fun (h : b.length ≤ 10000) => begun_any (.slice bo b.length d) b room w.heap.size wr Hinv.out.bel.size ((R2.out.below (Hinv.out.bel.mono hB2)).mono hB2) h Hxb.out (by omega))
        go_upto_if 40 with fail
        go_cut [12, 13, 24] from 25 to 62 (fun _ _ i wx => i = .int .i64 m ∧ ∃ (v' : Value) (nn' : Nat) (f' : Int → Option Value), nn' ≤ m + 1 ∧ Hid (f' (room : Int) = some v') ∧ Hid (CatInv w wx (.slice lo l.length lc) l b nn' f'))
        case first =>
          cases hf : f (room : Int) with
          | none =>
            rw [hf] at hlook
            simp only [Option.isSome_none] at hlook
            go_wp2_with fail
            refine (Hbg.out (by omega)).mono ?_
            rintro e w2 ⟨v2, rfl, own2, bb2⟩
            obtain ⟨w3, hup, hm3, hg3⟩ := (Hinv.out.map.kept (grown_of_belowT bb2) (by simp)).update (by unfold maxLen; omega) (room : Int) Hin.out v2
            have Hp := Lib.hid (Hinv.out.put room bb2 own2 hm3 hg3)
            clear hlook own2 bb2 hm3 hg3
            go_wp2_with fail
            go_meet
            case rel => exact ⟨rfl, v2, nn + 1, _, by omega, Lib.hid (if_pos rfl), Hp⟩
          | some v1 =>
            rw [hf] at hlook
            simp only [Option.isSome_some] at hlook
            go_wp2_with fail
            go_meet
            case rel => exact ⟨rfl, v1, nn, f, by omega, Lib.hid hf, Hinv⟩
        case rest =>
          obtain ⟨rfl, v', nn', f', hnn', Hf, Hinv'⟩ := hcut
          have hlook2 := Hinv'.out.map.look (room : Int) Hin.out v' Hf.out
          have hrows : ∀ (W : World) (vl : Value) (L : List Tx), CatInv w W vl L b nn' f' → Row W W.heap.size 1 v' (toSet (begT b room)).length (svt (toSet (begT b room))) := fun W vl L h => by
            obtain ⟨q, hq, hrow, _⟩ := h.rows _ _ Hf.out
            obtain rfl : room = q := by omega
            exact hrow
          have Hrows := Lib.hid hrows
          obtain ⟨eo, ec, rfl, hec, hec'⟩ := (hrows _ _ _ Hinv'.out).val
          unfold maxLen at hec'
          have hE1 := toSet_len (begT b room)
          have hE2 : (begT b room).length = b.length := by unfold begT; simp
          have hE3 : ∀ y ∈ toSet (begT b room), y.length ≤ 1000 := fun y hy => by
            rw [toSet_mem] at hy
            obtain ⟨z, hz, rfl⟩ := List.mem_map.1 hy
            have := Hxb.out z hz
            rw [List.length_take]; omega
          have HE3 := Lib.hid hE3
          clear hrows hlook hE3 Hbg Hinv
          generalize toSet (begT b room) = E at *
          have hE63 : E.length ≤ 9223372036854775807 := by omega
          have hE4 : E.length ≤ 650 := by omega
          obtain ⟨wo, rfl⟩ : ∃ wo : World, wo = wc := ⟨_, rfl⟩
          go_wp2_with fail
          go_loopw [8, 50] (fun vl j wx => ∃ (t : Nat) (l' : List Tx), t ≤ E.length ∧ j = .int .i64 t ∧ Hid (l' = l ++ (E.take t).map fun y => catT x y (n : Int)) ∧ Hid (CatInv w wx vl l' b nn' f')) (fun _ j _ => E.length - (intOf j).toNat)
          case atStart => exact ⟨0, l, Nat.zero_le _, rfl, Lib.hid (by simp), Hinv'⟩
          case round =>
            obtain ⟨t, l', ht, rfl, Hl', Hi⟩ := hrel
            obtain ⟨po, pc, rfl, hpc, hpc'⟩ := owns_valPK Hi.out.own
            unfold maxLen at hpc'
            have hll' : l'.length ≤ 600000 := by
              have h1 := Hll.out
              rw [Hl'.out, List.length_append, List.length_map, List.length_take]; omega
            by_cases htl : t < E.length
            · have a1 := Hrows.out _ _ _ Hi.out
              obtain ⟨b3, o3, rfl, hbb3, _⟩ := a1.at (by rw [svt_length]; omega)
              have c30 := a1.cell t _ (svt_at E t htl)
              have ht0 : (t : Int) < (E.length : Int) := by omega
              have ht1 : (0 : Int) ≤ (t : Int) := by omega
              have hyl := HE3.out _ (List.getElem_mem htl)
              have Hst : Hid (l' ++ [catT x E[t] (n : Int)] = l ++ (E.take (t + 1)).map fun y => catT x y (n : Int)) := Lib.hid (by
                rw [Hl'.out, List.take_succ_eq_append_getElem htl, List.map_append, List.append_assoc]; rfl)
              have Hc := Lib.hid (fun W => catT_any x E[t] (n : Int) W hxl hyl (by omega) s _ Hsx.out rfl)
              obtain ⟨p3, d3, w3, happ, own3, x3, y3, g3, e3⟩ := pushT1 wr w.heap.size l'.length (.slice po l'.length pc) l' (catT x E[t] (n : Int)) Hi.out.bel.size rfl Hi.out.own (by omega)
              have Hp := Lib.hid (Hi.out.push (catT x E[t] (n : Int)) _ g3 (by rw [List.length_append]; exact own3) e3)
              unfold maxLen at y3
              clear a1 own3 g3 e3 hll'
              generalize catT x E[t] (n : Int) = z at *
              generalize E[t] = y at *
              go_wp2_with fail
              refine (Hc.out _).mono ?_
              rintro e w' ⟨rfl, rfl⟩
              go_wp2_with fail
              go_roundw
              case rel => exact ⟨t + 1, _, htl, by go_num, Hst, Hp⟩
              case measure => simp [intOf]; omega
            · obtain rfl : t = E.length := by omega
              have Hl2 : Hid (l' = gath (a.take (m + 1)) b n) := Lib.hid (by
                have h1 := Hl'.out
                rw [List.take_length, Hl.out, Hg.out] at h1
                exact h1)
              clear hll'
              go_wp2_with fail
              go_roundw
              case rel => exact ⟨m + 1, l', nn', f', hlt, by go_num, hnn', Hl2, Hi⟩
              case measure => simp [intOf]; omega
      · obtain rfl : m = a.length := by omega
        have Hl2 : Hid (l = gath a b n) := Lib.hid (by rw [Hl.out, List.take_length])
        have Hm := Lib.hid (made_any _ l w.heap.size wr Hinv.out.bel.size Hinv.out.own (by have := Hll.out; omega))
        go_wp2_with fail
        refine (Hm.out).mono ?_
        rintro e w2 ⟨v2, rfl, own2, b2⟩
        rw [Hl2.out, Hgs.out] at own2
        go_wp2_with fail
        go_ret
        exact ⟨_, rfl, own2, Hinv.out.bel.trans b2⟩
end Go.Proofs.Ytimgnbacgdmiiaa
