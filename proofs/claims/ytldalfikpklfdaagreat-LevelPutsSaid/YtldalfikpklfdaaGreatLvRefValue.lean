/- What the reference's Value answers, of any parts and numbers. -/
import Derived.Test.YtldalfikpklfdaaGreatLvRefLeq
namespace Go.Proofs.YtldalfikpklfdaaGreat
open Go.RowKit Go.Maps

set_option maxRecDepth 100000 in
set_option maxHeartbeats 4000000 in
theorem rvalue_any (A A' : Option Addr) (ps : List (Int × Int)) (ns : List Int) (c c' : Nat) (w : World) (hmp : ps.length ≤ 900000) (hmn : ns.length ≤ maxLen) (ha : Lev w w.heap.size A ps) (hn : Ints w w.heap.size A' ns) (hca : A = none → c = 0) :
    Calls Tryz.prog 20 #[.agg #[.slice A ps.length c], .slice A' ns.length c'] w (NumPost w (valF (nfA ps) (numS ns))) := by
  have hfd := field_parts
  have x1 := heap_alloc_new w (.cells #[.slice A ps.length c] 24)
  have hb0 : Below w.heap.size w (w.alloc (.cells #[.slice A ps.length c] 24)) := (Below.refl _ _).alloc (Nat.le_refl _) _
  have HG := Lib.hid (rnorm_any A ps c (w.alloc (.cells #[.slice A ps.length c] 24)) hmp ((ha.below hb0).more (by simp)) hca)
  have X1 := Lib.hid x1
  have HB0 := Lib.hid hb0
  have HN := Lib.hid hn
  unfold maxLen at hmn
  have HLN : Hid ((nfA ps).length ≤ 900000) := by have := nfA_len ps; unfold Hid; omega
  have HK := Lib.hid (nfA_ok ps)
  obtain ⟨qs, hqs⟩ : ∃ qs, nfA ps = qs := ⟨_, rfl⟩
  rw [hqs] at HG HLN HK ⊢
  clear x1 hb0 ha hn hca hqs
  go_enter Tryz.func20, Tryz.ntmps20
  go_wp2_with (fail)
  refine HG.out.mono ?_
  rintro e w1 ⟨A1, m1, rfl, hl1, hb1⟩
  obtain ⟨n1, hn1⟩ : ∃ n, qs.length = n := ⟨_, rfl⟩
  have e1 := (hb1.block w.heap.size (by simp)).trans X1.out
  have f5 := cell_of_one e1
  have f6 := free_of_one e1
  have hs1 : w.heap.size + 1 ≤ w1.heap.size := by have := hb1.size; simp at this; omega
  obtain ⟨w2, hw2⟩ : ∃ w2, w1.setCell ⟨w.heap.size, 0, none⟩ (.slice A1 n1 m1) = w2 := ⟨_, rfl⟩
  have LA := Lib.hid (hl1.box (u := .slice A1 n1 m1) e1)
  have BA : Hid (Below w.heap.size w w2) := by rw [← hw2]; exact (HB0.out.trans (hb1.mono (by simp))).setCell (Nat.le_refl _) _
  have hs2 : w.heap.size + 1 ≤ w2.heap.size := by rw [← hw2]; exact Nat.le_trans hs1 (set_size _ _ _)
  have g5 : w2.cell? ⟨w.heap.size, 0, none⟩ = some (.slice A1 n1 m1) := by rw [← hw2]; exact World.cell?_setCell_same _ _ _ f5
  rw [hn1, hw2] at LA
  rw [hn1]
  have HNL := Lib.hid hn1
  have hln : n1 ≤ 900000 := by have := HLN.out; omega
  clear hl1 hb1 e1 hn1
  go_wp2
  clear hw2 f5 f6
  go_loopw [5, 6] (fun x i wr => ∃ (k : Nat) (u : Int), k ≤ n1 ∧ i = .int .i64 k ∧ x = .int .i64 u ∧ Below w2.heap.size w2 wr ∧ ValSo (qs.take k) ns u) (fun _ i _ => n1 - (intOf i).toNat)
  case atStart => exact ⟨0, 0, Nat.zero_le _, rfl, rfl, Below.refl _ _, ⟨by omega, by omega, fun p hp => by simp at hp, Or.inl rfl⟩⟩
  case round =>
    obtain ⟨k, u, hk, rfl, rfl, hb, hs⟩ := hrel
    have hbz := hb.size
    have c9 := (hb.cell (by show w.heap.size < w2.heap.size; omega)).trans g5
    by_cases hlt : k < n1
    · have hkq : k < qs.length := by rw [HNL.out]; exact hlt
      obtain ⟨b, o, rfl, hbB, hcell⟩ := LA.out.2.1 (by rw [HNL.out]; omega)
      have c0 := (hb.cell hbB).trans (hcell k hkq).1
      have c1 := (hb.cell hbB).trans (hcell k hkq).2
      have hin : qs.getD k (0, 0) ∈ qs := by rw [List.getD_eq_getElem?_getD, List.getElem?_eq_getElem hkq]; exact List.getElem_mem hkq
      have hok := HK.out _ hin
      obtain ⟨vx, hx⟩ : ∃ x, x = (qs.getD k (0, 0)).1 := ⟨_, rfl⟩
      obtain ⟨vy, hy⟩ : ∃ y, y = (qs.getD k (0, 0)).2 := ⟨_, rfl⟩
      unfold okPart at hok
      rw [← hx, ← hy] at hok
      rw [← hx] at c0
      rw [← hy] at c1
      have hq : qs[k] = (vx, vy) := by rw [hx, hy, List.getD_eq_getElem?_getD, List.getElem?_eq_getElem hkq]; rfl
      obtain ⟨k0, k1, k2, k3⟩ := hok
      have hbw : b < wr.heap.size := by omega
      have hnb := numS_bd ns vx
      obtain ⟨z, hz⟩ : ∃ z, z = numS ns vx := ⟨_, rfl⟩
      rw [← hz] at hnb
      have HST : Hid (ValSo (qs.take (k + 1)) ns (max u (z + vy))) := by
        rw [Hid, List.take_succ_eq_append_getElem hkq, hq, hz]
        exact hs.step (p := (vx, vy)) ⟨k1, k3⟩
      have HBB := Lib.hid hb
      have HZ := Lib.hid hz
      have hu0 := hs.1
      have hu1 := hs.2.1
      obtain ⟨z0, z1⟩ := hnb
      have ws : IntKind.i64.wrap (z + vy) = z + vy := IntWalk.i64_in _ (by omega)
      have zy : 0 ≤ z + vy := by omega
      have q0 : (0 : Int) ≤ (k : Int) := by omega
      have q1 : (k : Int) < (n1 : Int) := by omega
      clear hs hq hx hy hz hcell hin hb
      by_cases t1 : 0 < vx
      · by_cases t2 : vx ≤ (ns.length : Int)
        · obtain ⟨j, rfl⟩ : ∃ j : Nat, vx = (j : Int) + 1 := ⟨(vx - 1).toNat, by omega⟩
          have hj : j < ns.length := by omega
          obtain ⟨b2, o2, rfl, hb2, hc2⟩ := HN.out (by omega)
          have c3 := (HBB.out.cell (by show b2 < w2.heap.size; omega)).trans ((BA.out.cell hb2).trans (hc2 j hj))
          have e0 : numS ns ((j : Int) + 1) = if 0 ≤ ns.getD j 0 ∧ ns.getD j 0 ≤ 1048576 then ns.getD j 0 else 0 := by
            unfold numS
            rw [if_neg (by omega), show ((j : Int) + 1 - 1).toNat = j from by omega]
          obtain ⟨xv, hxv⟩ : ∃ x, x = ns.getD j 0 := ⟨_, rfl⟩
          rw [← hxv] at c3 e0
          have hjl : (j : Int) < (ns.length : Int) := by omega
          have hj0 : (0 : Int) ≤ (j : Int) := by omega
          have hb2w : b2 < wr.heap.size := by omega
          have E0 := Lib.hid e0
          clear hc2 hxv e0
          by_cases t3 : 0 ≤ xv
          · by_cases t4 : xv ≤ 1048576
            · obtain rfl : z = xv := by rw [HZ.out, E0.out, if_pos ⟨t3, t4⟩]
              clear HZ E0
              go_wp2
              go_roundw
              case rel => exact ⟨k + 1, _, by omega, by go_num, rfl, HBB.out, (by first | exact HST.out | simpa using HST.out)⟩
              case measure => simp [intOf]; omega
            · obtain rfl : z = 0 := by rw [HZ.out, E0.out, if_neg (fun q => t4 q.2)]
              have d4 : decide (xv ≤ 1048576) = false := by simpa using t4
              clear HZ E0
              go_wp2
              go_roundw
              case rel => exact ⟨k + 1, _, by omega, by go_num, rfl, HBB.out, (by first | exact HST.out | simpa using HST.out)⟩
              case measure => simp [intOf]; omega
          · obtain rfl : z = 0 := by rw [HZ.out, E0.out, if_neg (fun q => t3 q.1)]
            have d3 : decide (0 ≤ xv) = false := by simpa using t3
            clear HZ E0
            go_wp2
            go_roundw
            case rel => exact ⟨k + 1, _, by omega, by go_num, rfl, HBB.out, (by first | exact HST.out | simpa using HST.out)⟩
            case measure => simp [intOf]; omega
        · obtain rfl : z = 0 := by rw [HZ.out]; unfold numS; rw [if_pos (Or.inr (by omega))]
          have d2 : decide (vx ≤ (ns.length : Int)) = false := by simpa using t2
          clear HZ
          go_wp2
          go_roundw
          case rel => exact ⟨k + 1, _, by omega, by go_num, rfl, HBB.out, (by first | exact HST.out | simpa using HST.out)⟩
          case measure => simp [intOf]; omega
      · obtain rfl : z = 0 := by rw [HZ.out]; unfold numS; rw [if_pos (Or.inl (by omega))]
        have d1 : decide (0 < vx) = false := by simpa using t1
        clear HZ
        go_wp2
        go_roundw
        case rel => exact ⟨k + 1, _, by omega, by go_num, rfl, HBB.out, (by first | exact HST.out | simpa using HST.out)⟩
        case measure => simp [intOf]; omega
    · obtain rfl : k = n1 := by omega
      have hq : qs.take k = qs := List.take_of_length_le (by rw [HNL.out]; exact Nat.le_refl _)
      rw [hq] at hs
      have HF : Hid (NumPost w (valF qs (numS ns)) (.returned (.int .i64 u)) wr) := ⟨by rw [← valSo_eq hs], BA.out.trans (hb.mono (by omega))⟩
      clear hs hb hq
      go_wp2
      go_ret
      exact HF.out
end Go.Proofs.YtldalfikpklfdaaGreat
