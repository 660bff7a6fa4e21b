/- Laws. -/
import Derived.Test.YtafgmndlbbjphaaGreatDoorPuis
import Derived.Test.YtafgmndlbbjphaaGreatDoorPuak
import Derived.Test.YtafgmndlbbjphaaGreatDoorPuam
import Derived.Deep.RegionHeld3
set_option maxRecDepth 100000
namespace Go.Proofs.YtafgmndlbbjphaaGreatDoor
open Go.RowKit Go.Maps
theorem loop_app {W wr w4 w5 : World} {g m j gg cap : Nat} {lv : Value} {parts news : List (Int × Int)} (h : LoopW W wr g lv m parts) (hg : g < W.heap.size) (hb : Below wr.heap.size wr w4)
  (hown : w5.ownsRow W.heap.size 95 2 (.slice (some ⟨gg, 0, none⟩) (m + j) cap) (m + j) (cells parts ++ cells news)) (hgrow : w4.grownBy w5 lv.ownBlock) :
  w5.heap[g]? = some (.cells #[lv] 47 (0, 0)) ∧ LoopW W (w5.setCell ⟨g, 0, none⟩ (.slice (some ⟨gg, 0, none⟩) (m + j) cap)) g (.slice (some ⟨gg, 0, none⟩) (m + j) cap) (m + j) (parts ++ news) ∧
   ∀ p, p < w4.heap.size → p ≠ g → lv.ownBlock ≠ some p → (w5.setCell ⟨g, 0, none⟩ (.slice (some ⟨gg, 0, none⟩) (m + j) cap)).heap[p]? = w4.heap[p]? := by
 have hsz := h.grown.size
 have hg1 : g < wr.heap.size := by omega
 have hbz := hb.size
 have hlow : ∀ p, lv.ownBlock = some p → W.heap.size ≤ p := fun p e => (h.row.lt _ e).1
 have hL : w5.heap[g]? = some (.cells #[lv] 47 (0, 0)) := (hgrow.block _ (by omega) (fun e => by have := hlow g e.symm; omega)).trans ((hb.block _ hg1).trans h.cell)
 refine ⟨hL, ⟨⟨hgrow.os.trans (hb.os.trans h.grown.os), hgrow.tape.trans (hb.tape.trans h.grown.tape), hgrow.output.trans (hb.output.trans h.grown.output), Nat.le_trans hsz (Nat.le_trans hbz (Nat.le_trans hgrow.size (set_size _ _ _))), fun p hp hne => ?_⟩, one_setCell hL, ?_⟩, fun p hp hne ho => ?_⟩
 ·have hpw : p < wr.heap.size := by omega
  exact (Below.heap_setCell w5 _ _ p (fun e => hne (by rw [e]))).trans ((hgrow.block p (by omega) (fun e => by have := hlow p e.symm; omega)).trans ((hb.block p hpw).trans (h.grown.block p hp hne)))
 ·rw [cells_append]
  exact ownsRow_setCell_below hown hg _
 ·exact (Below.heap_setCell w5 _ _ p hne).trans (hgrow.block p hp (Ne.symm ho))
theorem LoopW.keep {W wr w4 : World} {g m : Nat} {lv : Value} {parts : List (Int × Int)} (h : LoopW W wr g lv m parts) (hg : g < W.heap.size) (hb : Below wr.heap.size wr w4) : LoopW W w4 g lv m parts := by
 have hsz := h.grown.size
 refine ⟨⟨hb.os.trans h.grown.os, hb.tape.trans h.grown.tape, hb.output.trans h.grown.output, Nat.le_trans hsz hb.size, fun p hp hne => (hb.block p (by omega)).trans (h.grown.block p hp hne)⟩, (hb.block g (by omega)).trans h.cell, own_kept h.row hb⟩
theorem forVar_zero (bys : List (List (Int × Int))) : forVar bys 0 = [] := by unfold forVar; rw [if_neg (by omega)]
theorem raise_nil {bys : List (List (Int × Int))} {x y : Int} (h : forVar bys x = []) : raiseS bys (x, y) = [(0, y)] := by unfold raiseS; rw [if_pos h]
theorem raise_some {bys : List (List (Int × Int))} {x y : Int} (h : forVar bys x ≠ []) : raiseS bys (x, y) = (forVar bys x).map (upD y) := by unfold raiseS; rw [if_neg h]
theorem putS_at {qs : List (Int × Int)} {bys : List (List (Int × Int))} (h9 : ∀ b ∈ bys, b.length ≤ 900) (k : Nat) (hk : k ≤ 900) : (putS (qs.take k) bys).length ≤ 810000 := by
 have h1 := putS_len h9 (qs.take k)
 have h2 : (qs.take k).length ≤ 900 := by rw [List.length_take]; omega
 omega
set_option maxHeartbeats 8000000 in
theorem rputs_new (A A' : Option Addr) (ps : List (Int × Int)) (bys : List (List (Int × Int))) (c c' : Nat) (w : World) (hm : ps.length ≤ 900) (h : Lev w w.heap.size A ps) (hc : A = none → c = 0) (hmb : bys.length ≤ maxLen) (h9 : ∀ b ∈ bys, b.length ≤ 900) (hb' : Levs w w.heap.size A' bys) :
  Calls Tryz.prog 40 #[.agg #[.slice A ps.length c], .slice A' bys.length c'] w (LOutN w (nfA (putS (nfA ps) bys))) := by
 have hfd := field_parts
 obtain ⟨i0, hi, hz0, hz1, hz2⟩ := info_parts infoP
 obtain ⟨x1, x2, x3⟩ := two_allocs w (.cells #[.slice A ps.length c] 47) (.cells #[.slice none 0 0] 47)
 have hb0 : Below w.heap.size w ((w.alloc (.cells #[.slice A ps.length c] 47)).alloc (.cells #[.slice none 0 0] 47)) := ((Below.refl _ _).alloc (Nat.le_refl _) _).alloc (by simp) _
 have HG := Lib.hid (rnorm_any A ps c ((w.alloc (.cells #[.slice A ps.length c] 47)).alloc (.cells #[.slice none 0 0] 47)) (by omega) ((h.below hb0).more (by simp; omega)) hc)
 have X1 := Lib.hid x1
 have X2 := Lib.hid x2
 have HB0 := Lib.hid hb0
 have HLN : Hid ((nfA ps).length ≤ 900) := by have := nfA_len ps; unfold Hid; omega
 have HOK : Hid (∀ p ∈ nfA ps, okPart p) := nfA_ok ps
 obtain ⟨qs, hqs⟩ : ∃ qs, nfA ps = qs := ⟨_, rfl⟩
 rw [hqs] at HG HLN HOK ⊢
 have HBY := Lib.hid hb'
 have H9 := Lib.hid h9
 unfold maxLen at hmb
 clear x1 x2 x3 hb0 h hc hqs hb' h9
 go_enter Tryz.func40, Tryz.ntmps40
 go_wp2_with (fail)
 refine HG.out.mono ?_
 rintro e w1 ⟨A1, m1, rfl, hl1, hb1⟩
 obtain ⟨n1, hn1⟩ : ∃ n, qs.length = n := ⟨_, rfl⟩
 have e1 := (hb1.block w.heap.size (by simp; omega)).trans X1.out
 have e2 := (hb1.block (w.heap.size + 1) (by simp)).trans X2.out
 have f5 := cell_of_one e1
 have f6 := free_of_one e1
 have hs1 : w.heap.size + 2 ≤ w1.heap.size := by have := hb1.size; simp at this; omega
 obtain ⟨w2, hw2⟩ : ∃ w2, w1.setCell ⟨w.heap.size, 0, none⟩ (.slice A1 n1 m1) = w2 := ⟨_, rfl⟩
 have LA := Lib.hid (hl1.box (u := .slice A1 n1 m1) e1)
 have BA : Hid (Below w.heap.size w w2) := by rw [← hw2]; exact (HB0.out.trans (hb1.mono (by simp; omega))).setCell (Nat.le_refl _) _
 have Y1 : Hid (w2.heap[w.heap.size]? = some (.cells #[.slice A1 n1 m1] 47 (0, 0))) := by rw [← hw2]; exact (heap_setCell_same w1 w.heap.size 0 _ _ (.slice A1 n1 m1) e1).trans (by simp)
 have Y2 : Hid (w2.heap[w.heap.size + 1]? = some (.cells #[.slice none 0 0] 47 (0, 0))) := by rw [← hw2]; exact (Below.heap_setCell w1 _ _ _ (by show w.heap.size + 1 ≠ w.heap.size; omega)).trans e2
 have hz2' : w.heap.size + 2 ≤ w2.heap.size := by rw [← hw2]; exact Nat.le_trans hs1 (set_size _ _ _)
 have g5 := cell_of_one Y1.out
 rw [hn1, hw2] at LA
 rw [hn1]
 have HNL := Lib.hid hn1
 clear hl1 hb1 e1 e2 hn1
 have hln : n1 ≤ 900 := by have := HLN.out; rw [HNL.out] at this; exact this
 have X3 := Lib.hid (heap_alloc_new w2 (.cells #[.slice none 0 0] 47))
 go_wp2
 clear hw2 f5 f6 g5
 go_loopw [6] (fun i wr => ∃ (k : Nat) (lv : Value) (m : Nat), k ≤ n1 ∧ i = .int .i64 (k : Int) ∧ LoopW (w2.alloc (.cells #[.slice none 0 0] 47)) wr w2.heap.size lv m (putS (qs.take k) bys)) (fun i _ => n1 - (intOf i).toNat)
 case atStart => exact ⟨0, _, 0, by omega, rfl, ⟨World.grownBy.refl _ _, X3.out, ⟨rfl, Or.inl ⟨rfl, rfl⟩⟩⟩⟩
 case round =>
  obtain ⟨k, lv, m, hk, rfl, hw⟩ := hrel
  have HW := Lib.hid hw
  have hwz := hw.grown.size
  simp at hwz
  have f0 := cell_of_one hw.cell
  have f3 := free_of_one hw.cell
  have hblk : ∀ p, p < w2.heap.size → wr.heap[p]? = w2.heap[p]? := fun p hp => (hw.grown.block p (by simp; omega) (by simp; omega)).trans (Below.heap_alloc _ _ _ hp)
  have c9 := cell_of_one ((hblk w.heap.size (by omega)).trans Y1.out)
  by_cases hlt : k < n1
  ·obtain ⟨b, o, hA1, hbB, hcell⟩ := LA.out.2.1 (by rw [HNL.out]; omega)
   subst hA1
   have hbc : ∀ a : Addr, a.block < w2.heap.size → wr.cell? a = w2.cell? a := fun a ha => World.cell?_of_block (hblk _ ha)
   have hkq : k < qs.length := by rw [HNL.out]; exact hlt
   have c0 := (hbc ⟨b, o + k * 2, none⟩ hbB).trans (hcell k hkq).1
   have c1 := (hbc ⟨b, o + k * 2 + 1, none⟩ hbB).trans (hcell k hkq).2
   have hok := HOK.out (qs.getD k (0, 0)) (by rw [List.getD_eq_getElem?_getD, List.getElem?_eq_getElem hkq]; exact List.getElem_mem hkq)
   have hpt := putS_take (bys := bys) hkq
   have hml : m = (putS (qs.take k) bys).length := by
    have := hw.row.1
    rw [cells_length] at this
    omega
   have hm81 : m ≤ 810000 := by rw [hml]; exact putS_at H9.out k (by omega)
   obtain ⟨vx, hx⟩ : ∃ x, x = (qs.getD k (0, 0)).1 := ⟨_, rfl⟩
   obtain ⟨vy, hy⟩ : ∃ y, y = (qs.getD k (0, 0)).2 := ⟨_, rfl⟩
   have hxy : qs.getD k (0, 0) = (vx, vy) := by rw [hx, hy]
   rw [hxy] at hpt hok
   rw [← hx] at c0
   rw [← hy] at c1
   unfold okPart at hok
   obtain ⟨k0, k1, k2, k3⟩ := hok
   simp only at k0 k1 k2 k3
   obtain ⟨parts, hparts⟩ : ∃ l, putS (qs.take k) bys = l := ⟨_, rfl⟩
   rw [hparts] at hpt HW
   have HPT := Lib.hid hpt
   have Hrw : Hid (wr.ownsRow (w2.alloc (.cells #[.slice none 0 0] 47)).heap.size 95 2 lv m (cells parts)) := HW.out.row
   have ag : lv.ownBlock ≠ some w2.heap.size := fun e => by have := (Hrw.out.lt _ e).1; simp at this; omega
   have AG := Lib.hid ag
   have hbw : b < wr.heap.size := by omega
   have g1 : w2.heap.size < wr.heap.size := by omega
   have hww : w.heap.size < wr.heap.size := by omega
   have HLT : Hid (∀ p, lv.ownBlock = some p → p < wr.heap.size) := fun p e => (Hrw.out.lt _ e).2
   have HBLK := Lib.hid hblk
   have q0 : (0 : Int) ≤ (k : Int) := by omega
   have q1 : (k : Int) < (n1 : Int) := by omega
   clear hblk hbc hpt hx hy hxy hw ag hkq hcell hml hparts
   have hn2 := two_new wr (.int .i64 vx) (.int .i64 vy) 95
   by_cases t1 : vx = 0
   ·subst t1
    have hr : raiseS bys (0, vy) = [(0, vy)] := raise_nil (forVar_zero bys)
    rw [hr] at HPT
    clear hr
    have hnews := two_allocs wr (.cells #[.int .i64 0, .int .i64 vy] 95) (.cells #[.int .i64 0, .int .i64 vy] 95)
    have hb4 : Below wr.heap.size wr ((wr.alloc (.cells #[.int .i64 0, .int .i64 vy] 95)).alloc (.cells #[.int .i64 0, .int .i64 vy] 95)) := ((Below.refl _ _).alloc (Nat.le_refl _) _).alloc (by simp) _
    have HB4 := Lib.hid hb4
    have HNW := Lib.hid hnews.2.1
    clear hb4 hnews
    go_wp2_with (at_builtin; refine wpList_append_lies _ rfl _ _ 45 rfl (w2.alloc (.cells #[.slice none 0 0] 47)).heap.size 95 i0 _ 2 16 Tryz.underlying45 hi hz0 hz1 hz2 rfl (by omega) lv m (cells parts) rfl ((Hrw.out.alloc _).alloc _) ⟨wr.heap.size + 1, 0, none⟩ 1 1 [.int .i64 0, .int .i64 vy] rfl rfl (World.news_of_block (cs := #[.int .i64 0, .int .i64 vy]) (t := 95) (fr := (0, 0)) HNW.out) (by simp [Value.oneCell']) (by omega) (by unfold maxLen; omega) (by omega) (by simp; omega) _ rfl ?_)
    intro gg cap w5 hown1 hgrow hat hlt1
    obtain ⟨hL, HF0, _⟩ := loop_app (news := [(0, vy)]) HW.out (by simp) HB4.out (by rw [World.size_alloc]; exact hown1) hgrow
    have fL := cell_of_one hL
    have fF := free_of_one hL
    have HF := Lib.hid HF0
    clear hown1 hgrow hat hlt1 HF0 hL
    go_wp2
    go_roundw
    case rel => exact ⟨k + 1, _, _, by omega, by go_num, by rw [HPT.out]; exact HF.out⟩
    case measure => simp [intOf]; omega
   ·have tz : (vx == 0) = false := by simpa using t1
    obtain ⟨j, hj⟩ : ∃ j : Nat, vx = (j : Int) + 1 := ⟨(vx - 1).toNat, by omega⟩
    subst hj
    have e2n := two_allocs wr (.cells #[.int .i64 ((j : Int) + 1), .int .i64 vy] 95) (.cells #[.slice none 0 0] 47)
    have hb4 : Below wr.heap.size wr ((wr.alloc (.cells #[.int .i64 ((j : Int) + 1), .int .i64 vy] 95)).alloc (.cells #[.slice none 0 0] 47)) := ((Below.refl _ _).alloc (Nat.le_refl _) _).alloc (by simp) _
    have HB4 := Lib.hid hb4
    have E2 := Lib.hid e2n
    clear hb4 e2n
    go_upto_region 10 with (fail)
    obtain ⟨w4, hw4⟩ : ∃ w4, (wr.alloc (.cells #[.int .i64 ((j : Int) + 1), .int .i64 vy] 95)).alloc (.cells #[.slice none 0 0] 47) = w4 := ⟨_, rfl⟩
    rw [hw4] at HB4 E2
    rw [hw4]
    have s4 : wr.heap.size + 2 ≤ w4.heap.size := by rw [← hw4]; simp
    have Z1 : Hid (w4.heap[wr.heap.size]? = some (.cells #[.int .i64 ((j : Int) + 1), .int .i64 vy] 95 (0, 0))) := E2.out.1
    have Z2 : Hid (w4.heap[wr.heap.size + 1]? = some (.cells #[.slice none 0 0] 47 (0, 0))) := E2.out.2.1
    clear hw4 E2 hn2
    obtain ⟨xs, hxs⟩ : ∃ l, forVar bys ((j : Int) + 1) = l := ⟨_, rfl⟩
    have HXS := Lib.hid hxs
    have d1 := cell_of_row _ _ 0 _ _ (0, 0) Z1.out
    have d2 := cell_of_row _ _ 1 _ _ (0, 0) Z1.out
    have d3 := cell_of_one Z2.out
    have d4 := free_of_one Z2.out
    have hgw4 : w2.heap.size < w4.heap.size := by omega
    have e0 := (HB4.out.cell (p := ⟨w2.heap.size, 0, none⟩) g1).trans f0
    have e3 := (HB4.out.frozen (p := ⟨w2.heap.size, 0, none⟩) g1).trans f3
    have HLW4 := Lib.hid (HW.out.keep (by simp) HB4.out)
    by_cases t2 : (j : Int) + 1 ≤ (bys.length : Int)
    ·have hjl : j < bys.length := by omega
     obtain ⟨b3, o3, hA3, hb3, hc3⟩ := HBY.out (by omega)
     subst hA3
     obtain ⟨Aj, cj, y0, y1, y2, _⟩ := hc3 j hjl
     have hb3w : b3 < w2.heap.size := by omega
     have c4 : w4.cell? ⟨b3, o3 + j, none⟩ = some (.slice Aj (bys.getD j []).length cj) := (HB4.out.cell (by show b3 < wr.heap.size; omega)).trans ((World.cell?_of_block (a := ⟨b3, o3 + j, none⟩) (HBLK.out b3 hb3w)).trans ((BA.out.cell hb3).trans y0))
     have hj9 : (bys.getD j []).length ≤ 900 := by
      rw [List.getD_eq_getElem?_getD, List.getElem?_eq_getElem hjl]
      exact H9.out _ (List.getElem_mem hjl)
     have B04 : Below w.heap.size w w4 := BA.out.trans (⟨HW.out.grown.os.trans rfl, HW.out.grown.tape.trans rfl, HW.out.grown.output.trans rfl, by omega, fun p hp => HBLK.out p (by omega)⟩ : Below w.heap.size w2 wr) |>.trans (HB4.out.mono (by omega))
     have hfx : xs = nfA (bys.getD j []) := by
      rw [← hxs]
      unfold forVar
      rw [if_pos ⟨by omega, t2⟩, show ((j : Int) + 1 - 1).toNat = j by omega]
     have HNJ := Lib.hid (rnorm_new Aj (bys.getD j []) cj w4 (by omega) ((y1.below B04).more B04.size) y2)
     rw [← hfx] at HNJ
     obtain ⟨lj, hlj⟩ : ∃ n, (bys.getD j []).length = n := ⟨_, rfl⟩
     rw [hlj] at HNJ c4 hj9
     have hjw : IntKind.i64.wrap ((j : Int) + 1 - 1) = (j : Int) := by rw [show (j : Int) + 1 - 1 = (j : Int) by omega]; exact IntWalk.i64_in _ (by omega)
     have hj0 : (0 : Int) ≤ (j : Int) := by omega
     have hj1 : (j : Int) < (bys.length : Int) := by omega
     have hb3x : b3 < w4.heap.size := by omega
     clear hc3 y0 y1 y2 hfx hlj
     go_wp2_with (fail)
     refine HNJ.out.mono ?_
     rintro e w5 ⟨Ax, cx, rfl, hlx, hb5, hnew⟩
     obtain ⟨nx, hnx⟩ : ∃ n, xs.length = n := ⟨_, rfl⟩
     have z1 := (hb5.block wr.heap.size (by omega)).trans Z1.out
     have z2 := (hb5.block (wr.heap.size + 1) (by omega)).trans Z2.out
     have f7 := cell_of_one z2
     have f8 := free_of_one z2
     obtain ⟨w6, hw6⟩ : ∃ w6, w5.setCell ⟨wr.heap.size + 1, 0, none⟩ (.slice Ax nx cx) = w6 := ⟨_, rfl⟩
     have LX := Lib.hid (hlx.box (u := .slice Ax nx cx) z2)
     have s6 : w4.heap.size ≤ w6.heap.size := by rw [← hw6]; exact Nat.le_trans hb5.size (set_size _ _ _)
     have V1 : Hid (w6.heap[wr.heap.size]? = some (.cells #[.int .i64 ((j : Int) + 1), .int .i64 vy] 95 (0, 0))) := by rw [← hw6]; exact (Below.heap_setCell w5 _ _ _ (by show wr.heap.size ≠ wr.heap.size + 1; omega)).trans z1
     have V2 : Hid (w6.heap[wr.heap.size + 1]? = some (.cells #[.slice Ax nx cx] 47 (0, 0))) := by rw [← hw6]; exact (heap_setCell_same w5 (wr.heap.size + 1) 0 _ _ (.slice Ax nx cx) z2).trans (by simp)
     have B46 : Hid (Below wr.heap.size wr w6) := by rw [← hw6]; exact (HB4.out.trans (hb5.mono (by omega))).setCell (by show wr.heap.size ≤ wr.heap.size + 1; omega) _
     have HLW6 := Lib.hid (HW.out.keep (by simp) B46.out)
     have HNEW := Lib.hid hnew
     rw [hnx] at LX
     rw [hw6] at LX
     rw [hnx]
     have hnx0 := Lib.hid hnx
     have h6c : w6.cell? ⟨wr.heap.size + 1, 0, none⟩ = some (.slice Ax nx cx) := cell_of_one V2.out
     have h6p : w6.cell? ⟨wr.heap.size, 1, none⟩ = some (.int .i64 vy) := by have := cell_of_row _ _ 1 _ _ (0, 0) V1.out; simpa using this
     have h6o := (B46.out.cell (p := ⟨w2.heap.size, 0, none⟩) g1).trans f0
     have h6f := (B46.out.frozen (p := ⟨w2.heap.size, 0, none⟩) g1).trans f3
     clear hlx hb5 z1 z2 hnew hnx d1 d2 d3 d4 e0 e3 c4
     by_cases hn0 : nx = 0
     ·subst hn0
      have hxe : xs = [] := List.eq_nil_of_length_eq_zero hnx0.out
      have HROW := Lib.hid HLW6.out.row
      have HNW := Lib.hid (heap_alloc_new w6 (.cells #[.int .i64 0, .int .i64 vy] 95))
      have HB6 : Hid (Below w6.heap.size w6 (w6.alloc (.cells #[.int .i64 0, .int .i64 vy] 95))) := (Below.refl _ _).alloc (Nat.le_refl _) _
      have HLW := HLW6
      go_wp2_with (at_builtin; refine wpList_append_lies _ rfl _ _ 45 rfl (w2.alloc (.cells #[.slice none 0 0] 47)).heap.size 95 i0 _ 2 16 Tryz.underlying45 hi hz0 hz1 hz2 rfl (by omega) lv m (cells parts) rfl (HROW.out.alloc _) ⟨w6.heap.size, 0, none⟩ 1 1 [.int .i64 0, .int .i64 vy] rfl rfl (World.news_of_block (cs := #[.int .i64 0, .int .i64 vy]) (t := 95) (fr := (0, 0)) HNW.out) (by simp [Value.oneCell']) (by omega) (by unfold maxLen; omega) (by omega) (by simp; omega) _ rfl ?_)
      intro gg cap w7 hown1 hgrow hat hlt1
      obtain ⟨hL, HF0, HK0⟩ := loop_app (news := [(0, vy)]) HLW.out (by simp) HB6.out (by rw [World.size_alloc]; exact hown1) hgrow
      have fL := cell_of_one hL
      have fF := free_of_one hL
      have hx8 : (w7.setCell ⟨w2.heap.size, 0, none⟩ (.slice (some ⟨gg, 0, none⟩) (m + 1) cap)).cell? ⟨wr.heap.size + 1, 0, none⟩ = some (.slice Ax 0 cx) := cell_of_one ((HK0 (wr.heap.size + 1) (by rw [World.size_alloc]; omega) (by omega) (fun e => by have := HLT.out _ e; omega)).trans ((HB6.out.block _ (by omega)).trans V2.out))
      obtain ⟨w8, hw8⟩ : ∃ w8, w7.setCell ⟨w2.heap.size, 0, none⟩ (.slice (some ⟨gg, 0, none⟩) (m + 1) cap) = w8 := ⟨_, rfl⟩
      have HF : Hid (LoopW (w2.alloc (.cells #[.slice none 0 0] 47)) w8 w2.heap.size (.slice (some ⟨gg, 0, none⟩) (m + 1) cap) (m + 1) (putS (qs.take (k + 1)) bys)) := by
       rw [HPT.out, raise_nil (by rw [hxs]; exact hxe), ← hw8]
       exact HF0
      rw [hw8] at hx8
      clear hown1 hgrow hat hlt1 HF0 HK0 hL hxe hxs
      go_wp2
      clear hw8
      go_loopw [9] (fun i wq => i = .int .i64 0 ∧ wq = w8) (fun _ _ => 0)
      case atStart => exact ⟨rfl, rfl⟩
      case round =>
       obtain ⟨rfl, rfl⟩ := hrel
       go_wp2
       go_roundw
       case rel => exact ⟨k + 1, _, _, by omega, by go_num, HF.out⟩
       case measure => simp [intOf]; omega
     ·have hxe : xs ≠ [] := fun e => hn0 (by rw [← hnx0.out, e]; rfl)
      have hnz : ((nx : Int) == 0) = false := by simpa using hn0
      have hxp : 0 < xs.length := by rw [hnx0.out]; omega
      obtain ⟨bx, ox, hAx, hbx, hxc⟩ := LX.out.2.1 hxp
      have hbxn : wr.heap.size + 2 ≤ bx := by have := HNEW.out _ hAx; simp only at this; omega
      subst hAx
      have HXC := Lib.hid hxc
      have HXOK : Hid (∀ p ∈ xs, okPart p) := by rw [← hxs]; exact fun p hp => by unfold forVar at hp; split at hp; exact nfA_ok _ p hp; simp at hp
      have HX9 : Hid (xs.length ≤ 900) := by
       have : nx ≤ 900 := by
        rw [← hnx0.out, ← hxs]
        unfold forVar
        split
        ·refine Nat.le_trans (nfA_len _) ?_
         rw [List.getD_eq_getElem?_getD, List.getElem?_eq_getElem (by omega)]
         exact H9.out _ (List.getElem_mem _)
        ·simp
       unfold Hid
       rw [hnx0.out]
       exact this
      have HRS : Hid (putS (qs.take (k + 1)) bys = parts ++ xs.map (upD vy)) := by rw [HPT.out, raise_some (by rw [hxs]; exact hxe), hxs]; rfl
      have HST := Lib.hid (show ∀ p, p < w6.heap.size → wr.heap.size ≤ p → w6.heap[p]? = w6.heap[p]? ∧ lv.ownBlock ≠ some p from fun p _ hp => ⟨rfl, fun e => by have := HLT.out _ e; omega⟩)
      obtain ⟨wo, hwo⟩ : ∃ wo, wo = wr := ⟨_, rfl⟩
      subst hwo
      clear hxc hxe hxs
      go_wp2
      clear hw6
      go_loopw [9] (fun i wq => ∃ (jj : Nat) (lv1 : Value), jj ≤ nx ∧ i = .int .i64 (jj : Int) ∧ LoopW (w2.alloc (.cells #[.slice none 0 0] 47)) wq w2.heap.size lv1 (m + jj) (parts ++ (xs.map (upD vy)).take jj) ∧ w6.heap.size ≤ wq.heap.size ∧ ∀ p, p < w6.heap.size → wo.heap.size ≤ p → wq.heap[p]? = w6.heap[p]? ∧ lv1.ownBlock ≠ some p) (fun i _ => nx - (intOf i).toNat)
      case atStart => exact ⟨0, lv, Nat.zero_le _, rfl, by simpa using HLW6.out, Nat.le_refl _, fun p h1 h2 => ⟨rfl, (HST.out p h1 h2).2⟩⟩
      case round =>
       obtain ⟨jj, lv1, hjj, rfl, hw1, hs6, hK⟩ := hrel
       have HW1 := Lib.hid hw1
       have f0 := cell_of_one hw1.cell
       have f3 := free_of_one hw1.cell
       have cX := cell_of_one ((hK (wo.heap.size + 1) (by omega) (by omega)).1.trans V2.out)
       by_cases hltj : jj < nx
       ·have hjx : jj < xs.length := by rw [hnx0.out]; exact hltj
        have hxb : ∀ a : Addr, a.block = bx → wr.cell? a = w6.cell? a := fun a ha => World.cell?_of_block (by rw [ha]; exact (hK bx hbx (by omega)).1)
        have cu := (hxb ⟨bx, ox + jj * 2, none⟩ rfl).trans (HXC.out jj hjx).1
        have cv := (hxb ⟨bx, ox + jj * 2 + 1, none⟩ rfl).trans (HXC.out jj hjx).2
        have cP : wr.cell? ⟨wo.heap.size, 0 + 1, none⟩ = some (.int .i64 vy) := (World.cell?_of_block (a := ⟨wo.heap.size, 0 + 1, none⟩) (hK wo.heap.size (by omega) (Nat.le_refl _)).1).trans h6p
        have hokx := HXOK.out (xs.getD jj (0, 0)) (by rw [List.getD_eq_getElem?_getD, List.getElem?_eq_getElem hjx]; exact List.getElem_mem hjx)
        obtain ⟨vu, hu⟩ : ∃ x, x = (xs.getD jj (0, 0)).1 := ⟨_, rfl⟩
        obtain ⟨vv, hv⟩ : ∃ y, y = (xs.getD jj (0, 0)).2 := ⟨_, rfl⟩
        have hp : (xs.map (upD vy))[jj]? = some (vu, vv + vy) := by
         rw [List.getElem?_map, List.getElem?_eq_getElem hjx, hu, hv, List.getD_eq_getElem?_getD, List.getElem?_eq_getElem hjx]
         rfl
        have hv0 : 0 ≤ vv ∧ vv ≤ 1048576 := by rw [hv]; exact ⟨hokx.2.1, hokx.2.2.2⟩
        rw [← hu] at cu
        rw [← hv] at cv
        obtain ⟨z0, z1⟩ := hv0
        have HP := Lib.hid (take_snoc_ hp)
        obtain ⟨parts1, hp1⟩ : ∃ l, parts ++ (xs.map (upD vy)).take jj = l := ⟨_, rfl⟩
        have HP1 : Hid (parts ++ (xs.map (upD vy)).take (jj + 1) = parts1 ++ [(vu, vv + vy)]) := by rw [HP.out, ← hp1, List.append_assoc]; rfl
        rw [hp1] at HW1
        have j3 : IntKind.i64.wrap (vv + vy) = vv + vy := IntWalk.i64_in _ (by omega)
        have j0 : (0 : Int) ≤ (jj : Int) := by omega
        have j1 : (jj : Int) < (nx : Int) := by omega
        have i1 : w2.heap.size < wr.heap.size := by omega
        have i2 : wo.heap.size + 1 < wr.heap.size := by omega
        have i3 : bx < wr.heap.size := by omega
        have i4 : wo.heap.size < wr.heap.size := by omega
        have HKK := Lib.hid hK
        have hnx9 : nx ≤ 900 := by have := HX9.out; rw [hnx0.out] at this; exact this
        have hS : Below wr.heap.size wr wr.drew := (Below.refl _ _).drew
        clear hw1 hxb hokx hu hv hp hp1 hK
        go_upto_region 17 with (fail)
        refine wp_region_tail 19 (fun w' => Below wr.heap.size wr w') BR [(Is (.pointer (some ⟨w2.heap.size, 0, none⟩))), (Is (lv1 : Value)), (Is (.pointer (some ⟨wo.heap.size + 1, 0, none⟩))), (Is (.slice (some ⟨bx, ox, none⟩) nx cx)), (Is (.int .i64 (jj : Int))), (Is (.pointer (some ⟨bx, ox + jj * 2, none⟩))), (Is (.pointer (some ⟨bx, ox + jj * 2, none⟩))), (Is (.int .i64 vu)), (Is (.pointer (some ⟨wo.heap.size + 1, 0, none⟩))), (Is (.slice (some ⟨bx, ox, none⟩) nx cx)), (Is (.int .i64 (jj : Int))), (Is (.pointer (some ⟨bx, ox + jj * 2, none⟩))), (Is (.pointer (some ⟨bx, ox + jj * 2 + 1, none⟩))), (Is (.int .i64 vv)), (Is (.pointer (some ⟨wo.heap.size, 0 + 1, none⟩))), (Is (.int .i64 vy)), (Is (.int .i64 (vv + vy))), (Is (.agg #[.int .i64 vu, .int .i64 (vv + vy)])), (fun (x : Value) (w : World) => ∃ g, x = .slice (some ⟨g, 0, none⟩) 1 1 ∧ wr.heap.size ≤ g ∧ w.heap[g]? = some (.cells #[.int .i64 vu, .int .i64 (vv + vy)] 95 (0, 0)))] [⟨some 65, .fieldAddr 47 (.tmp 5) 0, none, []⟩, ⟨some 66, .load 45 (.tmp 65), none, [(65, 0)]⟩, ⟨some 67, .fieldAddr 47 (.tmp 8) 0, none, []⟩, ⟨some 68, .load 45 (.tmp 67), none, [(67, 2)]⟩, ⟨some 69, .move (.tmp 9), none, []⟩, ⟨some 70, .indexAddr 45 (.tmp 68) (.tmp 69), none, [(68, 3), (69, 4)]⟩, ⟨some 71, .fieldAddr 95 (.tmp 70) 0, none, [(70, 5)]⟩, ⟨some 72, .load 3 (.tmp 71), none, [(71, 6)]⟩, ⟨some 73, .fieldAddr 47 (.tmp 8) 0, none, []⟩, ⟨some 74, .load 45 (.tmp 73), none, [(73, 8)]⟩, ⟨some 75, .move (.tmp 9), none, []⟩, ⟨some 76, .indexAddr 45 (.tmp 74) (.tmp 75), none, [(74, 9), (75, 10)]⟩, ⟨some 77, .fieldAddr 95 (.tmp 76) 1, none, [(76, 11)]⟩, ⟨some 78, .load 3 (.tmp 77), none, [(77, 12)]⟩, ⟨some 79, .fieldAddr 95 (.tmp 7) 1, none, []⟩, ⟨some 80, .load 3 (.tmp 79), none, [(79, 14)]⟩, ⟨some 81, .binOp .add 3 (.tmp 78) (.tmp 80) 3, none, [(78, 13), (80, 15)]⟩, ⟨some 82, .build 95 #[(0, .tmp 72), (1, .tmp 81)], none, [(72, 7), (81, 16)]⟩, ⟨some 83, .buildSlice 45 1 #[(0, .tmp 82)], none, [(82, 17)]⟩] [some 65, some 66, some 67, some 68, some 69, some 70, some 71, some 72, some 73, some 74, some 75, some 76, some 77, some 78, some 79, some 80, some 81, some 82, some 83] [] [] (by kernel_rfl) (by kernel_rfl) (by kernel_rfl) (by kernel_rfl) (by kernel_rfl) (by kernel_rfl) (by kernel_rfl) (by kernel_rfl) ?hrun ?hold ?hS ?hmono ?hsteps ?hfin
        case hrun => exact fun p hp => by cases hp
        case hold => exact fun p hp => by cases hp
        case hS => exact hS
        case hmono =>
         iterate 18 refine .cons (fun x w1 w2 _ _ _ hx => hx) ?_
         refine .cons (fun x w1 w2 _ _ hR hx => ?_) ?_
         ·obtain ⟨g, h1, h2, h3⟩ := hx; exact ⟨g, h1, h2, (hR.block g (heap_some_lt h3)).trans h3⟩
         exact .nil
        case hsteps =>
         refine .cons (Is (.pointer (some ⟨w2.heap.size, 0, none⟩))) [] rfl rfl (fun oq hop _ wq hQS => ?_) ?_
         ·exact .fieldAddr hop (p := (.pointer (some ⟨w2.heap.size, 0, none⟩))) (by kernel_rfl) (parts_addr) (by kernel_rfl) hQS (.refl _ _) rfl
         refine .cons (Is (lv1 : Value)) _ rfl rfl (fun oq hop _ wq hQS => ?_) ?_
         ·refine .more_eq (.pointer (some ⟨w2.heap.size, 0, none⟩)) ?_
          exact .load hop (p := (.pointer (some ⟨w2.heap.size, 0, none⟩))) (by kernel_rfl) (load_lv ((hQS.cell (p := ⟨w2.heap.size, 0, none⟩) i1).trans f0)) (by kernel_rfl) hQS (.refl _ _) rfl
         refine .cons (Is (.pointer (some ⟨wo.heap.size + 1, 0, none⟩))) [] rfl rfl (fun oq hop _ wq hQS => ?_) ?_
         ·exact .fieldAddr hop (p := (.pointer (some ⟨wo.heap.size + 1, 0, none⟩))) (by kernel_rfl) (parts_addr) (by kernel_rfl) hQS (.refl _ _) rfl
         refine .cons (Is (.slice (some ⟨bx, ox, none⟩) nx cx)) _ rfl rfl (fun oq hop _ wq hQS => ?_) ?_
         ·refine .more_eq (.pointer (some ⟨wo.heap.size + 1, 0, none⟩)) ?_
          exact .load hop (p := (.pointer (some ⟨wo.heap.size + 1, 0, none⟩))) (by kernel_rfl) (load_parts ((hQS.cell (p := ⟨wo.heap.size + 1, 0, none⟩) i2).trans cX)) (by kernel_rfl) hQS (.refl _ _) rfl
         refine .cons (Is (.int .i64 (jj : Int))) [] rfl rfl (fun oq hop _ wq hQS => ?_) ?_
         ·exact .move hop (v := (.int .i64 (jj : Int))) (by kernel_rfl) (by kernel_rfl) hQS (.refl _ _) rfl
         refine .cons (Is (.pointer (some ⟨bx, ox + jj * 2, none⟩))) _ rfl rfl (fun oq hop _ wq hQS => ?_) ?_
         ·refine .more_eq (.slice (some ⟨bx, ox, none⟩) nx cx) (.more_eq (.int .i64 (jj : Int)) ?_)
          exact .indexAddr hop (p := (.slice (some ⟨bx, ox, none⟩) nx cx)) (q := (.int .i64 (jj : Int))) (by kernel_rfl) (by kernel_rfl) (part_addr j0 j1) (by kernel_rfl) hQS (.refl _ _) rfl
         refine .cons (Is (.pointer (some ⟨bx, ox + jj * 2, none⟩))) _ rfl rfl (fun oq hop _ wq hQS => ?_) ?_
         ·refine .more_eq (.pointer (some ⟨bx, ox + jj * 2, none⟩)) ?_
          exact .fieldAddr hop (p := (.pointer (some ⟨bx, ox + jj * 2, none⟩))) (by kernel_rfl) (var_addr) (by kernel_rfl) hQS (.refl _ _) rfl
         refine .cons (Is (.int .i64 vu)) _ rfl rfl (fun oq hop _ wq hQS => ?_) ?_
         ·refine .more_eq (.pointer (some ⟨bx, ox + jj * 2, none⟩)) ?_
          exact .load hop (p := (.pointer (some ⟨bx, ox + jj * 2, none⟩))) (by kernel_rfl) (load_int ((hQS.cell (p := ⟨bx, ox + jj * 2, none⟩) i3).trans cu)) (by kernel_rfl) hQS (.refl _ _) rfl
         refine .cons (Is (.pointer (some ⟨wo.heap.size + 1, 0, none⟩))) [] rfl rfl (fun oq hop _ wq hQS => ?_) ?_
         ·exact .fieldAddr hop (p := (.pointer (some ⟨wo.heap.size + 1, 0, none⟩))) (by kernel_rfl) (parts_addr) (by kernel_rfl) hQS (.refl _ _) rfl
         refine .cons (Is (.slice (some ⟨bx, ox, none⟩) nx cx)) _ rfl rfl (fun oq hop _ wq hQS => ?_) ?_
         ·refine .more_eq (.pointer (some ⟨wo.heap.size + 1, 0, none⟩)) ?_
          exact .load hop (p := (.pointer (some ⟨wo.heap.size + 1, 0, none⟩))) (by kernel_rfl) (load_parts ((hQS.cell (p := ⟨wo.heap.size + 1, 0, none⟩) i2).trans cX)) (by kernel_rfl) hQS (.refl _ _) rfl
         refine .cons (Is (.int .i64 (jj : Int))) [] rfl rfl (fun oq hop _ wq hQS => ?_) ?_
         ·exact .move hop (v := (.int .i64 (jj : Int))) (by kernel_rfl) (by kernel_rfl) hQS (.refl _ _) rfl
         refine .cons (Is (.pointer (some ⟨bx, ox + jj * 2, none⟩))) _ rfl rfl (fun oq hop _ wq hQS => ?_) ?_
         ·refine .more_eq (.slice (some ⟨bx, ox, none⟩) nx cx) (.more_eq (.int .i64 (jj : Int)) ?_)
          exact .indexAddr hop (p := (.slice (some ⟨bx, ox, none⟩) nx cx)) (q := (.int .i64 (jj : Int))) (by kernel_rfl) (by kernel_rfl) (part_addr j0 j1) (by kernel_rfl) hQS (.refl _ _) rfl
         refine .cons (Is (.pointer (some ⟨bx, ox + jj * 2 + 1, none⟩))) _ rfl rfl (fun oq hop _ wq hQS => ?_) ?_
         ·refine .more_eq (.pointer (some ⟨bx, ox + jj * 2, none⟩)) ?_
          exact .fieldAddr hop (p := (.pointer (some ⟨bx, ox + jj * 2, none⟩))) (by kernel_rfl) (plus_addr) (by kernel_rfl) hQS (.refl _ _) rfl
         refine .cons (Is (.int .i64 vv)) _ rfl rfl (fun oq hop _ wq hQS => ?_) ?_
         ·refine .more_eq (.pointer (some ⟨bx, ox + jj * 2 + 1, none⟩)) ?_
          exact .load hop (p := (.pointer (some ⟨bx, ox + jj * 2 + 1, none⟩))) (by kernel_rfl) (load_int ((hQS.cell (p := ⟨bx, ox + jj * 2 + 1, none⟩) i3).trans cv)) (by kernel_rfl) hQS (.refl _ _) rfl
         refine .cons (Is (.pointer (some ⟨wo.heap.size, 0 + 1, none⟩))) [] rfl rfl (fun oq hop _ wq hQS => ?_) ?_
         ·exact .fieldAddr hop (p := (.pointer (some ⟨wo.heap.size, 0, none⟩))) (by kernel_rfl) (plus_addr) (by kernel_rfl) hQS (.refl _ _) rfl
         refine .cons (Is (.int .i64 vy)) _ rfl rfl (fun oq hop _ wq hQS => ?_) ?_
         ·refine .more_eq (.pointer (some ⟨wo.heap.size, 0 + 1, none⟩)) ?_
          exact .load hop (p := (.pointer (some ⟨wo.heap.size, 0 + 1, none⟩))) (by kernel_rfl) (load_int ((hQS.cell (p := ⟨wo.heap.size, 0 + 1, none⟩) i4).trans cP)) (by kernel_rfl) hQS (.refl _ _) rfl
         refine .cons (Is (.int .i64 (vv + vy))) _ rfl rfl (fun oq hop _ wq hQS => ?_) ?_
         ·refine .more_eq (.int .i64 vv) (.more_eq (.int .i64 vy) ?_)
          exact .bin hop (vx := (.int .i64 vv)) (vy := (.int .i64 vy)) (by kernel_rfl) (by kernel_rfl) (add_int _ _ _ _ _ j3) (by kernel_rfl) hQS (.refl _ _) rfl
         refine .cons (Is (.agg #[.int .i64 vu, .int .i64 (vv + vy)])) _ rfl rfl (fun oq hop _ wq hQS => ?_) ?_
         ·refine .more_eq (.int .i64 vu) (.more_eq (.int .i64 (vv + vy)) ?_)
          exact .build hop (vs := [(0, .int .i64 vu), (1, .int .i64 (vv + vy))]) (by kernel_rfl) (build_part _ _ _) (by kernel_rfl) hQS (.refl _ _) rfl
         refine .cons (fun (x : Value) (w : World) => ∃ g, x = .slice (some ⟨g, 0, none⟩) 1 1 ∧ wr.heap.size ≤ g ∧ w.heap[g]? = some (.cells #[.int .i64 vu, .int .i64 (vv + vy)] 95 (0, 0))) _ rfl rfl (fun oq hop _ wq hQS => ?_) ?_
         ·refine .more_eq (.agg #[.int .i64 vu, .int .i64 (vv + vy)]) ?_
          exact .slice hop (vs := [(0, .agg #[.int .i64 vu, .int .i64 (vv + vy)])]) (by kernel_rfl) (slice_part _ _ _) (by kernel_rfl) (hQS.alloc hQS.size _) ((Below.refl _ _).alloc (Nat.le_refl _) _) ⟨_, rfl, hQS.size, heap_alloc_new wq _⟩
         exact .nil
        case hfin =>
         intro wf hFS
         refine .more fun _ _ => ?_
         refine .more fun x66 h66 => ?_
         iterate 16 refine .more fun _ _ => ?_
         refine .more fun x83 h83 => ?_
         refine .done ?_
         obtain rfl : x66 = lv1 := h66
         obtain ⟨g83, rfl, hg83, hl83⟩ := h83
         intro _
         simp only [Act.put, List.setIfInBounds_toArray, List.set_cons_zero, List.set_cons_succ, List.drop_succ_cons, List.drop_zero]
         have hwf := hFS.size
         have hrow := own_kept (HW1.out.row) hFS
         refine wpList_append_lies wf rfl _ _ 45 rfl (w2.alloc (.cells #[.slice none 0 0] 47)).heap.size 95 i0 _ 2 16 Tryz.underlying45 hi hz0 hz1 hz2 rfl (by omega) x66 (m + jj) (cells parts1) rfl hrow
           ⟨g83, 0, none⟩ 1 1 [.int .i64 vu, .int .i64 (vv + vy)] rfl rfl (World.news_of_block (cs := #[.int .i64 vu, .int .i64 (vv + vy)]) (t := 95) (fr := (0, 0)) hl83) (by simp [Value.oneCell'])
           (by omega) (by unfold maxLen; omega) (by omega) (by simp; omega) wf.heap.size rfl ?_
         intro gg cap w7 hown1 hgrow hat hlt1
         obtain ⟨hL, HF0, HK0⟩ := loop_app (news := [(vu, vv + vy)]) HW1.out (by simp) hFS hown1 hgrow
         have fL := cell_of_one hL
         have fF := free_of_one hL
         have HF : Hid (LoopW (w2.alloc (.cells #[.slice none 0 0] 47)) (w7.setCell ⟨w2.heap.size, 0, none⟩ (.slice (some ⟨gg, 0, none⟩) (m + jj + 1) cap)) w2.heap.size (.slice (some ⟨gg, 0, none⟩) (m + jj + 1) cap) (m + (jj + 1)) (parts ++ (xs.map (upD vy)).take (jj + 1))) := by rw [HP1.out]; exact HF0
         have HSZ : Hid (w6.heap.size ≤ (w7.setCell ⟨w2.heap.size, 0, none⟩ (.slice (some ⟨gg, 0, none⟩) (m + jj + 1) cap)).heap.size) := Nat.le_trans hs6 (Nat.le_trans hwf (Nat.le_trans hgrow.size (set_size _ _ _)))
         have HKN : Hid (∀ p, p < w6.heap.size → wo.heap.size ≤ p → (w7.setCell ⟨w2.heap.size, 0, none⟩ (.slice (some ⟨gg, 0, none⟩) (m + jj + 1) cap)).heap[p]? = w6.heap[p]? ∧ (Value.slice (some ⟨gg, 0, none⟩) (m + jj + 1) cap).ownBlock ≠ some p) := fun p hp hp2 => by
          obtain ⟨k5, k6⟩ := HKK.out p hp hp2
          refine ⟨(HK0 p (by omega) (by omega) k6).trans ((hFS.block p (by omega)).trans k5), fun e => ?_⟩
          injection e with e
          simp only at e
          rcases hat with h | h
          ·exact k6 (by rw [h, e])
          ·omega
         clear hown1 hgrow hat hlt1 hFS hrow hl83 hL hS HF0 HK0
         go_wp2
         go_roundw
         case rel => exact ⟨jj + 1, _, by omega, by go_num, HF.out, HSZ.out, HKN.out⟩
         case measure => simp [intOf]; omega
       ·obtain rfl : jj = nx := by omega
        have hta : (xs.map (upD vy)).take jj = xs.map (upD vy) := List.take_of_length_le (by rw [List.length_map, hnx0.out]; exact Nat.le_refl _)
        rw [hta, ← HRS.out] at HW1
        clear hw1 hK hta
        go_wp2
        go_roundw
        case rel => exact ⟨k + 1, _, _, by omega, by go_num, HW1.out⟩
        case measure => simp [intOf]; omega
    ·have d9 : decide ((j : Int) + 1 ≤ (bys.length : Int)) = false := by simpa using t2
     have hxe : xs = [] := by
      rw [← hxs]
      unfold forVar
      rw [if_neg (by omega)]
     have HROW := Lib.hid HLW4.out.row
     have HNW := Lib.hid (heap_alloc_new w4 (.cells #[.int .i64 0, .int .i64 vy] 95))
     have HB6 : Hid (Below w4.heap.size w4 (w4.alloc (.cells #[.int .i64 0, .int .i64 vy] 95))) := (Below.refl _ _).alloc (Nat.le_refl _) _
     have HLW := HLW4
     go_wp2_with (at_builtin; refine wpList_append_lies _ rfl _ _ 45 rfl (w2.alloc (.cells #[.slice none 0 0] 47)).heap.size 95 i0 _ 2 16 Tryz.underlying45 hi hz0 hz1 hz2 rfl (by omega) lv m (cells parts) rfl (HROW.out.alloc _) ⟨w4.heap.size, 0, none⟩ 1 1 [.int .i64 0, .int .i64 vy] rfl rfl (World.news_of_block (cs := #[.int .i64 0, .int .i64 vy]) (t := 95) (fr := (0, 0)) HNW.out) (by simp [Value.oneCell']) (by omega) (by unfold maxLen; omega) (by omega) (by simp; omega) _ rfl ?_)
     intro gg cap w7 hown1 hgrow hat hlt1
     obtain ⟨hL, HF0, HK0⟩ := loop_app (news := [(0, vy)]) HLW.out (by simp) HB6.out (by rw [World.size_alloc]; exact hown1) hgrow
     have fL := cell_of_one hL
     have fF := free_of_one hL
     have hx8 : (w7.setCell ⟨w2.heap.size, 0, none⟩ (.slice (some ⟨gg, 0, none⟩) (m + 1) cap)).cell? ⟨wr.heap.size + 1, 0, none⟩ = some (.slice none 0 0) := cell_of_one ((HK0 (wr.heap.size + 1) (by rw [World.size_alloc]; omega) (by omega) (fun e => by have := HLT.out _ e; omega)).trans ((HB6.out.block _ (by omega)).trans Z2.out))
     obtain ⟨w8, hw8⟩ : ∃ w8, w7.setCell ⟨w2.heap.size, 0, none⟩ (.slice (some ⟨gg, 0, none⟩) (m + 1) cap) = w8 := ⟨_, rfl⟩
     have HF : Hid (LoopW (w2.alloc (.cells #[.slice none 0 0] 47)) w8 w2.heap.size (.slice (some ⟨gg, 0, none⟩) (m + 1) cap) (m + 1) (putS (qs.take (k + 1)) bys)) := by
      rw [HPT.out, raise_nil (by rw [hxs]; exact hxe), ← hw8]
      exact HF0
     rw [hw8] at hx8
     clear hown1 hgrow hat hlt1 HF0 HK0 hL hxe hxs
     go_wp2
     clear hw8
     go_loopw [9] (fun i wq => i = .int .i64 0 ∧ wq = w8) (fun _ _ => 0)
     case atStart => exact ⟨rfl, rfl⟩
     case round =>
      obtain ⟨rfl, rfl⟩ := hrel
      go_wp2
      go_roundw
      case rel => exact ⟨k + 1, _, _, by omega, by go_num, HF.out⟩
      case measure => simp [intOf]; omega
  ·obtain rfl : k = n1 := by omega
   have hq : qs.take k = qs := List.take_of_length_le (by rw [HNL.out]; exact Nat.le_refl _)
   obtain ⟨A3, n3, m3, rfl⟩ := own_slice hw.row
   have hrow := hw.row
   have hp8 := putS_at (qs := qs) H9.out k (by omega)
   rw [hq] at hrow hp8
   obtain ⟨qp, hqp⟩ : ∃ l, putS qs bys = l := ⟨_, rfl⟩
   rw [hqp] at hrow hp8
   have HQP := Lib.hid hqp
   have hml : m = qp.length := by
    have := hrow.1
    rw [cells_length] at this
    omega
   subst hml
   obtain ⟨hn3, hl3, hc3⟩ := own_lev hrow
   have HGN := Lib.hid (rnorm_new A3 qp m3 wr (by omega) hl3 hc3)
   rw [← hn3] at HGN
   have e4 := (hblk (w.heap.size + 1) (by omega)).trans Y2.out
   have BR : Hid (Below w.heap.size w wr) := ⟨hw.grown.os.trans (BA.out.os), hw.grown.tape.trans (BA.out.tape), hw.grown.output.trans (BA.out.output), Nat.le_trans (by omega) hwz, fun p hp => (hblk p (by omega)).trans (BA.out.block p hp)⟩
   have HE4 := Lib.hid e4
   have HN3 := Lib.hid hn3
   clear hw hrow hq hl3 hc3 hn3 hblk e4 HW hqp hp8
   go_wp2_with (fail)
   refine HGN.out.mono ?_
   rintro e w5 ⟨A5, m5, rfl, hl5, hb5, hn5'⟩
   obtain ⟨n5, hn5⟩ : ∃ n, (nfA qp).length = n := ⟨_, rfl⟩
   have e5 := (hb5.block (w.heap.size + 1) (by omega)).trans HE4.out
   have f7 := cell_of_one e5
   have f8 := free_of_one e5
   have hs : (w5.setCell ⟨w.heap.size + 1, 0, none⟩ (.slice A5 n5 m5)).cell? ⟨w.heap.size + 1, 0, none⟩ = some (.slice A5 n5 m5) := World.cell?_setCell_same _ _ _ f7
   have HF : Hid (LOutN w (nfA (putS qs bys)) (.returned (.agg #[.slice A5 n5 m5])) (w5.setCell ⟨w.heap.size + 1, 0, none⟩ (.slice A5 n5 m5))) := by
    rw [HQP.out]
    exact ⟨A5, m5, by rw [hn5], hl5.box e5, (BR.out.trans (hb5.mono (by omega))).setCell (by show w.heap.size ≤ w.heap.size + 1; omega) _, fun a e => Nat.le_trans BR.out.size (hn5' a e)⟩
   rw [hn5]
   clear hl5 hb5 hn5 e5 hn5'
   go_wp2
   exact bodyPost_ret (v := .agg #[.slice A5 n5 m5]) (by simp [results, Tryz.results40, go_sem, hs]) rfl HF.out
end Go.Proofs.YtafgmndlbbjphaaGreatDoor
