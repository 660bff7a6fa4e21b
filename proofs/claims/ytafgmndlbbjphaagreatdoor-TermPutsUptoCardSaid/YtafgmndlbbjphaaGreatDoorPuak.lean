/- Laws. -/
import Derived.Test.YtafgmndlbbjphaaGreatDoorPuis
import Derived.Test.YtafgmndlbbjphaaGreatDoorPuai
import Derived.Test.YtafgmndlbbjphaaGreatDoorPuaj
set_option maxRecDepth 100000
namespace Go.Proofs.YtafgmndlbbjphaaGreatDoor
open Go.RowKit Go.Maps
set_option maxHeartbeats 1000000 in
theorem mark_any (k i : Int) (w : World) (hk : 0 ≤ k ∧ k ≤ 1000000) (hi : 0 ≤ i ∧ i ≤ 1000000000) :
  Calls Tryz.prog 46 #[.int .i64 k, .int .i64 i] w (NumPost w (1000003 * (k + 7) + i)) := by
 have q1 : IntKind.i64.wrap (k + 7) = k + 7 := IntWalk.i64_in _ (by omega)
 have q2 : IntKind.i64.wrap (1000003 * (k + 7)) = 1000003 * (k + 7) := IntWalk.i64_in _ (by omega)
 have q3 : IntKind.i64.wrap (1000003 * (k + 7) + i) = 1000003 * (k + 7) + i := IntWalk.i64_in _ (by omega)
 have HF : Hid (NumPost w (1000003 * (k + 7) + i) (.returned (.int .i64 (1000003 * (k + 7) + i))) w) := ⟨rfl, Below.refl _ _⟩
 go_enter Tryz.func46, Tryz.ntmps46
 go_wp2
 go_ret
 exact HF.out
def PartPost (w : World) (x y : Int) (e : Ending) (w' : World) : Prop := e = .returned (.agg #[.int .i64 x, .int .i64 y]) ∧ Below w.heap.size w w'
set_option maxHeartbeats 1000000 in
theorem markPart_any (k i : Int) (w : World) (hk : 0 ≤ k ∧ k ≤ 1000000) (hi : 0 ≤ i ∧ i ≤ 1000000000) :
  Calls Tryz.prog 79 #[.int .i64 k, .int .i64 i] w (PartPost w 0 (1000003 * (k + 7) + i)) := by
 have hfd := field_parts
 have X1 := Lib.hid (heap_alloc_new w (.cells #[.int .i64 0, .int .i64 0] 95))
 have HB := Lib.hid ((Below.refl w.heap.size w).alloc (Nat.le_refl _) (.cells #[.int .i64 0, .int .i64 0] 95))
 have HM := Lib.hid (mark_any k i (w.alloc (.cells #[.int .i64 0, .int .i64 0] 95)) hk hi)
 obtain ⟨m, hm⟩ : ∃ m, 1000003 * (k + 7) + i = m := ⟨_, rfl⟩
 rw [hm] at HM ⊢
 clear hm hk hi
 go_enter Tryz.func79, Tryz.ntmps79
 go_wp2_with (fail)
 refine HM.out.mono ?_
 rintro e w1 ⟨rfl, hb1⟩
 have hr := (hb1.block w.heap.size (by simp)).trans X1.out
 have f1 : w1.cell? ⟨w.heap.size, 0, none⟩ = some (.int .i64 0) := cell_of_row _ _ 0 _ _ (0, 0) hr
 have f2 : w1.cell? ⟨w.heap.size, 1, none⟩ = some (.int .i64 0) := cell_of_row _ _ 1 _ _ (0, 0) hr
 have z1 : w1.frozen? ⟨w.heap.size, 0, none⟩ = false := by simp [World.frozen?, hr]
 have z2 : w1.frozen? ⟨w.heap.size, 1, none⟩ = false := by simp [World.frozen?, hr]
 have HBB := Lib.hid (HB.out.trans (hb1.mono (by simp)))
 clear hb1 hr
 have hs1 : ((w1.setCell ⟨w.heap.size, 0, none⟩ (.int .i64 0)).setCell ⟨w.heap.size, 1, none⟩ (.int .i64 m)).cell? ⟨w.heap.size, 0, none⟩ = some (.int .i64 0) := (World.cell?_setCell_other _ _ _ _ (by simp)).trans (World.cell?_setCell_same _ _ _ f1)
 have hs2 : ((w1.setCell ⟨w.heap.size, 0, none⟩ (.int .i64 0)).setCell ⟨w.heap.size, 1, none⟩ (.int .i64 m)).cell? ⟨w.heap.size, 1, none⟩ = some (.int .i64 m) := World.cell?_setCell_same _ _ _ ((World.cell?_setCell_other _ _ _ _ (by simp)).trans f2)
 have HFIN : Hid (PartPost w 0 m (.returned (.agg #[.int .i64 0, .int .i64 m])) ((w1.setCell ⟨w.heap.size, 0, none⟩ (.int .i64 0)).setCell ⟨w.heap.size, 1, none⟩ (.int .i64 m))) := ⟨rfl, (HBB.out.setCell (Nat.le_refl _) _).setCell (Nat.le_refl _) _⟩
 go_wp2
 exact bodyPost_ret (v := .agg #[.int .i64 0, .int .i64 m]) (by simp [results, Tryz.results79, go_sem, hs1, hs2]) rfl HFIN.out
set_option maxHeartbeats 2000000 in
theorem none_any (A : Option Addr) (ps : List (Int × Int)) (c : Nat) (w : World) (hm : ps.length ≤ maxLen) (h : Lev w w.heap.size A ps) (r : Bool) (hr : r = true ↔ ¬ ∀ p ∈ ps, okPart p) :
  Calls Tryz.prog 89 #[.agg #[.slice A ps.length c]] w (HasPost w r) := by
 unfold maxLen at hm
 have HB0 := Lib.hid ((Below.refl w.heap.size w).alloc (Nat.le_refl _) (.cells #[.slice A ps.length c] 47))
 have HR := Lib.hid hr
 have HL := Lib.hid h
 clear h hr
 go_enter Tryz.func89, Tryz.ntmps89
 go_wp2
 go_loopw [3] (fun i wr => ∃ k : Nat, k ≤ ps.length ∧ i = .int .i64 k ∧ Below (w.heap.size + 1) (w.alloc (.cells #[.slice A ps.length c] 47)) wr ∧ ∀ p ∈ ps.take k, okPart p) (fun i _ => ps.length - (intOf i).toNat)
 case atStart => exact ⟨0, Nat.zero_le _, rfl, Below.refl _ _, fun p hp => by simp at hp⟩
 case round =>
  obtain ⟨k, hk, rfl, hb, hs⟩ := hrel
  have hbz := hb.size
  simp at hbz
  have hB : Below w.heap.size w wr := HB0.out.trans (hb.mono (by omega))
  have e0 : wr.heap[w.heap.size]? = some (.cells #[.slice A ps.length c] 47 (0, 0)) := (hb.block _ (by omega)).trans (heap_alloc_new w _)
  have f0 := cell_of_one e0
  by_cases hlt : k < ps.length
  ·obtain ⟨b, o, rfl, hbB, hcell⟩ := HL.out (by omega)
   have c0 := (hB.cell hbB).trans (hcell k hlt).1
   have c1 := (hB.cell hbB).trans (hcell k hlt).2
   obtain ⟨x, hx⟩ : ∃ x, x = (ps.getD k (0, 0)).1 := ⟨_, rfl⟩
   obtain ⟨y, hy⟩ : ∃ y, y = (ps.getD k (0, 0)).2 := ⟨_, rfl⟩
   rw [← hx] at c0
   rw [← hy] at c1
   have hq : ps[k] = (x, y) := by rw [hx, hy, List.getD_eq_getElem?_getD, List.getElem?_eq_getElem hlt]; rfl
   have HS := Lib.hid hs
   have HQ := Lib.hid hq
   have HB := Lib.hid hb
   have HBB := Lib.hid hB
   have ij0 : (0 : Int) ≤ (k : Int) := by omega
   have ij1 : (k : Int) < (ps.length : Int) := by omega
   have hbw : b < wr.heap.size := by omega
   have hww : w.heap.size < wr.heap.size := by omega
   have HN : ¬ okPart (x, y) → Hid (HasPost w r (.returned (.bool true)) (wr.alloc (.cells #[.int .i64 x, .int .i64 y] 95))) := fun hn => ⟨by
     have : r = true := HR.out.2 (fun hh => hn (hh (x, y) (by rw [← hq]; exact List.getElem_mem hlt)))
     rw [this], hB.alloc (by omega) _⟩
   have HY : okPart (x, y) → Hid (∀ p ∈ ps.take (k + 1), okPart p) := fun hy p hp => by
    rw [List.take_succ_eq_append_getElem hlt, List.mem_append] at hp
    rcases hp with hp | hp
    ·exact hs p hp
    ·simp at hp; rw [hp, hq]; exact hy
   have hn2 := two_new wr (.int .i64 x) (.int .i64 y) 95
   clear hs hq hx hy hcell hb hB e0
   by_cases t1 : x < 0
   ·have HF := HN (fun h => by unfold okPart at h; omega)
    clear HN HY
    go_wp2
    go_ret
    exact HF.out
   ·by_cases t2 : y < 0
    ·have HF := HN (fun h => by unfold okPart at h; omega)
     clear HN HY
     go_wp2
     go_ret
     exact HF.out
    ·by_cases t3 : 1048576 < x
     ·have HF := HN (fun h => by unfold okPart at h; omega)
      clear HN HY
      go_wp2
      go_ret
      exact HF.out
     ·by_cases t4 : 1048576 < y
      ·have HF := HN (fun h => by unfold okPart at h; omega)
       clear HN HY
       go_wp2
       go_ret
       exact HF.out
      ·have HF := HY (by unfold okPart; omega)
       clear HN HY
       go_wp2
       go_roundw
       case rel => exact ⟨k + 1, by omega, by go_num, HB.out.alloc (by omega) _, HF.out⟩
       case measure => simp [intOf]; omega
  ·obtain rfl : k = ps.length := by omega
   have HF : Hid (HasPost w r (.returned (.bool false)) wr) := ⟨by
     have : r = false := by
       rcases r with _ | _
       · rfl
       · exact absurd (fun p hp => hs p (by simpa using hp)) (HR.out.1 rfl)
     rw [this], hB⟩
   clear hs hb hB e0
   go_wp2
   go_ret
   exact HF.out
theorem insP_skip : ∀ (k : Nat) (l : List (Int × Int)) (p : Int × Int), k ≤ l.length → (∀ j, j < k → (l.getD j (0, 0)).1 < p.1) → insP l p = l.take k ++ insP (l.drop k) p
 | 0, l, p, _, _ => by simp
 | k + 1, [], p, h, _ => by simp at h
 | k + 1, q :: l, p, h, hs => by
  have h0 := hs 0 (by omega)
  simp only [List.getD_cons_zero] at h0
  have ih := insP_skip k l p (by simp at h; omega) (fun j hj => by simpa using hs (j + 1) (by omega))
  simp only [insP, if_pos h0, List.take_succ_cons, List.drop_succ_cons, List.cons_append, ih]
def PutSo (l : List (Int × Int)) (x : Int) (k : Nat) : Prop := ∀ j, j < k → (l.getD j (0, 0)).1 < x
theorem PutSo.step {l : List (Int × Int)} {x : Int} {k : Nat} (h : PutSo l x k) (hk : (l.getD k (0, 0)).1 < x) : PutSo l x (k + 1) := fun j hj => by
 rcases Nat.lt_succ_iff_lt_or_eq.1 hj with hj | rfl
 ·exact h j hj
 ·exact hk
theorem tail_src {w w1 : World} {b o k : Nat} {l : List (Int × Int)} (h : ∀ i, i < l.length → w.cell? ⟨b, o + i * 2, none⟩ = some (.int .i64 (l.getD i (0, 0)).1) ∧ w.cell? ⟨b, o + i * 2 + 1, none⟩ = some (.int .i64 (l.getD i (0, 0)).2)) (hb : b < w.heap.size) (hB : Below w.heap.size w w1) :
  ∀ j q, (cells (l.drop k))[j]? = some q → w1.cell? ((⟨b, o + k * 2, none⟩ : Addr).add j) = some q := by
 refine Lev.src (ps := l.drop k) (fun i hi => ?_)
 rw [List.length_drop] at hi
 obtain ⟨h1, h2⟩ := h (k + i) (by omega)
 have e : (l.drop k).getD i (0, 0) = l.getD (k + i) (0, 0) := by rw [List.getD_eq_getElem?_getD, List.getElem?_drop, ← List.getD_eq_getElem?_getD]
 rw [e, show o + k * 2 + i * 2 = o + (k + i) * 2 from by omega]
 exact ⟨(hB.cell hb).trans h1, (hB.cell hb).trans h2⟩
set_option maxHeartbeats 4000000 in
theorem rput_any (A : Option Addr) (l : List (Int × Int)) (c : Nat) (x y : Int) (w : World) (hm : Few (l.length + 1)) (h : Lev w w.heap.size A l) (hc : A = none → c = 0) (hlc : l.length ≤ c) (hcm : c ≤ maxLen) :
  Calls Tryz.prog 90 #[.slice A l.length c, .agg #[.int .i64 x, .int .i64 y]] w (RowPost w (insP l (x, y))) := by
 obtain ⟨i0, hi, hz0, hz1, hz2⟩ := info_parts infoP
 have HB0 := Lib.hid ((Below.refl w.heap.size w).alloc (Nat.le_refl _) (.cells #[.int .i64 x, .int .i64 y] 95))
 have X0 := Lib.hid (heap_alloc_new w (.cells #[.int .i64 x, .int .i64 y] 95))
 have hlen : l.length ≤ 1099511627776 := by unfold Few at hm; omega
 have HL := Lib.hid h
 have HC := Lib.hid hc
 clear h hm hc
 go_enter Tryz.func90, Tryz.ntmps90
 go_wp2
 go_loopw [5, 6] (fun lv i wr => ∃ k : Nat, k ≤ l.length ∧ i = .int .i64 k ∧ Below (w.heap.size + 1) (w.alloc (.cells #[.int .i64 x, .int .i64 y] 95)) wr ∧ wr.ownsRow (w.heap.size + 1) 95 2 lv (l.take k).length (cells (l.take k)) ∧ PutSo l x k) (fun _ i _ => l.length - (intOf i).toNat)
 case atStart => exact ⟨0, Nat.zero_le _, rfl, Below.refl _ _, ⟨rfl, Or.inl ⟨rfl, rfl⟩⟩, fun j hj => absurd hj (by omega)⟩
 case round =>
  obtain ⟨k, hk, rfl, hb, hrow, hs⟩ := hrel
  have hbz := hb.size
  simp at hbz
  have hB : Below w.heap.size w wr := HB0.out.trans (hb.mono (by omega))
  have p0 := (hb.block w.heap.size (by omega)).trans X0.out
  have g0 := cell_of_row _ _ 0 _ _ (0, 0) p0
  have g1 := cell_of_row _ _ 1 _ _ (0, 0) p0
  have hww : w.heap.size < wr.heap.size := by omega
  by_cases hlt : k < l.length
  ·obtain ⟨b, o, rfl, hbB, hcell⟩ := HL.out (by omega)
   have c0 := (hB.cell hbB).trans (hcell k hlt).1
   have c1 := (hB.cell hbB).trans (hcell k hlt).2
   obtain ⟨u, hu⟩ : ∃ u, u = (l.getD k (0, 0)).1 := ⟨_, rfl⟩
   obtain ⟨v, hv⟩ : ∃ v, v = (l.getD k (0, 0)).2 := ⟨_, rfl⟩
   rw [← hu] at c0
   rw [← hv] at c1
   have hq : l[k]? = some (u, v) := by rw [hu, hv, List.getD_eq_getElem?_getD, List.getElem?_eq_getElem hlt]; rfl
   have hbw : b < wr.heap.size := by omega
   have ij0 : (0 : Int) ≤ (k : Int) := by omega
   have ij1 : (k : Int) < (l.length : Int) := by omega
   by_cases t : u < x
   ·have HS : Hid (PutSo l x (k + 1)) := hs.step (by rw [← hu]; exact t)
    have HT := Lib.hid (take_snoc_ hq)
    have HLT : Hid ((l.take k).length = k) := by unfold Hid; rw [List.length_take]; omega
    obtain ⟨acc, hacc⟩ : ∃ acc, acc = l.take k := ⟨_, rfl⟩
    rw [← hacc] at hrow HT HLT
    have HR := Lib.hid hrow
    have HB := Lib.hid hb
    have HN : Hid (∀ m v1 w1, w1.ownsRow (w.heap.size + 1) 95 2 v1 (acc.length + 1) (cells acc ++ [.int .i64 u, .int .i64 v]) → ((wr.drewN m).alloc (.cells #[.int .i64 u, .int .i64 v] 95)).grownBy w1 u5.ownBlock → Below (w.heap.size + 1) (w.alloc (.cells #[.int .i64 x, .int .i64 y] 95)) w1 ∧ w1.ownsRow (w.heap.size + 1) 95 2 v1 (l.take (k + 1)).length (cells (l.take (k + 1)))) := fun m v1 w1 ho hg => by
     refine ⟨((below_drewN HB.out m).alloc (by show w.heap.size + 1 ≤ wr.heap.size; omega) _).grown hg (by show w.heap.size + 1 ≤ (wr.alloc (.cells #[.int .i64 u, .int .i64 v] 95)).heap.size; simp; omega) (fun j e => (HR.out.lt j e).1), ?_⟩
     rw [HT.out, cells_append, List.length_append]
     exact ho
    have HRR : Hid (∀ m, ((wr.drewN m).alloc (.cells #[.int .i64 u, .int .i64 v] 95)).ownsRow (w.heap.size + 1) 95 2 u5 acc.length (cells acc)) := fun m => (show (wr.drewN m).ownsRow (w.heap.size + 1) 95 2 u5 acc.length (cells acc) from hrow).alloc _
    have hacl : acc.length ≤ 1099511627776 := by have := HLT.out; omega
    clear hrow hb hs hq hu hv hacc hcell hB p0
    go_wp2
    go_quiet (fail)
    go_wp2_with (at_builtin; refine wpList_append_own _ rfl _ _ 45 rfl (w.heap.size + 1) 95 i0 (.agg #[.int .i64 0, .int .i64 0]) 2 16 Tryz.underlying45 hi hz0 hz1 hz2 rfl (by decide) u5 acc.length (cells acc) rfl (HRR.out _) ⟨wr.heap.size, 0, none⟩ 1 1 [.int .i64 u, .int .i64 v] rfl rfl (two_new (wr.drewN _) _ _ _) (by intro q hq; simp at hq; rcases hq with rfl | rfl <;> rfl) ?c1 ?c2 ?c3 ?_)
    case c1 => unfold maxLen; omega
    case c2 => omega
    case c3 => show w.heap.size + 1 ≤ (wr.alloc (.cells #[.int .i64 u, .int .i64 v] 95)).heap.size; simp; omega
    intro v1 w1 ho hg _
    have HX := Lib.hid (HN.out _ v1 w1 ho hg)
    clear ho hg
    go_wp2
    go_roundw
    case rel => exact ⟨k + 1, by omega, by go_num, HX.out.1, HX.out.2, HS.out⟩
    case measure => simp [intOf]; omega
   ·by_cases t2 : u = x
    ·have t3 : ¬ u < x := t
     have td : decide (u < x) = false := by simpa using t
     have te : (u == x) = true := by simpa using t2
     have HLT : Hid ((l.take k).length = k) := by unfold Hid; rw [List.length_take]; omega
     obtain ⟨acc, hacc⟩ : ∃ acc, acc = l.take k := ⟨_, rfl⟩
     have hins : insP l (x, y) = acc ++ [(x, max y v)] ++ l.drop (k + 1) := by
      rw [hacc, insP_skip k l (x, y) hk hs, List.append_assoc]
      have hd : l.drop k = (u, v) :: l.drop (k + 1) := by rw [List.drop_eq_getElem_cons hlt]; congr 1; simpa [List.getElem?_eq_getElem hlt] using hq
      have hmx : (if v < y then y else v) = max y v := by split <;> omega
      rw [hd]
      simp only [insP]
      rw [if_neg t3, if_pos t2, hmx]
      rfl
     rw [← hacc] at hrow HLT
     have HR := Lib.hid hrow
     have HB := Lib.hid hb
     have HINS := Lib.hid hins
     have hacl : acc.length ≤ 1099511627776 := by have := HLT.out; omega
     have HCELL := Lib.hid hcell
     have AG : Hid (u5.ownBlock ≠ some w.heap.size) := fun e => by have := (hrow.lt _ e).1; omega
     clear hrow hb hs hq hu hv hacc hcell hB p0 hins t t2
     go_wp2
     go_quiet (fail)
     go_wp2
     go_quiet (fail)
     have HRR : Hid (∀ m, ((wr.drewN m).alloc (.cells #[.int .i64 x, .int .i64 (max y v)] 95)).ownsRow (w.heap.size + 1) 95 2 u5 acc.length (cells acc)) := fun m => (show (wr.drewN m).ownsRow (w.heap.size + 1) 95 2 u5 acc.length (cells acc) from HR.out).alloc _
     go_wp2
     go_region_law
      ((refine step_append_lies _ (by rfl) _ _ _ (by rfl) (w.heap.size + 1) 95 i0 _ 2 16 Tryz.underlying45 hi hz0 hz1 hz2 rfl (by omega) u5 acc.length (cells acc) (by rfl) (HRR.out _)
          ⟨wr.heap.size, 0, none⟩ 1 1 [.int .i64 x, .int .i64 (max y v)] (by rfl) (by rfl) (World.news_of_block (cs := #[.int .i64 x, .int .i64 (max y v)]) (t := 95) (fr := (0, 0)) (heap_alloc_new (wr.drewN _) _)) (by simp [Value.oneCell'])
          (by omega) (by unfold maxLen; omega) (by omega) (by show w.heap.size + 1 ≤ (wr.alloc (.cells #[.int .i64 x, .int .i64 (max y v)] 95)).heap.size; simp; omega) (wr.heap.size + 1) (by show (wr.alloc (.cells #[.int .i64 x, .int .i64 (max y v)] 95)).heap.size = _; simp) ?_; intro gg cap w1 ho hg hat hlt1))
     all_goals (
       have HBX : Hid (Below (w.heap.size + 1) (w.alloc (.cells #[.int .i64 x, .int .i64 y] 95)) w1 ∧ w1.ownsRow (w.heap.size + 1) 95 2 (.slice (some ⟨gg, 0, none⟩) (acc.length + 1) cap) (acc.length + 1) (cells (acc ++ [(x, max y v)]))) := by
         refine ⟨((below_drewN HB.out _).alloc (by show w.heap.size + 1 ≤ wr.heap.size; omega) _).grown hg (by show w.heap.size + 1 ≤ (wr.alloc (.cells #[.int .i64 x, .int .i64 (max y v)] 95)).heap.size; simp; omega) (fun j e => (HR.out.lt j e).1), ?_⟩
         rw [cells_append]
         exact ho
       have HOBS : Hid (w.heap.size + 1 ≤ w1.heap.size) := by
         have h8 := HBX.out.1.size
         have h7 : (w.alloc (.cells #[.int .i64 x, .int .i64 y] 95)).heap.size = w.heap.size + 1 := by simp
         unfold Hid
         omega
       have kl : k + 1 ≤ l.length := by omega
       have kc : ((k : Int) + 1) ≤ (c : Int) := by omega
       have kn : ((k : Int) + 1) ≤ (l.length : Int) := by omega
       have HSRC : Hid (∀ j q, (cells (l.drop (k + 1)))[j]? = some q → w1.cell? ((⟨b, o + (k + 1) * 2, none⟩ : Addr).add j) = some q) := tail_src HCELL.out hbB (HB0.out.trans (HBX.out.1.mono (by omega)))
       obtain ⟨fr, hfr⟩ : ∃ fr, fr = acc ++ [(x, max y v)] := ⟨_, rfl⟩
       have HFL : Hid (fr.length = acc.length + 1) := by rw [hfr, List.length_append]; rfl
       rw [← hfr] at HBX HINS
       clear HRR ho hg hat hlt1 hfr
       by_cases hck : k + 1 < c
       · have hdl : (l.drop (k + 1)).length = l.length - (k + 1) := List.length_drop
         go_wp2_with (at_builtin; refine wpList_append_own _ rfl _ _ 45 rfl (w.heap.size + 1) 95 i0 (.agg #[.int .i64 0, .int .i64 0]) 2 16 Tryz.underlying45 hi hz0 hz1 hz2 rfl (by decide) (.slice (some ⟨gg, 0, none⟩) (acc.length + 1) cap) (acc.length + 1) (cells fr) rfl (HBX.out.2) ⟨b, o + (k + 1) * 2, none⟩ (l.length - (k + 1)) (c - (k + 1)) (cells (l.drop (k + 1))) rfl (by rw [cells_length, hdl]) HSRC.out (cells_one _) ?c1 ?c2 ?c3 ?_)
         case c1 => unfold maxLen; omega
         case c2 => omega
         case c3 => exact HOBS.out
         intro v2 w2 ho hg _
         have HFIN : Hid (RowPost w (insP l (x, y)) (.returned v2) w2) := by
           rw [HINS.out]
           refine ⟨_, rfl, ?_, HB0.out.trans ((HBX.out.1.grown hg HOBS.out (fun j e => (HBX.out.2.lt j e).1)).mono (by omega))⟩
           rw [cells_append, List.length_append, HFL.out]
           rw [hdl]
           exact own_base ho (by omega)
         clear ho hg
         go_wp2
         go_ret
         exact HFIN.out
       · obtain rfl : c = l.length := by omega
         have z0 : l.length - (k + 1) = 0 := by omega
         have z1 : l.drop (k + 1) = [] := List.drop_eq_nil_of_le (by omega)
         rw [z1, List.append_nil] at HINS
         clear HSRC
         go_wp2_with (at_builtin; refine wpList_append_own _ rfl _ _ 45 rfl (w.heap.size + 1) 95 i0 (.agg #[.int .i64 0, .int .i64 0]) 2 16 Tryz.underlying45 hi hz0 hz1 hz2 rfl (by decide) (.slice (some ⟨gg, 0, none⟩) (acc.length + 1) cap) (acc.length + 1) (cells fr) rfl (HBX.out.2) ⟨b, o, none⟩ 0 0 [] rfl rfl (by intro j q hq; simp at hq) (by intro q hq; simp at hq) ?c1 ?c2 ?c3 ?_)
         case c1 => unfold maxLen; omega
         case c2 => omega
         case c3 => exact HOBS.out
         intro v2 w2 ho hg _
         have HFIN : Hid (RowPost w (insP l (x, y)) (.returned v2) w2) := by
           rw [HINS.out]
           refine ⟨_, rfl, ?_, HB0.out.trans ((HBX.out.1.grown hg HOBS.out (fun j e => (HBX.out.2.lt j e).1)).mono (by omega))⟩
           rw [HFL.out]
           exact own_base ho (by omega)
         clear ho hg
         go_wp2
         go_ret
         exact HFIN.out)
    ·have t3 : ¬ u < x := t
     have td : decide (u < x) = false := by simpa using t
     have te : (u == x) = false := by simpa using t2
     have HLT : Hid ((l.take k).length = k) := by unfold Hid; rw [List.length_take]; omega
     obtain ⟨acc, hacc⟩ : ∃ acc, acc = l.take k := ⟨_, rfl⟩
     have hins : insP l (x, y) = acc ++ [(x, y)] ++ l.drop k := by
      rw [hacc, insP_skip k l (x, y) hk hs, List.append_assoc]
      have hd : l.drop k = (u, v) :: l.drop (k + 1) := by rw [List.drop_eq_getElem_cons hlt]; congr 1; simpa [List.getElem?_eq_getElem hlt] using hq
      rw [hd]
      simp only [insP]
      rw [if_neg t3, if_neg t2]
      rfl
     rw [← hacc] at hrow HLT
     have HR := Lib.hid hrow
     have HB := Lib.hid hb
     have HINS := Lib.hid hins
     have HRR : Hid (∀ m, ((wr.drewN m).alloc (.cells #[.int .i64 x, .int .i64 y] 95)).ownsRow (w.heap.size + 1) 95 2 u5 acc.length (cells acc)) := fun m => (show (wr.drewN m).ownsRow (w.heap.size + 1) 95 2 u5 acc.length (cells acc) from hrow).alloc _
     have hacl : acc.length ≤ 1099511627776 := by have := HLT.out; omega
     have HCELL := Lib.hid hcell
     clear hrow hb hs hq hu hv hacc hcell hB p0 hins t t2
     go_wp2
     go_quiet (fail)
     go_wp2
     go_quiet (fail)
     go_wp2_with (at_builtin; refine wpList_append_own _ rfl _ _ 45 rfl (w.heap.size + 1) 95 i0 (.agg #[.int .i64 0, .int .i64 0]) 2 16 Tryz.underlying45 hi hz0 hz1 hz2 rfl (by decide) u5 acc.length (cells acc) rfl (HRR.out _) ⟨wr.heap.size, 0, none⟩ 1 1 [.int .i64 x, .int .i64 y] rfl rfl (two_new (wr.drewN _) _ _ _) (by intro q hq; simp at hq; rcases hq with rfl | rfl <;> rfl) ?c1 ?c2 ?c3 ?_)
     case c1 => unfold maxLen; omega
     case c2 => omega
     case c3 => show w.heap.size + 1 ≤ (wr.alloc (.cells #[.int .i64 x, .int .i64 y] 95)).heap.size; simp; omega
     intro v1 w1 ho hg _
     have HBX : Hid (Below (w.heap.size + 1) (w.alloc (.cells #[.int .i64 x, .int .i64 y] 95)) w1 ∧ w1.ownsRow (w.heap.size + 1) 95 2 v1 (acc ++ [(x, y)]).length (cells (acc ++ [(x, y)]))) := by
      refine ⟨((below_drewN HB.out _).alloc (by show w.heap.size + 1 ≤ wr.heap.size; omega) _).grown hg (by show w.heap.size + 1 ≤ (wr.alloc (.cells #[.int .i64 x, .int .i64 y] 95)).heap.size; simp; omega) (fun j e => (HR.out.lt j e).1), ?_⟩
      rw [cells_append, List.length_append]
      exact ho
     have kc : (k : Int) ≤ (c : Int) := by omega
     have kn : (k : Int) ≤ (l.length : Int) := by omega
     have HSRC : Hid (∀ j q, (cells (l.drop k))[j]? = some q → w1.cell? ((⟨b, o + k * 2, none⟩ : Addr).add j) = some q) := tail_src HCELL.out hbB (HB0.out.trans (HBX.out.1.mono (by omega)))
     have HOBS : Hid ((w.heap.size + 1) ≤ w1.heap.size) := by
      have h8 := HBX.out.1.size
      have h7 : (w.alloc (.cells #[.int .i64 x, .int .i64 y] 95)).heap.size = w.heap.size + 1 := by simp
      unfold Hid
      omega
     obtain ⟨fr, hfr⟩ : ∃ fr, fr = acc ++ [(x, y)] := ⟨_, rfl⟩
     have HFL : Hid (fr.length ≤ 1099511627777) := by rw [hfr, List.length_append]; show acc.length + 1 ≤ 1099511627777; omega
     rw [← hfr] at HBX HINS
     clear HRR ho hg hfr
     go_wp2_with (at_builtin; refine wpList_append_own _ rfl _ _ 45 rfl (w.heap.size + 1) 95 i0 (.agg #[.int .i64 0, .int .i64 0]) 2 16 Tryz.underlying45 hi hz0 hz1 hz2 rfl (by decide) v1 fr.length (cells fr) rfl (HBX.out.2) ⟨b, o + k * 2, none⟩ (l.length - k) (c - k) (cells (l.drop k)) rfl (by rw [cells_length, List.length_drop]) HSRC.out (cells_one _) ?c1 ?c2 ?c3 ?_)
     case c1 => have := HFL.out; unfold maxLen; omega
     case c2 => have := HFL.out; omega
     case c3 => exact HOBS.out
     intro v2 w2 ho hg _
     have HFIN : Hid (RowPost w (insP l (x, y)) (.returned v2) w2) := by
      rw [HINS.out]
      refine ⟨_, rfl, ?_, HB0.out.trans ((HBX.out.1.grown hg HOBS.out (fun j e => (HBX.out.2.lt j e).1)).mono (by omega))⟩
      rw [cells_append, List.length_append, List.length_drop]
      exact own_base ho (by omega)
     clear ho hg
     go_wp2
     go_ret
     exact HFIN.out
  ·obtain rfl : k = l.length := by omega
   rw [List.take_length] at hrow
   have hins : insP l (x, y) = l ++ [(x, y)] := by
    rw [insP_skip l.length l (x, y) (Nat.le_refl _) hs, List.take_length, List.drop_length]
    rfl
   have HR := Lib.hid hrow
   have HB := Lib.hid hb
   have HINS := Lib.hid hins
   have HRR : Hid (∀ m, ((wr.drewN m).alloc (.cells #[.int .i64 x, .int .i64 y] 95)).ownsRow (w.heap.size + 1) 95 2 u5 l.length (cells l)) := fun m => (show (wr.drewN m).ownsRow (w.heap.size + 1) 95 2 u5 l.length (cells l) from hrow).alloc _
   clear hrow hb hs hB p0 hins hlt hk
   rcases A with _ | a
   ·obtain rfl := HC.out rfl
    have hl0 : l = [] := List.eq_nil_of_length_eq_zero (by omega)
    subst hl0
    go_wp2
    go_quiet (fail)
    go_wp2
    go_quiet (fail)
    go_wp2_with (at_builtin; refine wpList_append_own _ rfl _ _ 45 rfl (w.heap.size + 1) 95 i0 (.agg #[.int .i64 0, .int .i64 0]) 2 16 Tryz.underlying45 hi hz0 hz1 hz2 rfl (by decide) u5 0 (cells []) rfl (HRR.out _) ⟨wr.heap.size, 0, none⟩ 1 1 [.int .i64 x, .int .i64 y] rfl rfl (two_new (wr.drewN _) _ _ _) (by intro q hq; simp at hq; rcases hq with rfl | rfl <;> rfl) ?c1 ?c2 ?c3 ?_)
    case c1 => unfold maxLen; omega
    case c2 => omega
    case c3 => show w.heap.size + 1 ≤ (wr.alloc (.cells #[.int .i64 x, .int .i64 y] 95)).heap.size; simp; omega
    intro v1 w1 ho hg _
    have HBX : Hid (Below (w.heap.size + 1) (w.alloc (.cells #[.int .i64 x, .int .i64 y] 95)) w1 ∧ w1.ownsRow (w.heap.size + 1) 95 2 v1 (([] : List (Int × Int)) ++ [(x, y)]).length (cells (([] : List (Int × Int)) ++ [(x, y)]))) := by
     refine ⟨((below_drewN HB.out _).alloc (by show w.heap.size + 1 ≤ wr.heap.size; omega) _).grown hg (by show w.heap.size + 1 ≤ (wr.alloc (.cells #[.int .i64 x, .int .i64 y] 95)).heap.size; simp; omega) (fun j e => (HR.out.lt j e).1), ?_⟩
     rw [cells_append, List.length_append]
     exact ho
    clear HRR ho hg
    have hz1' : (w.alloc (.cells #[.int .i64 x, .int .i64 y] 95)).heap.size = w.heap.size + 1 := by simp
    have HOBS : Hid (w.heap.size + 1 ≤ w1.heap.size) := by
     have h8 := HBX.out.1.size
     unfold Hid
     omega
    obtain ⟨fr, hfr⟩ : ∃ fr, fr = ([] : List (Int × Int)) ++ [(x, y)] := ⟨_, rfl⟩
    have HFL : Hid (fr.length ≤ 1099511627777) := by rw [hfr, List.length_append]; show 0 + 1 ≤ 1099511627777; omega
    rw [← hfr] at HBX HINS
    clear hfr hz1'
    have HFIN : Hid (RowPost w (insP [] (x, y)) (.returned v1) w1) := by
     rw [HINS.out]
     exact ⟨_, rfl, own_base HBX.out.2 (by omega), HB0.out.trans (HBX.out.1.mono (by omega))⟩
    go_wp2_with (at_builtin; refine wpList_append_own_none rfl _ _ 45 rfl (w.heap.size + 1) 95 i0 2 Tryz.underlying45 hi v1 fr.length (cells fr) rfl HBX.out.2 rfl ?_)
    go_wp2
    go_ret
    exact HFIN.out
   ·by_cases hcn : c = l.length
    ·subst hcn
     go_wp2
     go_quiet (fail)
     go_wp2
     go_quiet (fail)
     go_wp2_with (at_builtin; refine wpList_append_own _ rfl _ _ 45 rfl (w.heap.size + 1) 95 i0 (.agg #[.int .i64 0, .int .i64 0]) 2 16 Tryz.underlying45 hi hz0 hz1 hz2 rfl (by decide) u5 l.length (cells l) rfl (HRR.out _) ⟨wr.heap.size, 0, none⟩ 1 1 [.int .i64 x, .int .i64 y] rfl rfl (two_new (wr.drewN _) _ _ _) (by intro q hq; simp at hq; rcases hq with rfl | rfl <;> rfl) ?c1 ?c2 ?c3 ?_)
     case c1 => unfold maxLen; omega
     case c2 => omega
     case c3 => show w.heap.size + 1 ≤ (wr.alloc (.cells #[.int .i64 x, .int .i64 y] 95)).heap.size; simp; omega
     intro v1 w1 ho hg _
     have HBX : Hid (Below (w.heap.size + 1) (w.alloc (.cells #[.int .i64 x, .int .i64 y] 95)) w1 ∧ w1.ownsRow (w.heap.size + 1) 95 2 v1 (l ++ [(x, y)]).length (cells (l ++ [(x, y)]))) := by
      refine ⟨((below_drewN HB.out _).alloc (by show w.heap.size + 1 ≤ wr.heap.size; omega) _).grown hg (by show w.heap.size + 1 ≤ (wr.alloc (.cells #[.int .i64 x, .int .i64 y] 95)).heap.size; simp; omega) (fun j e => (HR.out.lt j e).1), ?_⟩
      rw [cells_append, List.length_append]
      exact ho
     clear HRR ho hg
     have hz1' : (w.alloc (.cells #[.int .i64 x, .int .i64 y] 95)).heap.size = w.heap.size + 1 := by simp
     have HOBS : Hid (w.heap.size + 1 ≤ w1.heap.size) := by
      have h8 := HBX.out.1.size
      unfold Hid
      omega
     obtain ⟨fr, hfr⟩ : ∃ fr, fr = l ++ [(x, y)] := ⟨_, rfl⟩
     have HFL : Hid (fr.length ≤ 1099511627777) := by rw [hfr, List.length_append]; show l.length + 1 ≤ 1099511627777; omega
     rw [← hfr] at HBX HINS
     clear hfr hz1'
     go_wp2_with (at_builtin; refine wpList_append_own _ rfl _ _ 45 rfl (w.heap.size + 1) 95 i0 (.agg #[.int .i64 0, .int .i64 0]) 2 16 Tryz.underlying45 hi hz0 hz1 hz2 rfl (by decide) v1 fr.length (cells fr) rfl (HBX.out.2) a 0 0 [] rfl rfl (by intro j q hq; simp at hq) (by intro q hq; simp at hq) ?c1 ?c2 ?c3 ?_)
     case c1 => have := HFL.out; unfold maxLen; omega
     case c2 => have := HFL.out; omega
     case c3 => exact HOBS.out
     intro v2 w2 ho hg _
     have HFIN : Hid (RowPost w (insP l (x, y)) (.returned v2) w2) := by
      rw [HINS.out]
      refine ⟨_, rfl, ?_, HB0.out.trans ((HBX.out.1.grown hg HOBS.out (fun j e => (HBX.out.2.lt j e).1)).mono (by omega))⟩
      exact own_base ho (by omega)
     clear ho hg
     go_wp2
     go_ret
     exact HFIN.out
    ·have hcl : l.length < c := by omega
     go_wp2
     go_quiet (fail)
     go_wp2
     go_quiet (fail)
     go_wp2_with (at_builtin; refine wpList_append_own _ rfl _ _ 45 rfl (w.heap.size + 1) 95 i0 (.agg #[.int .i64 0, .int .i64 0]) 2 16 Tryz.underlying45 hi hz0 hz1 hz2 rfl (by decide) u5 l.length (cells l) rfl (HRR.out _) ⟨wr.heap.size, 0, none⟩ 1 1 [.int .i64 x, .int .i64 y] rfl rfl (two_new (wr.drewN _) _ _ _) (by intro q hq; simp at hq; rcases hq with rfl | rfl <;> rfl) ?c1 ?c2 ?c3 ?_)
     case c1 => unfold maxLen; omega
     case c2 => omega
     case c3 => show w.heap.size + 1 ≤ (wr.alloc (.cells #[.int .i64 x, .int .i64 y] 95)).heap.size; simp; omega
     intro v1 w1 ho hg _
     have HBX : Hid (Below (w.heap.size + 1) (w.alloc (.cells #[.int .i64 x, .int .i64 y] 95)) w1 ∧ w1.ownsRow (w.heap.size + 1) 95 2 v1 (l ++ [(x, y)]).length (cells (l ++ [(x, y)]))) := by
      refine ⟨((below_drewN HB.out _).alloc (by show w.heap.size + 1 ≤ wr.heap.size; omega) _).grown hg (by show w.heap.size + 1 ≤ (wr.alloc (.cells #[.int .i64 x, .int .i64 y] 95)).heap.size; simp; omega) (fun j e => (HR.out.lt j e).1), ?_⟩
      rw [cells_append, List.length_append]
      exact ho
     clear HRR ho hg
     have hz1' : (w.alloc (.cells #[.int .i64 x, .int .i64 y] 95)).heap.size = w.heap.size + 1 := by simp
     have HOBS : Hid (w.heap.size + 1 ≤ w1.heap.size) := by
      have h8 := HBX.out.1.size
      unfold Hid
      omega
     obtain ⟨fr, hfr⟩ : ∃ fr, fr = l ++ [(x, y)] := ⟨_, rfl⟩
     have HFL : Hid (fr.length ≤ 1099511627777) := by rw [hfr, List.length_append]; show l.length + 1 ≤ 1099511627777; omega
     rw [← hfr] at HBX HINS
     clear hfr hz1'
     go_wp2_with (at_builtin; refine wpList_append_own _ rfl _ _ 45 rfl (w.heap.size + 1) 95 i0 (.agg #[.int .i64 0, .int .i64 0]) 2 16 Tryz.underlying45 hi hz0 hz1 hz2 rfl (by decide) v1 fr.length (cells fr) rfl (HBX.out.2) (a.add (l.length * 2)) 0 (c - l.length) [] rfl rfl (by intro j q hq; simp at hq) (by intro q hq; simp at hq) ?c1 ?c2 ?c3 ?_)
     case c1 => have := HFL.out; unfold maxLen; omega
     case c2 => have := HFL.out; omega
     case c3 => exact HOBS.out
     intro v2 w2 ho hg _
     have HFIN : Hid (RowPost w (insP l (x, y)) (.returned v2) w2) := by
      rw [HINS.out]
      refine ⟨_, rfl, ?_, HB0.out.trans ((HBX.out.1.grown hg HOBS.out (fun j e => (HBX.out.2.lt j e).1)).mono (by omega))⟩
      exact own_base ho (by omega)
     clear ho hg
     go_wp2
     go_ret
     exact HFIN.out
def LAt (w : World) (A : Option Addr) (n c : Nat) (ps : List (Int × Int)) : Prop := n = ps.length ∧ Lev w w.heap.size A ps ∧ (A = none → c = 0)
def LOut (w : World) (ps : List (Int × Int)) (e : Ending) (w' : World) : Prop := ∃ A c, e = .returned (.agg #[.slice A ps.length c]) ∧ LAt w' A ps.length c ps ∧ Below w.heap.size w w'
def LOutN (w : World) (ps : List (Int × Int)) (e : Ending) (w' : World) : Prop := ∃ A c, e = .returned (.agg #[.slice A ps.length c]) ∧ LAt w' A ps.length c ps ∧ Below w.heap.size w w' ∧ ∀ a, A = some a → w.heap.size ≤ a.block
theorem insP_len : ∀ (l : List (Int × Int)) (p : Int × Int), (insP l p).length ≤ l.length + 1
 | [], p => by simp [insP]
 | q :: l, p => by
  have := insP_len l p
  unfold insP
  split
  ·simp; omega
  ·split <;> simp
theorem base_len (ps : List (Int × Int)) : (baseL ps).length ≤ ps.length := by
 induction ps using snoc_ind with
 | h0 => simp [baseL]
 | h1 l x ih =>
  rw [baseL_snoc, List.length_append]
  have := insP_len (baseL l) x
  simp
  omega
theorem base_take {ps : List (Int × Int)} {k : Nat} (hk : k < ps.length) : baseL (ps.take (k + 1)) = insP (baseL (ps.take k)) (ps.getD k (0, 0)) := by
 rw [List.take_succ_eq_append_getElem hk, baseL_snoc, List.getD_eq_getElem?_getD, List.getElem?_eq_getElem hk]
 rfl
def KeepSo (y : Int) (l : List (Int × Int)) (k : Nat) : Prop := 0 < y ∧ ∀ j, j < k → (l.getD j (0, 0)).2 < y
theorem KeepSo.all {y : Int} {l : List (Int × Int)} : KeepSo y l l.length ↔ 0 < y ∧ ∀ q ∈ l, q.2 < y :=
 ⟨fun h => ⟨h.1, fun q hq => by
   obtain ⟨j, hj, rfl⟩ := List.getElem_of_mem hq
   have := h.2 j hj
   rwa [List.getD_eq_getElem?_getD, List.getElem?_eq_getElem hj] at this⟩, fun h => ⟨h.1, fun j hj => by
   rw [List.getD_eq_getElem?_getD, List.getElem?_eq_getElem hj]
   exact h.2 _ (List.getElem_mem hj)⟩⟩
theorem own_cap {w : World} {B : Nat} {e : TypeId} {s n : Nat} {A : Option Addr} {m c : Nat} {xs : List Value} (h : w.ownsRow B e s (.slice A m c) n xs) : n ≤ c ∧ c ≤ maxLen := by
 rcases h.2 with ⟨h1, h2⟩ | ⟨g, cap, cur, h1, _, _, h3, h4, _⟩
 ·injection h1 with _ _ h1
  subst h1 h2
  exact ⟨Nat.le_refl _, by unfold maxLen; omega⟩
 ·injection h1 with _ _ h1
  subst h1
  exact ⟨h3, h4⟩
theorem lev_set {w : World} {B : Nat} {g o b : Nat} {u : Value} {ps : List (Int × Int)} (h : Lev w B (some ⟨g, o, none⟩) ps) (hne : g ≠ b) : Lev (w.setCell ⟨b, 0, none⟩ u) B (some ⟨g, o, none⟩) ps := by
 intro hn
 obtain ⟨b', o', h1, h2, h3⟩ := h hn
 injection h1 with h1
 injection h1 with h1 h4
 subst h1 h4
 refine ⟨_, _, rfl, h2, fun i hi => ?_⟩
 obtain ⟨q0, q1⟩ := h3 i hi
 exact ⟨(World.cell?_setCell_other _ _ _ _ (fun e => hne (by injection e with e; exact e.symm))).trans q0, (World.cell?_setCell_other _ _ _ _ (fun e => hne (by injection e with e; exact e.symm))).trans q1⟩
theorem lev_tail {w : World} {B : Nat} {g : Nat} {p : Int × Int} {l : List (Int × Int)} (h : Lev w B (some ⟨g, 0, none⟩) (p :: l)) : Lev w B (some ⟨g, 2, none⟩) l := fun _ => by
 obtain ⟨b, o, h1, h2, h3⟩ := h (by simp)
 injection h1 with h1
 injection h1 with h1 h4
 subst h1 h4
 refine ⟨_, _, rfl, h2, fun i hi => ?_⟩
 have := h3 (i + 1) (by simp; omega)
 rw [List.getD_cons_succ] at this
 rw [show 2 + i * 2 = 0 + (i + 1) * 2 by omega]
 exact this
theorem set_size (w : World) (p : Addr) (u : Value) : w.heap.size ≤ (w.setCell p u).heap.size := ((Below.refl 0 w).setCell (Nat.zero_le _) u).size
set_option maxHeartbeats 4000000 in
theorem rnorm_new (A : Option Addr) (ps : List (Int × Int)) (c : Nat) (w : World) (hm : ps.length ≤ 900000) (h : Lev w w.heap.size A ps) (hc : A = none → c = 0) :
  Calls Tryz.prog 57 #[.agg #[.slice A ps.length c]] w (LOutN w (nfA ps)) := by
 have hfd := field_parts
 obtain ⟨x1, x2, x3⟩ := two_allocs w (.cells #[.slice A ps.length c] 47) (.cells #[.slice none 0 0] 47)
 have hb0 : Below w.heap.size w ((w.alloc (.cells #[.slice A ps.length c] 47)).alloc (.cells #[.slice none 0 0] 47)) := ((Below.refl _ _).alloc (Nat.le_refl _) _).alloc (by simp) _
 obtain ⟨r, hr⟩ : ∃ r : Bool, r = true ↔ ¬ ∀ p ∈ ps, okPart p := by
  by_cases hh : ∀ p ∈ ps, okPart p
  ·exact ⟨false, by simpa using hh⟩
  ·exact ⟨true, by simpa using hh⟩
 have HN := Lib.hid (none_any A ps c ((w.alloc (.cells #[.slice A ps.length c] 47)).alloc (.cells #[.slice none 0 0] 47)) (by unfold maxLen; omega) ((h.below hb0).more (by simp; omega)) r hr)
 have X1 := Lib.hid x1
 have X2 := Lib.hid x2
 have HB0 := Lib.hid hb0
 have HL := Lib.hid h
 have HR := Lib.hid hr
 clear x1 x2 x3 hb0 h hr
 go_enter Tryz.func57, Tryz.ntmps57
 go_wp2_with (fail)
 refine HN.out.mono ?_
 rintro e w1 ⟨rfl, hb1⟩
 have hz1 : w.heap.size + 2 ≤ w1.heap.size := by have := hb1.size; simp at this; omega
 have Y1 : Hid (w1.heap[w.heap.size]? = some (.cells #[.slice A ps.length c] 47 (0, 0))) := (hb1.block _ (by simp; omega)).trans X1.out
 have Y2 : Hid (w1.heap[w.heap.size + 1]? = some (.cells #[.slice none 0 0] 47 (0, 0))) := (hb1.block _ (by simp)).trans X2.out
 have B1 : Hid (Below w.heap.size w w1) := HB0.out.trans (hb1.mono (by simp; omega))
 clear hb1 X1 X2 HB0 HN
 rcases r with _ | _
 rotate_left
 ·have f5 := cell_of_one Y2.out
  have f6 := free_of_one Y2.out
  have hnf : nfA ps = [] := if_neg (HR.out.1 rfl)
  have hs : (w1.setCell ⟨w.heap.size + 1, 0, none⟩ (.slice none 0 0)).cell? ⟨w.heap.size + 1, 0, none⟩ = some (.slice none 0 0) := World.cell?_setCell_same _ _ _ f5
  have HF : Hid (LOutN w (nfA ps) (.returned (.agg #[.slice none 0 0])) (w1.setCell ⟨w.heap.size + 1, 0, none⟩ (.slice none 0 0))) := by
   rw [hnf]
   exact ⟨none, 0, rfl, ⟨rfl, fun h => by simp at h, fun _ => rfl⟩, B1.out.setCell (by show w.heap.size ≤ w.heap.size + 1; omega) _, fun a e => by cases e⟩
  clear hnf
  go_wp2
  exact bodyPost_ret (v := .agg #[.slice none 0 0]) (by simp [results, Tryz.results57, go_sem, hs]) rfl HF.out
 ·have hok : ∀ p ∈ ps, okPart p := Classical.byContradiction fun hh => by have := HR.out.2 hh; cases this
  have HOK := Lib.hid hok
  have HNF : Hid (nfA ps = nf ps) := if_pos hok
  clear hok
  go_wp2
  go_loopw [3, 4] (fun lv i wr => ∃ k : Nat, k ≤ ps.length ∧ i = .int .i64 k ∧ Below w1.heap.size w1 wr ∧ wr.ownsRow w1.heap.size 95 2 lv (baseL (ps.take k)).length (cells (baseL (ps.take k)))) (fun _ i _ => ps.length - (intOf i).toNat)
  case atStart => exact ⟨0, Nat.zero_le _, rfl, Below.refl _ _, ⟨rfl, Or.inl ⟨rfl, rfl⟩⟩⟩
  case round =>
   obtain ⟨k, hk, rfl, hb, hrow⟩ := hrel
   have hbz := hb.size
   have e1 := (hb.block w.heap.size (by omega)).trans Y1.out
   have c9 := cell_of_one e1
   by_cases hlt : k < ps.length
   ·obtain ⟨b, o, rfl, hbB, hcell⟩ := HL.out (by omega)
    have c0 := (hb.cell (by show b < w1.heap.size; omega)).trans ((B1.out.cell hbB).trans (hcell k hlt).1)
    have c1 := (hb.cell (by show b < w1.heap.size; omega)).trans ((B1.out.cell hbB).trans (hcell k hlt).2)
    obtain ⟨x, hx⟩ : ∃ x, x = (ps.getD k (0, 0)).1 := ⟨_, rfl⟩
    obtain ⟨y, hy⟩ : ∃ y, y = (ps.getD k (0, 0)).2 := ⟨_, rfl⟩
    have hxy : ps.getD k (0, 0) = (x, y) := by rw [hx, hy]
    have HT := Lib.hid (base_take hlt)
    have hbl := base_len (ps.take k)
    rw [List.length_take] at hbl
    rw [hxy] at HT
    rw [← hx] at c0
    rw [← hy] at c1
    obtain ⟨acc, hacc⟩ : ∃ acc, acc = baseL (ps.take k) := ⟨_, rfl⟩
    rw [← hacc] at hrow HT hbl
    obtain ⟨A1, n1, m1, rfl⟩ := own_slice hrow
    obtain ⟨rfl, hl1, hc1⟩ := own_lev hrow
    obtain ⟨hcap1, hcap2⟩ := own_cap hrow
    have HP := Lib.hid (rput_any A1 acc m1 x y wr (by unfold Few; omega) hl1 hc1 hcap1 hcap2)
    have HB := Lib.hid hb
    have ij0 : (0 : Int) ≤ (k : Int) := by omega
    have ij1 : (k : Int) < (ps.length : Int) := by omega
    have hbw : b < wr.heap.size := by omega
    clear hb hrow hl1 hc1 hcap1 hcap2 hcell hx hy hxy hacc e1
    go_wp2_with (fail)
    refine HP.out.mono ?_
    rintro e w2 ⟨v, rfl, hrow2, hb2⟩
    have HX : Hid (Below w1.heap.size w1 w2 ∧ w2.ownsRow w1.heap.size 95 2 v (baseL (ps.take (k + 1))).length (cells (baseL (ps.take (k + 1))))) := by
     rw [HT.out]
     exact ⟨HB.out.trans (hb2.mono hbz), own_base hrow2 hbz⟩
    clear hrow2 hb2
    go_wp2
    go_roundw
    case rel => exact ⟨k + 1, by omega, by go_num, HX.out.1, HX.out.2⟩
    case measure => simp [intOf]; omega
   ·obtain rfl : k = ps.length := by omega
    rw [List.take_length] at hrow
    have hnfb : nf ps = stripL (baseL ps) := rfl
    have hbl := base_len ps
    obtain ⟨bs, hbs⟩ : ∃ bs, bs = baseL ps := ⟨_, rfl⟩
    rw [← hbs] at hrow hnfb hbl
    have HNF2 : Hid (nfA ps = stripL bs) := by rw [HNF.out, hnfb]; exact rfl
    have Y3 : Hid (wr.heap[w.heap.size + 1]? = some (.cells #[.slice none 0 0] 47 (0, 0))) := (hb.block _ (by omega)).trans Y2.out
    have BR : Hid (Below w.heap.size w wr) := B1.out.trans (hb.mono (by omega))
    have hwr : w.heap.size + 2 ≤ wr.heap.size := by omega
    clear hb hbs hnfb e1 HOK HNF HR HL Y1 Y2 B1
    rcases bs with _ | ⟨⟨x, y⟩, l⟩
    ·-- no parts
     obtain ⟨A1, n1, m1, rfl⟩ := own_slice hrow
     have hrow2 : wr.ownsRow w1.heap.size 95 2 (.slice A1 n1 m1) ([] : List (Int × Int)).length (cells []) := hrow
     obtain ⟨hn1, hl1, hc1⟩ := own_lev hrow2
     simp at hn1
     subst hn1
     have f5 := cell_of_one Y3.out
     have f6 := free_of_one Y3.out
     have hs : (wr.setCell ⟨w.heap.size + 1, 0, none⟩ (.slice A1 0 m1)).cell? ⟨w.heap.size + 1, 0, none⟩ = some (.slice A1 0 m1) := World.cell?_setCell_same _ _ _ f5
     have HF : Hid (LOutN w (nfA ps) (.returned (.agg #[.slice A1 0 m1])) (wr.setCell ⟨w.heap.size + 1, 0, none⟩ (.slice A1 0 m1))) := by
      rw [HNF2.out]
      exact ⟨A1, m1, rfl, ⟨rfl, fun h => by simp [stripL] at h, hc1⟩, BR.out.setCell (by show w.heap.size ≤ w.heap.size + 1; omega) _, fun a e => by
        subst e
        have := (hrow.lt a.block rfl).1
        omega⟩
     clear hrow hrow2 hl1 hc1
     go_wp2
     exact bodyPost_ret (v := .agg #[.slice A1 0 m1]) (by simp [results, Tryz.results57, go_sem, hs]) rfl HF.out
    ·have hnn : ((x, y) :: l).length = l.length + 1 := rfl
     rw [hnn] at hrow
     obtain ⟨n, hn⟩ : ∃ n, n = l.length + 1 := ⟨_, rfl⟩
     rw [← hn] at hrow
     obtain ⟨g, cap, hv, hg0, hgn0⟩ : ∃ g cap, u3 = .slice (some ⟨g, 0, none⟩) n cap ∧ g < wr.heap.size ∧ w.heap.size ≤ g := by
      rcases hrow.2 with ⟨_, h0⟩ | ⟨g, cap, cur, h1, h2, h3, _⟩
      ·omega
      ·exact ⟨g, cap, h1, (Array.getElem?_eq_some_iff.1 h3).1, by omega⟩
     subst hv
     have q0 : wr.cell? ⟨g, 0, none⟩ = some (.int .i64 x) := (hrow.cellAt 0 (by omega)).trans rfl
     have q1 : wr.cell? ⟨g, 1, none⟩ = some (.int .i64 y) := (hrow.cellAt 1 (by omega)).trans rfl
     have HQ : Hid (∀ j, j < l.length → wr.cell? ⟨g, (j + 1) * 2, none⟩ = some (.int .i64 (l.getD j (0, 0)).1) ∧ wr.cell? ⟨g, (j + 1) * 2 + 1, none⟩ = some (.int .i64 (l.getD j (0, 0)).2)) := fun j hj => by
      obtain ⟨d0, d1⟩ := cells_at ((x, y) :: l) (j + 1) (by simp; omega)
      have e : ((x, y) :: l).getD (j + 1) (0, 0) = l.getD j (0, 0) := by simp
      rw [e] at d0 d1
      exact ⟨(hrow.cellAt ((j + 1) * 2) (by omega)).trans d0, (hrow.cellAt ((j + 1) * 2 + 1) (by omega)).trans d1⟩
     have hlv : Lev wr wr.heap.size (some ⟨g, 0, none⟩) ((x, y) :: l) := by
      have h2 : wr.ownsRow w1.heap.size 95 2 (.slice (some ⟨g, 0, none⟩) n cap) ((x, y) :: l).length (cells ((x, y) :: l)) := by rw [hnn, ← hn]; exact hrow
      exact (own_lev h2).2.1
     have hcap := own_cap hrow
     have HLV := Lib.hid hlv
     have hn1 : n ≤ 900000 := by simp at hbl; omega
     obtain ⟨hcap1, hcap2⟩ := hcap
     have HNL : Hid (n = l.length + 1) := hn
     have hnp : 0 < n := by omega
     clear hrow hlv hbl hn hnn
     by_cases hx0 : x = 0
     rotate_left
     ·have f5 := cell_of_one Y3.out
      have f6 := free_of_one Y3.out
      have hs : (wr.setCell ⟨w.heap.size + 1, 0, none⟩ (.slice (some ⟨g, 0, none⟩) n cap)).cell? ⟨w.heap.size + 1, 0, none⟩ = some (.slice (some ⟨g, 0, none⟩) n cap) := World.cell?_setCell_same _ _ _ f5
      have hgn : g ≠ w.heap.size + 1 := fun e => by rw [e] at q0 q1; rw [f5] at q0; cases q0
      have HF : Hid (LOutN w (nfA ps) (.returned (.agg #[.slice (some ⟨g, 0, none⟩) n cap])) (wr.setCell ⟨w.heap.size + 1, 0, none⟩ (.slice (some ⟨g, 0, none⟩) n cap))) := by
       rw [HNF2.out]
       have hst : stripL ((x, y) :: l) = (x, y) :: l := if_neg (fun hh => hx0 hh.1)
       rw [hst]
       refine ⟨some ⟨g, 0, none⟩, cap, by rw [show ((x, y) :: l).length = n from HNL.out.symm], ⟨rfl, (lev_set HLV.out hgn).more (set_size _ _ _), fun e => by cases e⟩, BR.out.setCell (by show w.heap.size ≤ w.heap.size + 1; omega) _, fun a e => by cases e; exact hgn0⟩
      have hxd : (x == 0) = false := by simpa using hx0
      have hlt0 : (0 : Int) < (n : Int) := by omega
      clear HQ HLV
      go_wp2
      exact bodyPost_ret (v := .agg #[.slice (some ⟨g, 0, none⟩) n cap]) (by simp [results, Tryz.results57, go_sem, hs]) rfl HF.out
     ·subst hx0
      have hlt0 : (0 : Int) < (n : Int) := by omega
      go_wp2
      go_loopw [5, 6] (fun kp i wq => ∃ (k : Nat) (kb : Bool), 1 ≤ k ∧ k ≤ n ∧ i = .int .i64 k ∧ kp = .bool kb ∧ (kb = true ↔ KeepSo y l (k - 1)) ∧ Below wr.heap.size wr wq) (fun _ i _ => n - (intOf i).toNat)
      case atStart => exact ⟨1, decide (0 < y), Nat.le_refl _, by omega, rfl, rfl, by simp [KeepSo], Below.refl _ _⟩
      case round =>
       obtain ⟨k, kb, hk1, hk, rfl, rfl, hkb, hb⟩ := hrel
       have hbz := hb.size
       have d1 := (hb.cell hg0).trans q1
       by_cases hlt : k < n
       ·obtain ⟨j, rfl⟩ : ∃ j, k = j + 1 := ⟨k - 1, by omega⟩
        have hj : j < l.length := by have := HNL.out; omega
        have d2 := (hb.cell hg0).trans (HQ.out j hj).2
        obtain ⟨z, hz⟩ : ∃ z, z = (l.getD j (0, 0)).2 := ⟨_, rfl⟩
        rw [← hz] at d2
        simp only [Nat.add_sub_cancel] at hkb
        have HKB := Lib.hid hkb
        have HB := Lib.hid hb
        have ij0 : (0 : Int) ≤ ((j : Int) + 1) := by omega
        have ij1 : ((j : Int) + 1) < (n : Int) := by omega
        have hgw : g < wr.heap.size := by omega
        have HZ := Lib.hid hz
        clear hkb hb hz
        rcases kb with _ | _
        ·have HNX : Hid (false = true ↔ KeepSo y l (j + 1)) := ⟨fun h => (by cases h), fun h => by
           have := HKB.out.2 ⟨h.1, fun i hi => h.2 i (by omega)⟩
           cases this⟩
         go_wp2_with (fail)
         go_quiet (fail)
         go_wp2
         go_roundw
         case rel => exact ⟨j + 1 + 1, false, by omega, by omega, by go_num, rfl, HNX.out, below_drewN HB.out _⟩
         case measure => simp [intOf]; omega
        ·have HNX : Hid (decide (z < y) = true ↔ KeepSo y l (j + 1)) := by
          have h0 := HKB.out.1 rfl
          refine ⟨fun hzy => ⟨h0.1, fun i hi => ?_⟩, fun h => ?_⟩
          ·rcases Nat.lt_succ_iff_lt_or_eq.1 hi with hi | rfl
           ·exact h0.2 i hi
           ·rw [← HZ.out]; simpa using hzy
          ·have := h.2 j (by omega)
           rw [← HZ.out] at this
           simpa using this
         go_wp2_with (fail)
         go_quiet (fail)
         go_wp2
         go_roundw
         case rel => exact ⟨j + 1 + 1, decide (z < y), by omega, by omega, by go_num, rfl, HNX.out, below_drewN HB.out _⟩
         case measure => simp [intOf]; omega
       ·obtain rfl : k = n := by omega
        have f5 := cell_of_one ((hb.block (w.heap.size + 1) (by omega)).trans Y3.out)
        have f6 := free_of_one ((hb.block (w.heap.size + 1) (by omega)).trans Y3.out)
        have hgn : g ≠ w.heap.size + 1 := fun e => by
         have h5 := cell_of_one Y3.out
         rw [e] at q0
         rw [h5] at q0
         cases q0
        have BX : Hid (Below w.heap.size w wr) := BR.out.trans (hb.mono (by omega))
        have LX : Hid (Lev wr wr.heap.size (some ⟨g, 0, none⟩) ((0, y) :: l)) := (HLV.out.below hb).more hbz
        have HK : Hid (kb = true ↔ 0 < y ∧ ∀ q ∈ l, q.2 < y) := by
         have e : k - 1 = l.length := by have := HNL.out; omega
         rw [e] at hkb
         exact hkb.trans KeepSo.all
        clear hkb hb HQ HLV BR d1 q0 q1
        rcases kb with _ | _
        ·have hst : stripL ((0, y) :: l) = l := if_pos ⟨rfl, fun hh => by have := HK.out.2 hh; cases this⟩
         have hle1 : (1 : Int) ≤ (k : Int) := by omega
         have hle2 : (k : Int) ≤ (cap : Int) := by omega
         have hkl : Hid (k - 1 = l.length) := by have := HNL.out; unfold Hid; omega
         by_cases hc1 : 1 < cap
         ·have hci : (1 : Int) < (cap : Int) := by omega
          have hs : (wr.setCell ⟨w.heap.size + 1, 0, none⟩ (.slice (some ⟨g, 2, none⟩) (k - 1) (cap - 1))).cell? ⟨w.heap.size + 1, 0, none⟩ = some (.slice (some ⟨g, 2, none⟩) (k - 1) (cap - 1)) := World.cell?_setCell_same _ _ _ f5
          have HF : Hid (LOutN w (nfA ps) (.returned (.agg #[.slice (some ⟨g, 2, none⟩) (k - 1) (cap - 1)])) (wr.setCell ⟨w.heap.size + 1, 0, none⟩ (.slice (some ⟨g, 2, none⟩) (k - 1) (cap - 1)))) := by
           rw [HNF2.out, hst]
           refine ⟨some ⟨g, 2, none⟩, cap - 1, by rw [hkl.out], ⟨rfl, (lev_set (lev_tail LX.out) hgn).more (set_size _ _ _), fun e => by cases e⟩, BX.out.setCell (by show w.heap.size ≤ w.heap.size + 1; omega) _, fun a e => by cases e; exact hgn0⟩
          clear hst LX
          go_wp2
          exact bodyPost_ret (v := .agg #[.slice (some ⟨g, 2, none⟩) (k - 1) (cap - 1)]) (by simp [results, Tryz.results57, go_sem, hs]) rfl HF.out
         ·obtain rfl : cap = 1 := by omega
          obtain rfl : k = 1 := by omega
          have hl0 : l = [] := List.eq_nil_of_length_eq_zero (by have := hkl.out; omega)
          have hs : (wr.setCell ⟨w.heap.size + 1, 0, none⟩ (.slice (some ⟨g, 0, none⟩) 0 0)).cell? ⟨w.heap.size + 1, 0, none⟩ = some (.slice (some ⟨g, 0, none⟩) 0 0) := World.cell?_setCell_same _ _ _ f5
          have HF : Hid (LOutN w (nfA ps) (.returned (.agg #[.slice (some ⟨g, 0, none⟩) 0 0])) (wr.setCell ⟨w.heap.size + 1, 0, none⟩ (.slice (some ⟨g, 0, none⟩) 0 0))) := by
           rw [HNF2.out, hst, hl0]
           exact ⟨some ⟨g, 0, none⟩, 0, rfl, ⟨rfl, fun h => by simp at h, fun _ => rfl⟩, BX.out.setCell (by show w.heap.size ≤ w.heap.size + 1; omega) _, fun a e => by cases e; exact hgn0⟩
          clear hst LX
          go_wp2
          exact bodyPost_ret (v := .agg #[.slice (some ⟨g, 0, none⟩) 0 0]) (by simp [results, Tryz.results57, go_sem, hs]) rfl HF.out
        ·have hst : stripL ((0, y) :: l) = (0, y) :: l := if_neg (fun hh => hh.2 (HK.out.1 rfl))
         have hs : (wr.setCell ⟨w.heap.size + 1, 0, none⟩ (.slice (some ⟨g, 0, none⟩) k cap)).cell? ⟨w.heap.size + 1, 0, none⟩ = some (.slice (some ⟨g, 0, none⟩) k cap) := World.cell?_setCell_same _ _ _ f5
         have HF : Hid (LOutN w (nfA ps) (.returned (.agg #[.slice (some ⟨g, 0, none⟩) k cap])) (wr.setCell ⟨w.heap.size + 1, 0, none⟩ (.slice (some ⟨g, 0, none⟩) k cap))) := by
          rw [HNF2.out, hst]
          refine ⟨some ⟨g, 0, none⟩, cap, by rw [show ((0, y) :: l : List (Int × Int)).length = k from HNL.out.symm], ⟨rfl, (lev_set LX.out hgn).more (set_size _ _ _), fun e => by cases e⟩, BX.out.setCell (by show w.heap.size ≤ w.heap.size + 1; omega) _, fun a e => by cases e; exact hgn0⟩
         clear hst LX
         go_wp2
         exact bodyPost_ret (v := .agg #[.slice (some ⟨g, 0, none⟩) k cap]) (by simp [results, Tryz.results57, go_sem, hs]) rfl HF.out
theorem rnorm_any (A : Option Addr) (ps : List (Int × Int)) (c : Nat) (w : World) (hm : ps.length ≤ 900000) (h : Lev w w.heap.size A ps) (hc : A = none → c = 0) :
  Calls Tryz.prog 57 #[.agg #[.slice A ps.length c]] w (LOut w (nfA ps)) :=
 (rnorm_new A ps c w hm h hc).mono fun _ _ ⟨A, c, h1, h2, h3, _⟩ => ⟨A, c, h1, h2, h3⟩
def marks (k : Int) (j : Nat) : List (Int × Int) := (List.range j).map fun (i : Nat) => ((0 : Int), 1000003 * (k + 7) + (i : Int))
theorem marks_snoc (j : Nat) : marks 1 (j + 1) = marks 1 j ++ [((0 : Int), 8000024 + (j : Int))] := by
 unfold marks
 rw [List.range_succ, List.map_append]
 rfl
def LentP (w : World) (ps : List (Int × Int)) (n : Nat) (e : Ending) (w' : World) : Prop := ∃ g cap, e = .returned (.slice (some ⟨g, 0, none⟩) n cap) ∧ w'.ownsRow w.heap.size 95 2 (.slice (some ⟨g, 0, none⟩) (n + 12) cap) (n + 12) (cells (ps ++ marks 1 12)) ∧ Below w.heap.size w w'
set_option maxHeartbeats 4000000 in
theorem lentParts_any (A : Option Addr) (ps : List (Int × Int)) (c n : Nat) (w : World) (hn : ps.length = n) (hm : n ≤ 900000) (h : Lev w w.heap.size A ps) (hc : A = none → c = 0) :
  Calls Tryz.prog 47 #[.slice A n c] w (LentP w ps n) := by
 obtain ⟨i0, hi, hz0, hz1, hz2⟩ := info_parts infoP
 have q1 : IntKind.i64.wrap ((n : Int) + 12) = (n : Int) + 12 := IntWalk.i64_in _ (by omega)
 have HL := Lib.hid h
 have HC := Lib.hid hc
 have HN := Lib.hid hn
 clear h hc hn
 go_enter Tryz.func47, Tryz.ntmps47
 go_wp2_with (at_make; refine wpList_make_own _ rfl _ _ 45 rfl w.heap.size 95 i0 (.agg #[.int .i64 0, .int .i64 0]) 2 Tryz.underlying45 hi hz0 hz1 _ _ _ (n + 12) rfl rfl (by omega) ?b1 ?b2 ?b3 ?_)
 case b1 => rw [hz2]; omega
 case b2 => unfold maxLen; omega
 case b3 => exact Nat.le_refl _
 intro w1 ho1 hg1
 have hb1 : Below w.heap.size w w1 := (Below.refl w.heap.size w).grown hg1 (Nat.le_refl _) (fun k e => by cases e)
 have hs1 := hb1.size
 have HB1 := Lib.hid hb1
 have HO1 := Lib.hid ho1
 clear hb1 ho1 hg1
 rcases A with _ | a
 ·obtain rfl := HC.out rfl
  obtain rfl : ps = [] := by
   rcases ps with _ | ⟨p, l⟩
   ·rfl
   ·obtain ⟨b, o, e, _⟩ := HL.out (by simp)
    cases e
  obtain rfl : n = 0 := HN.out.symm
  go_wp2_with (at_builtin; refine wpList_append_own_none rfl _ _ 45 rfl w.heap.size 95 i0 2 Tryz.underlying45 hi _ 0 [] rfl HO1.out rfl ?_)
  have HB := HB1
  have HR : Hid (w1.ownsRow w.heap.size 95 2 _ (0 + 0) (cells ([] ++ marks 1 0))) := HO1.out
  clear HB1 HO1
  go_wp2
  go_loopw [3, 4] (fun lv i wr => ∃ j : Nat, j ≤ 12 ∧ i = .int .i64 (j : Int) ∧ Below w.heap.size w wr ∧ wr.ownsRow w.heap.size 95 2 lv (0 + j) (cells (([] : List (Int × Int)) ++ marks 1 j))) (fun _ i _ => 12 - (intOf i).toNat)
  case atStart => exact ⟨0, by omega, rfl, HB.out, HR.out⟩
  case round =>
   obtain ⟨j, hj, rfl, hb, hrow⟩ := hrel
   have hbz := hb.size
   obtain ⟨Al, nv, cv, rfl⟩ := own_slice hrow
   by_cases hlt : j < 12
   ·have HM := Lib.hid (markPart_any 1 (j : Int) wr (by omega) (by omega))
    rw [show (1000003 : Int) * (1 + 7) + (j : Int) = 8000024 + (j : Int) by omega] at HM
    have HBJ := Lib.hid hb
    have HRJ := Lib.hid hrow
    clear hb hrow
    go_wp2_with (fail)
    refine HM.out.mono ?_
    rintro e w4 ⟨rfl, hb4⟩
    have hs4 := hb4.size
    have hb5 : Below w4.heap.size w4 (w4.alloc (.cells #[.int .i64 0, .int .i64 (8000024 + (j : Int))] 95)) := (Below.refl _ _).alloc (Nat.le_refl _) _
    have HR5 := Lib.hid (own_kept (own_kept HRJ.out hb4) hb5)
    have HB5 : Hid (Below w.heap.size w (w4.alloc (.cells #[.int .i64 0, .int .i64 (8000024 + (j : Int))] 95))) := (HBJ.out.trans (hb4.mono hbz)).trans (hb5.mono (by omega))
    have HNW := Lib.hid (heap_alloc_new w4 (.cells #[.int .i64 0, .int .i64 (8000024 + (j : Int))] 95))
    clear hb4 hb5
    go_wp2_with (at_builtin; refine wpList_append_own _ rfl _ _ 45 rfl w.heap.size 95 i0 (.agg #[.int .i64 0, .int .i64 0]) 2 16 Tryz.underlying45 hi hz0 hz1 hz2 rfl (by decide) _ (0 + j) (cells (([] : List (Int × Int)) ++ marks 1 j)) rfl HR5.out ⟨w4.heap.size, 0, none⟩ 1 1 [.int .i64 0, .int .i64 (8000024 + (j : Int))] rfl rfl (World.news_of_block (cs := #[.int .i64 0, .int .i64 (8000024 + (j : Int))]) (t := 95) (fr := (0, 0)) HNW.out) (by simp [Value.oneCell']) ?c1 ?c2 ?c3 ?_)
    case c1 => unfold maxLen; omega
    case c2 => omega
    case c3 => first | omega | (simp; omega)
    intro v w5 ho hg _
    have HR6 : Hid (w5.ownsRow w.heap.size 95 2 v (0 + (j + 1)) (cells (([] : List (Int × Int)) ++ marks 1 (j + 1)))) := by
     rw [marks_snoc, ← List.append_assoc, cells_append]
     first | exact ho | (rw [Nat.zero_add]; exact ho)
    have HB6 : Hid (Below w.heap.size w w5) := HB5.out.grown hg (by simp; omega) (fun k e => (HR5.out.lt k e).1)
    clear ho hg
    go_wp2
    go_roundw
    case rel => exact ⟨j + 1, by omega, by go_num, HB6.out, HR6.out⟩
    case measure => simp [intOf]; omega
   ·have hj12 : j = 12 := by omega
    rw [hj12] at hrow
    obtain ⟨g, cap, e, _, _⟩ := hrow.form (by omega)
    injection e with e1 e2 e3
    subst e1 e2 e3
    obtain ⟨hc1, hc2⟩ := own_cap hrow
    have HFIN : Hid (LentP w ([] : List (Int × Int)) 0 (.returned (.slice (some ⟨g, 0, none⟩) 0 cv)) wr) := ⟨g, cv, rfl, hrow, hb⟩
    have hc3 : 0 ≤ cv := by omega
    have hc4 : ((0 : Nat) : Int) ≤ (cv : Int) := by omega
    have hc5 : (0 : Int) ≤ ((0 : Nat) : Int) := by omega
    clear hb hrow hj12
    go_wp2
    go_ret
    exact HFIN.out
 ·have hsrc : ∀ j u, (cells ps)[j]? = some u → w1.cell? (a.add j) = some u := by
   intro j u hu
   have hpos : 0 < ps.length := by
    have := List.getElem?_eq_some_iff.1 hu
    obtain ⟨h1, _⟩ := this
    rw [cells_length] at h1
    omega
   obtain ⟨b', o', e, hlt, hc'⟩ := ((HL.out.below HB1.out).more hs1) hpos
   injection e with e
   subst e
   exact Lev.src hc' j u hu
  have HS := Lib.hid hsrc
  clear hsrc
  go_wp2_with (at_builtin; refine wpList_append_own _ rfl _ _ 45 rfl w.heap.size 95 i0 (.agg #[.int .i64 0, .int .i64 0]) 2 16 Tryz.underlying45 hi hz0 hz1 hz2 rfl (by decide) _ 0 [] rfl HO1.out a n c (cells ps) rfl (by rw [cells_length, HN.out]) HS.out (cells_one ps) ?c1 ?c2 ?c3 ?_)
  case c1 => unfold maxLen; omega
  case c2 => omega
  case c3 => first | omega | (simp; omega)
  intro v0 w2 ho2 hg2 _
  have HB : Hid (Below w.heap.size w w2) := HB1.out.grown hg2 hs1 (fun k e => (HO1.out.lt k e).1)
  have HR : Hid (w2.ownsRow w.heap.size 95 2 v0 (n + 0) (cells (ps ++ marks 1 0))) := by
   have e : ps ++ marks 1 0 = ps := List.append_nil ps
   rw [e]
   show w2.ownsRow _ _ _ _ _ _
   simpa using ho2
  clear ho2 hg2 HB1 HO1
  go_wp2
  go_loopw [3, 4] (fun lv i wr => ∃ j : Nat, j ≤ 12 ∧ i = .int .i64 (j : Int) ∧ Below w.heap.size w wr ∧ wr.ownsRow w.heap.size 95 2 lv (n + j) (cells (ps ++ marks 1 j))) (fun _ i _ => 12 - (intOf i).toNat)
  case atStart => exact ⟨0, by omega, rfl, HB.out, HR.out⟩
  case round =>
   obtain ⟨j, hj, rfl, hb, hrow⟩ := hrel
   have hbz := hb.size
   obtain ⟨Al, nv, cv, rfl⟩ := own_slice hrow
   by_cases hlt : j < 12
   ·have HM := Lib.hid (markPart_any 1 (j : Int) wr (by omega) (by omega))
    rw [show (1000003 : Int) * (1 + 7) + (j : Int) = 8000024 + (j : Int) by omega] at HM
    have HBJ := Lib.hid hb
    have HRJ := Lib.hid hrow
    clear hb hrow
    go_wp2_with (fail)
    refine HM.out.mono ?_
    rintro e w4 ⟨rfl, hb4⟩
    have hs4 := hb4.size
    have hb5 : Below w4.heap.size w4 (w4.alloc (.cells #[.int .i64 0, .int .i64 (8000024 + (j : Int))] 95)) := (Below.refl _ _).alloc (Nat.le_refl _) _
    have HR5 := Lib.hid (own_kept (own_kept HRJ.out hb4) hb5)
    have HB5 : Hid (Below w.heap.size w (w4.alloc (.cells #[.int .i64 0, .int .i64 (8000024 + (j : Int))] 95))) := (HBJ.out.trans (hb4.mono hbz)).trans (hb5.mono (by omega))
    have HNW := Lib.hid (heap_alloc_new w4 (.cells #[.int .i64 0, .int .i64 (8000024 + (j : Int))] 95))
    clear hb4 hb5
    go_wp2_with (at_builtin; refine wpList_append_own _ rfl _ _ 45 rfl w.heap.size 95 i0 (.agg #[.int .i64 0, .int .i64 0]) 2 16 Tryz.underlying45 hi hz0 hz1 hz2 rfl (by decide) _ (n + j) (cells (ps ++ marks 1 j)) rfl HR5.out ⟨w4.heap.size, 0, none⟩ 1 1 [.int .i64 0, .int .i64 (8000024 + (j : Int))] rfl rfl (World.news_of_block (cs := #[.int .i64 0, .int .i64 (8000024 + (j : Int))]) (t := 95) (fr := (0, 0)) HNW.out) (by simp [Value.oneCell']) ?c1 ?c2 ?c3 ?_)
    case c1 => unfold maxLen; omega
    case c2 => omega
    case c3 => first | omega | (simp; omega)
    intro v w5 ho hg _
    have HR6 : Hid (w5.ownsRow w.heap.size 95 2 v (n + (j + 1)) (cells (ps ++ marks 1 (j + 1)))) := by
     rw [marks_snoc, ← List.append_assoc, cells_append]
     first | exact ho | (rw [Nat.zero_add]; exact ho)
    have HB6 : Hid (Below w.heap.size w w5) := HB5.out.grown hg (by simp; omega) (fun k e => (HR5.out.lt k e).1)
    clear ho hg
    go_wp2
    go_roundw
    case rel => exact ⟨j + 1, by omega, by go_num, HB6.out, HR6.out⟩
    case measure => simp [intOf]; omega
   ·have hj12 : j = 12 := by omega
    rw [hj12] at hrow
    obtain ⟨g, cap, e, _, _⟩ := hrow.form (by omega)
    injection e with e1 e2 e3
    subst e1 e2 e3
    obtain ⟨hc1, hc2⟩ := own_cap hrow
    have HFIN : Hid (LentP w ps n (.returned (.slice (some ⟨g, 0, none⟩) n cv)) wr) := ⟨g, cv, rfl, hrow, hb⟩
    have hc3 : n ≤ cv := by omega
    have hc4 : (n : Int) ≤ (cv : Int) := by omega
    have hc5 : (0 : Int) ≤ (n : Int) := by omega
    clear hb hrow hj12
    go_wp2
    go_ret
    exact HFIN.out
def LentL (w : World) (ps : List (Int × Int)) (n : Nat) (e : Ending) (w' : World) : Prop := ∃ g cap, e = .returned (.agg #[.slice (some ⟨g, 0, none⟩) n cap]) ∧ w'.ownsRow w.heap.size 95 2 (.slice (some ⟨g, 0, none⟩) (n + 12) cap) (n + 12) (cells (ps ++ marks 1 12)) ∧ Below w.heap.size w w'
set_option maxHeartbeats 2000000 in
theorem lentLevel_any (A : Option Addr) (ps : List (Int × Int)) (c n : Nat) (w : World) (hn : ps.length = n) (hm : n ≤ 900000) (h : Lev w w.heap.size A ps) (hc : A = none → c = 0) :
  Calls Tryz.prog 28 #[.agg #[.slice A n c]] w (LentL w ps n) := by
 have hfd := field_parts
 obtain ⟨x1, x2, x3⟩ := two_allocs w (.cells #[.slice A n c] 47) (.cells #[.slice none 0 0] 47)
 have hb0 : Below w.heap.size w ((w.alloc (.cells #[.slice A n c] 47)).alloc (.cells #[.slice none 0 0] 47)) := ((Below.refl _ _).alloc (Nat.le_refl _) _).alloc (by simp) _
 have hz : ((w.alloc (.cells #[.slice A n c] 47)).alloc (.cells #[.slice none 0 0] 47)).heap.size = w.heap.size + 2 := by simp
 have HP := Lib.hid (lentParts_any A ps c n ((w.alloc (.cells #[.slice A n c] 47)).alloc (.cells #[.slice none 0 0] 47)) hn hm ((h.below hb0).more hb0.size) hc)
 have X1 := Lib.hid x1
 have X2 := Lib.hid x2
 have HB0 := Lib.hid hb0
 have f1 := cell_of_one x1
 have f2 := cell_of_one x2
 clear x1 x2 x3 hb0 h hc hn
 go_enter Tryz.func28, Tryz.ntmps28
 go_wp2_with (fail)
 refine HP.out.mono ?_
 rintro e w1 ⟨g, cap, rfl, hrow, hb1⟩
 have e1 := (hb1.block w.heap.size (by omega)).trans X1.out
 have e2 := (hb1.block (w.heap.size + 1) (by omega)).trans X2.out
 have g1 := cell_of_one e1
 have g2 := free_of_one e1
 have g3 := cell_of_one e2
 have g4 := free_of_one e2
 have h1 : (w1.setCell ⟨w.heap.size, 0, none⟩ (.slice (some ⟨g, 0, none⟩) n cap)).cell? ⟨w.heap.size, 0, none⟩ = some (.slice (some ⟨g, 0, none⟩) n cap) := World.cell?_setCell_same _ _ _ g1
 have h2 : (w1.setCell ⟨w.heap.size, 0, none⟩ (.slice (some ⟨g, 0, none⟩) n cap)).cell? ⟨w.heap.size + 1, 0, none⟩ = some (.slice none 0 0) := (World.cell?_setCell_other _ _ _ _ (by simp)).trans g3
 have hs : ((w1.setCell ⟨w.heap.size, 0, none⟩ (.slice (some ⟨g, 0, none⟩) n cap)).setCell ⟨w.heap.size + 1, 0, none⟩ (.slice (some ⟨g, 0, none⟩) n cap)).cell? ⟨w.heap.size + 1, 0, none⟩ = some (.slice (some ⟨g, 0, none⟩) n cap) := World.cell?_setCell_same _ _ _ h2
 have HFIN : Hid (LentL w ps n (.returned (.agg #[(.slice (some ⟨g, 0, none⟩) n cap)])) ((w1.setCell ⟨w.heap.size, 0, none⟩ (.slice (some ⟨g, 0, none⟩) n cap)).setCell ⟨w.heap.size + 1, 0, none⟩ (.slice (some ⟨g, 0, none⟩) n cap))) :=
  ⟨g, cap, rfl, own_base (ownsRow_setCell_below (ownsRow_setCell_below hrow (by show w.heap.size < _; omega) _) (by show w.heap.size + 1 < _; omega) _) (by omega), ((HB0.out.trans (hb1.mono (by omega))).setCell (Nat.le_refl _) _).setCell (by show w.heap.size ≤ w.heap.size + 1; omega) _⟩
 clear hrow hb1 e1 e2
 go_wp2
 exact bodyPost_ret (v := .agg #[(.slice (some ⟨g, 0, none⟩) n cap)]) (by simp [results, Tryz.results28, go_sem, hs]) rfl HFIN.out
theorem lev_box {w : World} {B g n c : Nat} {A S : Option Addr} {t : TypeId} {fr : Nat × Nat} {u : Value} {ps : List (Int × Int)} (h : Lev w B A ps) (hg : w.heap[g]? = some (.cells #[.slice S n c] t fr)) : Lev (w.setCell ⟨g, 0, none⟩ u) B A ps := by
 rcases A with _ | ⟨b, o, sp⟩
 ·intro hn
  obtain ⟨_, _, e, _⟩ := h hn
  cases e
 ·intro hn
  obtain ⟨b', o', e, hb, hc⟩ := h hn
  injection e with e
  injection e with e1 e2 e3
  subst e1 e2 e3
  have hne : b ≠ g := fun e => by
   subst e
   have h0 := (hc 0 hn).1
   simp only [World.cell?, hg] at h0
   rcases o with _ | o
   ·simp at h0
   ·simp at h0
  refine ⟨b, o, rfl, hb, fun i hi => ?_⟩
  obtain ⟨q0, q1⟩ := hc i hi
  exact ⟨(World.cell?_setCell_other _ _ _ _ (fun e => hne (by injection e with e; exact e.symm))).trans q0, (World.cell?_setCell_other _ _ _ _ (fun e => hne (by injection e with e; exact e.symm))).trans q1⟩
theorem LAt.box {w : World} {g n' c' n c : Nat} {A S : Option Addr} {t : TypeId} {fr : Nat × Nat} {u : Value} {ps : List (Int × Int)} (h : LAt w A n c ps) (hg : w.heap[g]? = some (.cells #[.slice S n' c'] t fr)) : LAt (w.setCell ⟨g, 0, none⟩ u) A n c ps :=
 ⟨h.1, (lev_box h.2.1 hg).more (set_size _ _ _), h.2.2⟩
end Go.Proofs.YtafgmndlbbjphaaGreatDoor
