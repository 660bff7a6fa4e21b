/- Laws. -/
import Derived.Test.YtafgmndlbbjphaaGreatDoorPuam
import Derived.Test.YtafgmndlbbjphaaGreatDoorPuat
import Derived.Test.YtafgmndlbbjphaaGreatDoorPuaw
import Derived.Test.YtafgmndlbbjphaaGreatDoorPuax
set_option maxRecDepth 100000
namespace Go.Proofs.YtafgmndlbbjphaaGreatDoor
open Go.RowKit Go.Maps
def elT (i : Nat) : TypeId := [133, 135, 137, 138, 139, 141, 143, 45, 23, 24, 144, 149, 154, 160, 165, 170, 175].getD i 0
def bagG (f : Nat → Value) : Array Value := #[f 0, f 1, f 2, f 3, f 4, f 5, f 6, f 7, f 8, f 9, f 10, f 11, f 12, f 13, f 14, f 15, f 16]
theorem bagG_set (f : Nat → Value) (i : Nat) (hi : i < 17) (v : Value) : (bagG f).setIfInBounds i v = bagG (fun j => if j = i then v else f j) := by
 have h : i = 0 ∨ i = 1 ∨ i = 2 ∨ i = 3 ∨ i = 4 ∨ i = 5 ∨ i = 6 ∨ i = 7 ∨ i = 8 ∨ i = 9 ∨ i = 10 ∨ i = 11 ∨ i = 12 ∨ i = 13 ∨ i = 14 ∨ i = 15 ∨ i = 16 := by omega
 rcases h with rfl | rfl | rfl | rfl | rfl | rfl | rfl | rfl | rfl | rfl | rfl | rfl | rfl | rfl | rfl | rfl | rfl <;> rfl
theorem elT_ne : ∀ i < 17, ∀ j < 17, i ≠ j → elT i ≠ elT j := by decide
theorem elT_bag : ∀ i < 17, elT i ≠ 86 := by decide
def at1 (i : Nat) (l : List Sl) : Nat → List Sl := fun j => if j = i then l else []
def addB (L M : Nat → List Sl) : Nat → List Sl := fun j => L j ++ M j
theorem addB_assoc (L M N : Nat → List Sl) : addB (addB L M) N = addB L (addB M N) := funext fun _ => List.append_assoc _ _ _
theorem addB_nil (L : Nat → List Sl) : addB L (fun _ => []) = L := funext fun _ => List.append_nil _
theorem addB_at1 (L : Nat → List Sl) (i : Nat) (l m : List Sl) : addB (addB L (at1 i l)) (at1 i m) = addB L (at1 i (l ++ m)) := by
 rw [addB_assoc]
 congr 1
 funext j
 unfold addB at1
 split <;> simp
theorem at1_nil (i : Nat) : at1 i [] = fun _ => [] := funext fun j => by unfold at1; split <;> rfl
structure BagG (W w : World) (bg : Nat) (L : Nat → List Sl) : Prop where
 below : Below W.heap.size W w
 ge : W.heap.size ≤ bg
 rows : ∃ f, w.heap[bg]? = some (.cells (bagG f) 86 (0, 0)) ∧ (∀ j, j < 17 → w.ownsRow W.heap.size (elT j) 1 (f j) (L j).length ((L j).map slV)) ∧ ∀ j, j < 17 → L j = [] → f j = .slice none 0 0
theorem BagG.step {W w w' : World} {bg : Nat} {L : Nat → List Sl} (h : BagG W w bg L) (hb : Below w.heap.size w w') : BagG W w' bg L := by
 obtain ⟨f, h1, h2, h3⟩ := h.rows
 exact ⟨h.below.trans (hb.mono h.below.size), h.ge, f, (hb.block bg (heap_some_lt h1)).trans h1, fun j hj => own_below (h2 j hj) hb, h3⟩
theorem BagG.put {W w w1 : World} {bg : Nat} {L : Nat → List Sl} {f : Nat → Value} {v : Value} {p : Sl} (i : Nat) (hi : i < 17) (hge : W.heap.size ≤ bg) (hb : Below W.heap.size W w) (h1 : w.heap[bg]? = some (.cells (bagG f) 86 (0, 0)))
  (h2 : ∀ j, j < 17 → w.ownsRow W.heap.size (elT j) 1 (f j) (L j).length ((L j).map slV)) (h3 : ∀ j, j < 17 → L j = [] → f j = .slice none 0 0)
  (ho : w1.ownsRow W.heap.size (elT i) 1 v ((L i).length + 1) ((L i).map slV ++ [slV p])) (hg : w.grownBy w1 (f i).ownBlock) :
  w1.heap[bg]? = some (.cells (bagG f) 86 (0, 0)) ∧ BagG W (w1.setCell ⟨bg, i, none⟩ v) bg (addB L (at1 i [p])) := by
 have hne : ∀ b, (f i).ownBlock = some b → b ≠ bg := fun b hb' e => by
  subst e
  obtain ⟨cs, fr, h4⟩ := own_at (h2 i hi) b hb'
  rw [h1] at h4
  injection h4 with h4
  injection h4 with _ h4
  exact absurd h4.symm (elT_bag i hi)
 have hbg : w1.heap[bg]? = some (.cells (bagG f) 86 (0, 0)) := (hg.block bg (heap_some_lt h1) (fun e => hne bg e.symm rfl)).trans h1
 have hat : TypeAt w1 (some bg) 86 := fun b e => by injection e with e; subst e; exact ⟨_, _, hbg⟩
 have hsg := setCell_grown w1 bg i v
 refine ⟨hbg, (hb.grown hg hb.size (fun k e => ((h2 i hi).lt k e).1)).setCell hge _, hge, fun j => if j = i then v else f j, ?_, fun j hj => ?_, fun j hj hl => ?_⟩
 ·have := heap_setCell_same w1 bg i (bagG f) 86 v hbg
  rwa [bagG_set f i hi] at this
 ·by_cases e : j = i
  ·subst e
   show World.ownsRow _ _ _ _ (if j = j then v else f j) _ _
   rw [if_pos rfl]
   have hl : addB L (at1 j [p]) j = L j ++ [p] := by unfold addB at1; rw [if_pos rfl]
   rw [hl, List.length_append, List.map_append]
   exact own_keptT ho hsg hat (elT_bag j hj)
  ·show World.ownsRow _ _ _ _ (if j = i then v else f j) _ _
   rw [if_neg e]
   have hl : addB L (at1 i [p]) j = L j := by unfold addB at1; rw [if_neg e, List.append_nil]
   rw [hl]
   exact own_keptT (own_keptT (h2 j hj) hg (own_at (h2 i hi)) (elT_ne j hj i hi e)) hsg hat (elT_bag j hj)
 ·by_cases e : j = i
  ·subst e
   unfold addB at1 at hl
   rw [if_pos rfl] at hl
   simp at hl
  ·show (if j = i then v else f j) = _
   rw [if_neg e]
   refine h3 j hj ?_
   unfold addB at1 at hl
   rw [if_neg e, List.append_nil] at hl
   exact hl
def Calm (w w' : World) : Prop := w.heap.size ≤ w'.heap.size ∧ ∀ (b : Nat) (cs : Array Value) (t : TypeId) (fr : Nat × Nat), w.heap[b]? = some (Obj.cells cs t fr) → (∀ i, i < 17 → t ≠ elT i) → t ≠ 86 → w'.heap[b]? = w.heap[b]?
theorem Calm.trans {w w1 w2 : World} (h : Calm w w1) (h' : Calm w1 w2) : Calm w w2 := ⟨Nat.le_trans h.1 h'.1, fun b cs t fr q1 q2 q3 => (h'.2 b cs t fr ((h.2 b cs t fr q1 q2 q3).trans q1) q2 q3).trans (h.2 b cs t fr q1 q2 q3)⟩
theorem Calm.below {w w' : World} (h : Below w.heap.size w w') : Calm w w' := ⟨h.size, fun b _ _ _ q1 _ _ => h.block b (heap_some_lt q1)⟩
theorem Calm.grown {w w' : World} {r : Option Nat} (h : w.grownBy w' r) (i : Nat) (hi : i < 17) (hr : TypeAt w r (elT i)) : Calm w w' := ⟨h.size, fun b cs t fr q1 q2 _ => h.block b (heap_some_lt q1) fun e => by
  obtain ⟨cs', fr', q4⟩ := hr b e.symm
  rw [q1] at q4
  injection q4 with q4
  injection q4 with _ q4
  exact q2 i hi q4⟩
theorem Calm.set {w : World} {bg i : Nat} {v : Value} {cs : Array Value} {fr : Nat × Nat} (h : w.heap[bg]? = some (Obj.cells cs 86 fr)) : Calm w (w.setCell ⟨bg, i, none⟩ v) := ⟨by simp [World.setCell], fun b cs' t fr' q1 _ q3 => Below.heap_setCell w _ _ _ fun e => by
  have e : b = bg := e
  rw [e, h] at q1
  injection q1 with q1
  injection q1 with _ q1
  exact q3 q1.symm⟩
def BagGC (W w : World) (bg : Nat) (L : Nat → List Sl) (e : Ending) (w' : World) : Prop := e = .returned (.tuple #[]) ∧ BagG W w' bg L ∧ Calm w w'
def BagGP (W : World) (bg : Nat) (L : Nat → List Sl) (e : Ending) (w' : World) : Prop := e = .returned (.tuple #[]) ∧ BagG W w' bg L
set_option maxHeartbeats 2000000 in
theorem putPartsG (W w : World) (bg : Nat) (L : Nat → List Sl) (A : Option Addr) (n c : Nat) (h : BagG W w bg L) (hk : (L 7).length ≤ 1000000) :
  Calls Tryz.prog 127 #[.pointer (some ⟨bg, 0, none⟩), .slice A n c] w (BagGC W w bg (addB L (at1 7 [(A, n, c)]))) := by
 obtain ⟨i0, hi, hz0, hz1, hz2⟩ := info_parts infoSP
 have hwz := h.below.size
 have hal : Below w.heap.size w (w.alloc (.cells #[.slice A n c] 45)) := (Below.refl w.heap.size w).alloc (Nat.le_refl _) _
 obtain ⟨f, h10, h20, h30⟩ := h.rows
 have h1 := (hal.block bg (heap_some_lt h10)).trans h10
 have h2 : ∀ j, j < 17 → (w.alloc (.cells #[.slice A n c] 45)).ownsRow W.heap.size (elT j) 1 (f j) (L j).length ((L j).map slV) := fun j hj => own_below (h20 j hj) hal
 obtain ⟨Ap, np, cp, ef⟩ := own_slice (h2 7 (by decide))
 have h2i : (w.alloc (.cells #[.slice A n c] 45)).ownsRow W.heap.size 45 1 (.slice Ap np cp) (L 7).length ((L 7).map slV) := by rw [← ef]; exact h2 7 (by decide)
 have f0 : w.cell? ⟨bg, 7, none⟩ = some (.slice Ap np cp) := by rw [← ef]; exact cell_of_row _ _ 7 _ _ (0, 0) h10
 have HNW := Lib.hid (heap_alloc_new w (.cells #[.slice A n c] 45))
 have HW : Hid (Below W.heap.size W (w.alloc (.cells #[.slice A n c] 45))) := h.below.trans (hal.mono hwz)
 have HGE := Lib.hid h.ge
 have H1 := Lib.hid h1
 have H2 := Lib.hid h2
 have H2I := Lib.hid h2i
 have H3 := Lib.hid h30
 have EF := Lib.hid ef
 have HAL := Lib.hid hal
 obtain ⟨k, hkk⟩ : ∃ k, (L 7).length = k := ⟨_, rfl⟩
 have HKK := Lib.hid hkk
 have hk2 : k ≤ 1000000 := by omega
 clear h h1 h2 h2i h10 h20 h30 hkk hk hal ef
 go_enter Tryz.func127, Tryz.ntmps127
 go_wp2_with (at_builtin; refine wpList_append_own _ rfl _ _ 76 rfl W.heap.size 45 i0 (.slice none 0 0) 1 24 Tryz.underlying76 hi hz0 hz1 hz2 rfl (by decide) _ (L 7).length _ rfl H2I.out ⟨w.heap.size, 0, none⟩ 1 1 [.slice A n c] rfl rfl (World.news_of_block (cs := #[.slice A n c]) (t := 45) (fr := (0, 0)) HNW.out) (by simp [Value.oneCell']) ?c1 ?c2 ?c3 ?_)
 case c1 => have := HKK.out; unfold maxLen; omega
 case c2 => have := HKK.out; omega
 case c3 => first | omega | (simp; omega)
 intro v w1 ho hg _
 obtain ⟨Av, nv, cv, rfl⟩ := own_slice ho
 obtain ⟨hbg, hbs⟩ := BagG.put (p := (A, n, c)) 7 (by decide) HGE.out HW.out H1.out H2.out H3.out ho (by rw [EF.out]; exact hg)
 have d1 : w1.cell? ⟨bg, 7, none⟩ = some (.slice Ap np cp) := by rw [← EF.out]; exact cell_of_row _ _ 7 _ _ (0, 0) hbg
 have z1 : w1.frozen? ⟨bg, 7, none⟩ = false := frozen_of_row w1 bg 7 _ _ hbg
 have HCALM : Hid (Calm w (w1.setCell ⟨bg, 7, none⟩ (.slice Av nv cv))) := ((Calm.below HAL.out).trans (Calm.grown (r := (f 7).ownBlock) (by rw [EF.out]; exact hg) 7 (by decide) (own_at (H2.out 7 (by decide))))).trans (Calm.set hbg)
 have HFIN : Hid (BagGC W w bg (addB L (at1 7 [(A, n, c)])) (.returned (.tuple #[])) (w1.setCell ⟨bg, 7, none⟩ (.slice Av nv cv))) := ⟨rfl, hbs, HCALM.out⟩
 clear ho hg hbg hbs H1 H2 H2I H3 HW f0
 go_wp2
 exact bodyPost_ret (v := .tuple #[]) (by simp [results, Tryz.results127, go_sem]) rfl HFIN.out
set_option maxHeartbeats 2000000 in
theorem oneLevelG (W w : World) (bg : Nat) (L : Nat → List Sl) (A : Option Addr) (n c : Nat) (h : BagG W w bg L) (hk : (L 7).length ≤ 1000000) :
  Calls Tryz.prog 116 #[.pointer (some ⟨bg, 0, none⟩), .agg #[.slice A n c]] w (BagGC W w bg (addB L (at1 7 [(A, n, c)]))) := by
 have hfd := field_parts
 have HC := Lib.hid (putPartsG W (w.alloc (.cells #[.slice A n c] 47)) bg L A n c (h.step ((Below.refl w.heap.size w).alloc (Nat.le_refl _) _)) hk)
 clear h hk
 go_enter Tryz.func116, Tryz.ntmps116
 go_wp2_with (fail)
 refine HC.out.mono ?_
 rintro e w1 ⟨rfl, hb, hcm⟩
 have HF := Lib.hid hb
 have HCM : Hid (Calm w w1) := (Calm.below ((Below.refl w.heap.size w).alloc (Nat.le_refl _) _)).trans hcm
 clear hb hcm
 go_wp2
 exact bodyPost_ret (v := .tuple #[]) (by simp [results, Tryz.results116, go_sem]) rfl ⟨rfl, HF.out, HCM.out⟩
set_option maxHeartbeats 4000000 in
theorem putLevelsG (W w : World) (bg : Nat) (L : Nat → List Sl) (A : Option Addr) (n c : Nat) (qs : List Sl) (h : BagG W w bg L) (hk8 : (L 8).length ≤ 400000) (hk7 : (L 7).length + n ≤ 400000) (hq : LvlRow W (A, n, c) qs) :
  Calls Tryz.prog 91 #[.pointer (some ⟨bg, 0, none⟩), .slice A n c] w (BagGC W w bg (addB (addB L (at1 8 [(A, n, c)])) (at1 7 qs))) := by
 obtain ⟨i0, hi, hz0, hz1, hz2⟩ := info_parts infoSL
 have hwz := h.below.size
 have hal : Below w.heap.size w (w.alloc (.cells #[.slice A n c] 23)) := (Below.refl w.heap.size w).alloc (Nat.le_refl _) _
 obtain ⟨f, h10, h20, h30⟩ := h.rows
 have h1 := (hal.block bg (heap_some_lt h10)).trans h10
 have h2 : ∀ j, j < 17 → (w.alloc (.cells #[.slice A n c] 23)).ownsRow W.heap.size (elT j) 1 (f j) (L j).length ((L j).map slV) := fun j hj => own_below (h20 j hj) hal
 obtain ⟨Ap, np, cp, ef⟩ := own_slice (h2 8 (by decide))
 have h2i : (w.alloc (.cells #[.slice A n c] 23)).ownsRow W.heap.size 23 1 (.slice Ap np cp) (L 8).length ((L 8).map slV) := by rw [← ef]; exact h2 8 (by decide)
 have f0 : w.cell? ⟨bg, 8, none⟩ = some (.slice Ap np cp) := by rw [← ef]; exact cell_of_row _ _ 8 _ _ (0, 0) h10
 have HNW := Lib.hid (heap_alloc_new w (.cells #[.slice A n c] 23))
 have HW : Hid (Below W.heap.size W (w.alloc (.cells #[.slice A n c] 23))) := h.below.trans (hal.mono hwz)
 have HGE := Lib.hid h.ge
 have H1 := Lib.hid h1
 have H2 := Lib.hid h2
 have H2I := Lib.hid h2i
 have H3 := Lib.hid h30
 have EF := Lib.hid ef
 have HAL := Lib.hid hal
 obtain ⟨k, hkk⟩ : ∃ k, (L 8).length = k := ⟨_, rfl⟩
 have HKK := Lib.hid hkk
 have hk2 : k ≤ 1000000 := by omega
 have HQ := Lib.hid hq
 have HK7 := Lib.hid hk7
 clear h h1 h2 h2i h10 h20 h30 hkk hk8 hal ef hq
 go_enter Tryz.func91, Tryz.ntmps91
 go_wp2_with (at_builtin; refine wpList_append_own _ rfl _ _ 77 rfl W.heap.size 23 i0 (.slice none 0 0) 1 24 Tryz.underlying77 hi hz0 hz1 hz2 rfl (by decide) _ (L 8).length _ rfl H2I.out ⟨w.heap.size, 0, none⟩ 1 1 [.slice A n c] rfl rfl (World.news_of_block (cs := #[.slice A n c]) (t := 23) (fr := (0, 0)) HNW.out) (by simp [Value.oneCell']) ?c1 ?c2 ?c3 ?_)
 case c1 => have := HKK.out; unfold maxLen; omega
 case c2 => have := HKK.out; omega
 case c3 => first | omega | (simp; omega)
 intro v w1 ho hg _
 obtain ⟨Av, nv, cv, rfl⟩ := own_slice ho
 obtain ⟨hbg, hbs⟩ := BagG.put (p := (A, n, c)) 8 (by decide) HGE.out HW.out H1.out H2.out H3.out ho (by rw [EF.out]; exact hg)
 have d1 : w1.cell? ⟨bg, 8, none⟩ = some (.slice Ap np cp) := by rw [← EF.out]; exact cell_of_row _ _ 8 _ _ (0, 0) hbg
 have z1 : w1.frozen? ⟨bg, 8, none⟩ = false := frozen_of_row w1 bg 8 _ _ hbg
 have HCALM : Hid (Calm w (w1.setCell ⟨bg, 8, none⟩ (.slice Av nv cv))) := ((Calm.below HAL.out).trans (Calm.grown (r := (f 8).ownBlock) (by rw [EF.out]; exact hg) 8 (by decide) (own_at (H2.out 8 (by decide))))).trans (Calm.set hbg)
 have HBS := Lib.hid hbs
 clear ho hg hbg hbs H1 H2 H2I H3 HW f0
 go_wp2
 go_loopw [4] (fun i wr => ∃ k : Nat, k ≤ n ∧ i = .int .i64 (k : Int) ∧ BagG W wr bg (addB (addB L (at1 8 [(A, n, c)])) (at1 7 (qs.take k))) ∧ Calm w wr) (fun i _ => n - (intOf i).toNat)
 case atStart => exact ⟨0, by omega, rfl, by rw [List.take_zero, at1_nil, addB_nil]; exact HBS.out, HCALM.out⟩
 case round =>
  obtain ⟨k, hk, rfl, hbs, hcm⟩ := hrel
  have HCMR := Lib.hid hcm
  clear hcm
  obtain ⟨hql, hqc⟩ := HQ.out
  simp only at hql hqc
  by_cases hlt : k < n
  ·obtain ⟨⟨Aq, nq, cq⟩, hqk⟩ : ∃ q, qs[k]? = some q := ⟨qs[k]'(by omega), List.getElem?_eq_getElem _⟩
   obtain ⟨g, e, hgz, hcell⟩ := hqc k _ hqk
   subst e
   have c0 : wr.cell? ⟨g, k, none⟩ = some (.slice Aq nq cq) := (hbs.below.cell (p := ⟨g, k, none⟩) hgz).trans hcell
   have hlen : (addB (addB L (at1 8 [((some ⟨g, 0, none⟩ : Option Addr), n, c)])) (at1 7 (qs.take k)) 7).length ≤ 1000000 := by
    have := HK7.out
    show (((L 7) ++ []) ++ qs.take k).length ≤ _
    rw [List.length_append, List.length_append, List.length_take]
    simp
    omega
   have HC := Lib.hid (oneLevelG W wr bg _ Aq nq cq hbs hlen)
   have HT : Hid (addB (addB (addB L (at1 8 [((some ⟨g, 0, none⟩ : Option Addr), n, c)])) (at1 7 (qs.take k))) (at1 7 [(Aq, nq, cq)]) = addB (addB L (at1 8 [((some ⟨g, 0, none⟩ : Option Addr), n, c)])) (at1 7 (qs.take (k + 1)))) := by
    show _ = _
    rw [addB_at1, take_snoc_ hqk]
   have ij0 : (0 : Int) ≤ (k : Int) := by omega
   have ij1 : (k : Int) < (n : Int) := by omega
   clear hbs hql hqc hqk hcell hlen
   go_wp2_with (fail)
   refine HC.out.mono ?_
   rintro e w2 ⟨rfl, hb2, hcm2⟩
   rw [HT.out] at hb2
   have HF := Lib.hid hb2
   have HCM2 : Hid (Calm w w2) := HCMR.out.trans hcm2
   clear hb2 c0 hcm2
   go_wp2
   go_roundw
   case rel => exact ⟨k + 1, by omega, by go_num, HF.out, HCM2.out⟩
   case measure => simp [intOf]; omega
  ·have HF : Hid (BagG W wr bg (addB (addB L (at1 8 [(A, n, c)])) (at1 7 qs))) := by
    rw [List.take_of_length_le (by omega)] at hbs
    exact hbs
   clear hbs hql hqc
   go_wp2
   exact bodyPost_ret (v := .tuple #[]) (by simp [results, Tryz.results91, go_sem]) rfl ⟨rfl, HF.out, HCMR.out⟩
def sumB : List (Nat → List Sl) → Nat → List Sl
 | [] => fun _ => []
 | M :: Ms => addB M (sumB Ms)
theorem sumB_snoc : ∀ (Ms : List (Nat → List Sl)) (M : Nat → List Sl), sumB (Ms ++ [M]) = addB (sumB Ms) M
 | [], M => by show addB M (fun _ => []) = addB (fun _ => []) M; rw [addB_nil]; rfl
 | N :: Ms, M => by show addB N (sumB (Ms ++ [M])) = addB (addB N (sumB Ms)) M; rw [sumB_snoc Ms M, addB_assoc]
theorem sumB_take_le : ∀ (Ms : List (Nat → List Sl)) (k j : Nat), (sumB (Ms.take k) j).length ≤ (sumB Ms j).length
 | [], k, j => by simp
 | M :: Ms, 0, j => by simp [sumB]
 | M :: Ms, k + 1, j => by
  have := sumB_take_le Ms k j
  show (M j ++ sumB (Ms.take k) j).length ≤ (M j ++ sumB Ms j).length
  rw [List.length_append, List.length_append]
  omega
mutual
def TmRows (w : World) : Tm → Value → (Nat → List Sl) → Prop
 | .mk k n a _ kids, v, M => ∃ pl pk qs Ms, v = .agg #[.int .i64 k, .int .i64 n, .int .i64 a, slV pl, slV pk] ∧ LvlRow w pl qs ∧ kids.length = pk.2.1 ∧ TmsRows w pk 0 kids Ms ∧ M = addB (addB (at1 8 [pl]) (at1 7 qs)) (addB (at1 9 [pk]) (sumB Ms))
def TmsRows (w : World) (p : Sl) : Nat → List Tm → List (Nat → List Sl) → Prop
 | _, [], Ms => Ms = []
 | i, t :: ts, Ms => ∃ M Ms', Ms = M :: Ms' ∧ (∃ g v, p.1 = some ⟨g, 0, none⟩ ∧ g < w.heap.size ∧ Five w g (i * 5) v ∧ TmRows w t v M) ∧ TmsRows w p (i + 1) ts Ms'
end
theorem TmRows.open {w : World} {k n a : Int} {lv : List (List (Int × Int))} {kids : List Tm} {v : Value} {M : Nat → List Sl} (h : TmRows w (.mk k n a lv kids) v M) :
  ∃ pl pk qs Ms, v = .agg #[.int .i64 k, .int .i64 n, .int .i64 a, slV pl, slV pk] ∧ LvlRow w pl qs ∧ kids.length = pk.2.1 ∧ TmsRows w pk 0 kids Ms ∧ M = addB (addB (at1 8 [pl]) (at1 7 qs)) (addB (at1 9 [pk]) (sumB Ms)) := by
 unfold TmRows at h
 exact h
theorem TmsRows.get {w : World} {p : Sl} : ∀ {ts : List Tm} {i : Nat} {Ms : List (Nat → List Sl)}, TmsRows w p i ts Ms → ∀ (k : Nat) (t : Tm), ts[k]? = some t → ∃ M g v, Ms[k]? = some M ∧ p.1 = some ⟨g, 0, none⟩ ∧ g < w.heap.size ∧ Five w g ((i + k) * 5) v ∧ TmRows w t v M
 | [], _, _, _, k, t, hk => by simp at hk
 | s :: ts, i, Ms, h, 0, t, hk => by
  unfold TmsRows at h
  obtain ⟨M, Ms', rfl, ⟨g, v, h1, h2, h3, h4⟩, _⟩ := h
  injection hk with hk
  subst hk
  exact ⟨M, g, v, rfl, h1, h2, h3, h4⟩
 | s :: ts, i, Ms, h, k + 1, t, hk => by
  unfold TmsRows at h
  obtain ⟨M, Ms', rfl, _, h5⟩ := h
  obtain ⟨M2, g, v, q1, q2, q3, q4, q5⟩ := h5.get k t (by simpa using hk)
  exact ⟨M2, g, v, by simpa using q1, q2, q3, by rw [show i + (k + 1) = i + 1 + k by omega]; exact q4, q5⟩
theorem TmsRows.nine {w : World} {p : Sl} : ∀ {ts : List Tm} {i : Nat} {Ms : List (Nat → List Sl)}, TmsRows w p i ts Ms → ts.length ≤ (sumB Ms 9).length
 | [], _, _, _ => Nat.zero_le _
 | s :: ts, i, Ms, h => by
  unfold TmsRows at h
  obtain ⟨M, Ms', rfl, ⟨_, _, _, _, _, h4⟩, h5⟩ := h
  have h6 := h5.nine
  obtain ⟨k, n, a, lv, kids⟩ := s
  obtain ⟨pl, pk, qs, Ns, _, _, _, _, rfl⟩ := h4.open
  show _ ≤ (addB _ (sumB Ms') 9).length
  unfold addB at1
  simp
  omega
theorem TmsRows.length {w : World} {p : Sl} : ∀ {ts : List Tm} {i : Nat} {Ms : List (Nat → List Sl)}, TmsRows w p i ts Ms → Ms.length = ts.length
 | [], _, _, h => by unfold TmsRows at h; subst h; rfl
 | s :: ts, i, Ms, h => by
  unfold TmsRows at h
  obtain ⟨M, Ms', rfl, _, h5⟩ := h
  simp [h5.length]
theorem addB_len (L M : Nat → List Sl) (j : Nat) : (addB L M j).length = (L j).length + (M j).length := List.length_append
theorem at1_len (i : Nat) (l : List Sl) (j : Nat) : (at1 i l j).length = if j = i then l.length else 0 := by unfold at1; split <;> rfl
def OneT (t : Tm) : Prop := ∀ (W w : World) (bg : Nat) (L M : Nat → List Sl) (v : Value), BagG W w bg L → TmRows W t v M → (∀ j, (addB L M j).length ≤ 400000) → Calls Tryz.prog 60 #[.pointer (some ⟨bg, 0, none⟩), v] w (BagGP W bg (addB L M))
set_option maxHeartbeats 4000000 in
theorem putTermsG (kids : List Tm) (ih : ∀ t ∈ kids, OneT t) (W w : World) (bg : Nat) (L : Nat → List Sl) (A : Option Addr) (n c : Nat) (Ms : List (Nat → List Sl)) (h : BagG W w bg L) (hkl : kids.length = n) (hq : TmsRows W (A, n, c) 0 kids Ms) (hM : ∀ j, (addB (addB L (at1 9 [(A, n, c)])) (sumB Ms) j).length ≤ 400000) :
  Calls Tryz.prog 43 #[.pointer (some ⟨bg, 0, none⟩), .slice A n c] w (BagGP W bg (addB (addB L (at1 9 [(A, n, c)])) (sumB Ms))) := by
 have hk9 : (L 9).length ≤ 400000 := by
  have := hM 9
  rw [addB_len, addB_len] at this
  omega
 have hn9 : n ≤ 400000 := by
  have := hM 9
  have h2 := hq.nine
  rw [addB_len] at this
  omega
 obtain ⟨i0, hi, hz0, hz1, hz2⟩ := info_parts infoST
 have hwz := h.below.size
 have hal : Below w.heap.size w (w.alloc (.cells #[.slice A n c] 24)) := (Below.refl w.heap.size w).alloc (Nat.le_refl _) _
 obtain ⟨f, h10, h20, h30⟩ := h.rows
 have h1 := (hal.block bg (heap_some_lt h10)).trans h10
 have h2 : ∀ j, j < 17 → (w.alloc (.cells #[.slice A n c] 24)).ownsRow W.heap.size (elT j) 1 (f j) (L j).length ((L j).map slV) := fun j hj => own_below (h20 j hj) hal
 obtain ⟨Ap, np, cp, ef⟩ := own_slice (h2 9 (by decide))
 have h2i : (w.alloc (.cells #[.slice A n c] 24)).ownsRow W.heap.size 24 1 (.slice Ap np cp) (L 9).length ((L 9).map slV) := by rw [← ef]; exact h2 9 (by decide)
 have f0 : w.cell? ⟨bg, 9, none⟩ = some (.slice Ap np cp) := by rw [← ef]; exact cell_of_row _ _ 9 _ _ (0, 0) h10
 have HNW := Lib.hid (heap_alloc_new w (.cells #[.slice A n c] 24))
 have HW : Hid (Below W.heap.size W (w.alloc (.cells #[.slice A n c] 24))) := h.below.trans (hal.mono hwz)
 have HGE := Lib.hid h.ge
 have H1 := Lib.hid h1
 have H2 := Lib.hid h2
 have H2I := Lib.hid h2i
 have H3 := Lib.hid h30
 have EF := Lib.hid ef
 have HAL := Lib.hid hal
 obtain ⟨k, hkk⟩ : ∃ k, (L 9).length = k := ⟨_, rfl⟩
 have HKK := Lib.hid hkk
 have hk2 : k ≤ 1000000 := by omega
 have HQ := Lib.hid hq
 have HML := Lib.hid hM
 have HKL := Lib.hid hkl
 have IH := Lib.hid ih
 clear h h1 h2 h2i h10 h20 h30 hkk hk9 hal ef hq hM hkl ih
 go_enter Tryz.func43, Tryz.ntmps43
 go_wp2_with (at_builtin; refine wpList_append_own _ rfl _ _ 42 rfl W.heap.size 24 i0 (.slice none 0 0) 1 24 Tryz.underlying42 hi hz0 hz1 hz2 rfl (by decide) _ (L 9).length _ rfl H2I.out ⟨w.heap.size, 0, none⟩ 1 1 [.slice A n c] rfl rfl (World.news_of_block (cs := #[.slice A n c]) (t := 24) (fr := (0, 0)) HNW.out) (by simp [Value.oneCell']) ?c1 ?c2 ?c3 ?_)
 case c1 => have := HKK.out; unfold maxLen; omega
 case c2 => have := HKK.out; omega
 case c3 => first | omega | (simp; omega)
 intro v w1 ho hg _
 obtain ⟨Av, nv, cv, rfl⟩ := own_slice ho
 obtain ⟨hbg, hbs⟩ := BagG.put (p := (A, n, c)) 9 (by decide) HGE.out HW.out H1.out H2.out H3.out ho (by rw [EF.out]; exact hg)
 have d1 : w1.cell? ⟨bg, 9, none⟩ = some (.slice Ap np cp) := by rw [← EF.out]; exact cell_of_row _ _ 9 _ _ (0, 0) hbg
 have z1 : w1.frozen? ⟨bg, 9, none⟩ = false := frozen_of_row w1 bg 9 _ _ hbg
 have HCALM : Hid (Calm w (w1.setCell ⟨bg, 9, none⟩ (.slice Av nv cv))) := ((Calm.below HAL.out).trans (Calm.grown (r := (f 9).ownBlock) (by rw [EF.out]; exact hg) 9 (by decide) (own_at (H2.out 9 (by decide))))).trans (Calm.set hbg)
 have HBS := Lib.hid hbs
 clear ho hg hbg hbs H1 H2 H2I H3 HW f0
 go_wp2
 go_loopw [4] (fun i wr => ∃ k : Nat, k ≤ n ∧ i = .int .i64 (k : Int) ∧ BagG W wr bg (addB (addB L (at1 9 [(A, n, c)])) (sumB (Ms.take k)))) (fun i _ => n - (intOf i).toNat)
 case atStart => exact ⟨0, by omega, rfl, by rw [List.take_zero]; show BagG _ _ _ (addB _ (fun _ => [])); rw [addB_nil]; exact HBS.out⟩
 case round =>
  obtain ⟨k, hk, rfl, hbs⟩ := hrel
  by_cases hlt : k < n
  ·obtain ⟨t, ht⟩ : ∃ t, kids[k]? = some t := ⟨kids[k]'(by rw [HKL.out]; exact hlt), List.getElem?_eq_getElem _⟩
   obtain ⟨M, g, v, hMk, eA, hgz, h5, hrow⟩ := HQ.out.get k t ht
   have eA : A = some ⟨g, 0, none⟩ := eA
   subst eA
   rw [Nat.zero_add] at h5
   replace h5 := h5.keep (w' := wr) fun j => hbs.below.cell (p := ⟨g, j, none⟩) hgz
   obtain ⟨c0, c1, c2, c3, c4, rfl, f0, f1, f2, f3, f4⟩ := h5
   obtain ⟨i1, i2, i3, B1, B2, j1, d1, j2, d2, ev⟩ : ∃ (i j l : Int) (A B : Option Addr) (n c m d : Nat), (Value.agg #[c0, c1, c2, c3, c4]) = .agg #[.int .i64 i, .int .i64 j, .int .i64 l, .slice A n c, .slice B m d] := by
    obtain ⟨kk, nn, aa, lv, ks⟩ := t
    obtain ⟨pl, pk, _, _, ev, _⟩ := hrow.open
    exact ⟨_, _, _, _, _, _, _, _, _, ev⟩
   injection ev with ev
   injection ev with ev
   injection ev with e0 ev
   injection ev with e1 ev
   injection ev with e2 ev
   injection ev with e3 ev
   injection ev with e4 _
   subst e0 e1 e2 e3 e4
   have HT : Hid (addB (addB (addB L (at1 9 [((some ⟨g, 0, none⟩ : Option Addr), n, c)])) (sumB (Ms.take k))) M = addB (addB L (at1 9 [((some ⟨g, 0, none⟩ : Option Addr), n, c)])) (sumB (Ms.take (k + 1)))) := by
    show _ = _
    rw [take_snoc_ hMk, sumB_snoc, ← addB_assoc]
   have HC := Lib.hid (IH.out t (List.mem_of_getElem? ht) W wr bg _ M _ hbs hrow (fun j => by
     rw [HT.out]
     have h1 := HML.out j
     have h2 := sumB_take_le Ms (k + 1) j
     rw [addB_len] at h1 ⊢
     omega))
   have ij0 : (0 : Int) ≤ (k : Int) := by omega
   have ij1 : (k : Int) < (n : Int) := by omega
   clear hbs ht hMk hgz hrow
   go_wp2_with (fail)
   refine HC.out.mono ?_
   rintro e w2 ⟨rfl, hb2⟩
   rw [HT.out] at hb2
   have HF := Lib.hid hb2
   clear hb2 f0 f1 f2 f3 f4
   go_wp2
   go_roundw
   case rel => exact ⟨k + 1, by omega, by go_num, HF.out⟩
   case measure => simp [intOf]; omega
  ·have HF : Hid (BagG W wr bg (addB (addB L (at1 9 [(A, n, c)])) (sumB Ms))) := by
    rw [List.take_of_length_le (by rw [HQ.out.length, HKL.out]; omega)] at hbs
    exact hbs
   clear hbs
   go_wp2
   exact bodyPost_ret (v := .tuple #[]) (by simp [results, Tryz.results43, go_sem]) rfl ⟨rfl, HF.out⟩
set_option maxHeartbeats 4000000 in
theorem oneT_of (k n a : Int) (lv : List (List (Int × Int))) (kids : List Tm) (ih : ∀ t ∈ kids, OneT t) : OneT (.mk k n a lv kids) := by
 intro W w bg L M v h hr hM
 obtain ⟨⟨A1, n1, d1⟩, ⟨A2, n2, d2⟩, qs, Ms, rfl, hq, hkl, hts, rfl⟩ := hr.open
 show Calls _ _ #[_, .agg #[.int .i64 k, .int .i64 n, .int .i64 a, .slice A1 n1 d1, .slice A2 n2 d2]] _ _
 obtain ⟨w1, hw1⟩ : ∃ x, w.alloc (.cells #[.int .i64 k, .int .i64 n, .int .i64 a, .slice A1 n1 d1, .slice A2 n2 d2] 26) = x := ⟨_, rfl⟩
 have hb1 : Below w.heap.size w w1 := by rw [← hw1]; exact (Below.refl _ _).alloc (Nat.le_refl _) _
 have x1 : w1.heap[w.heap.size]? = some (.cells #[.int .i64 k, .int .i64 n, .int .i64 a, .slice A1 n1 d1, .slice A2 n2 d2] 26 (0, 0)) := by rw [← hw1]; exact heap_alloc_new w _
 have h1 := h.step hb1
 have hwz := h.below.size
 have l7 := hM 7
 have l8 := hM 8
 rw [addB_len, addB_len, addB_len, at1_len, at1_len] at l7 l8
 simp at l7 l8
 have hql := hq.1
 simp only at hql
 have HC1 := Lib.hid (putLevelsG W w1 bg L A1 n1 d1 qs h1 (by omega) (by omega) hq)
 have HC2 : Hid (∀ w2, BagG W w2 bg (addB (addB L (at1 8 [(A1, n1, d1)])) (at1 7 qs)) → Calls Tryz.prog 43 #[.pointer (some ⟨bg, 0, none⟩), .slice A2 n2 d2] w2 (BagGP W bg (addB L (addB (addB (at1 8 [(A1, n1, d1)]) (at1 7 qs)) (addB (at1 9 [(A2, n2, d2)]) (sumB Ms)))))) := fun w2 h2 => by
  have e : addB L (addB (addB (at1 8 [(A1, n1, d1)]) (at1 7 qs)) (addB (at1 9 [(A2, n2, d2)]) (sumB Ms))) = addB (addB (addB (addB L (at1 8 [(A1, n1, d1)])) (at1 7 qs)) (at1 9 [(A2, n2, d2)])) (sumB Ms) := by
   simp only [addB_assoc]
  rw [e]
  refine putTermsG kids ih W w2 bg _ A2 n2 d2 Ms h2 hkl hts fun j => ?_
  rw [← e]
  exact hM j
 have y3 := cell_of_row _ _ 3 _ _ (0, 0) x1
 have hbox : w.heap.size < w1.heap.size := heap_some_lt x1
 have X1 := Lib.hid x1
 have HWB : Hid (W.heap.size ≤ w.heap.size) := hwz
 have hbg : bg < w.heap.size := by
  obtain ⟨f, q, _⟩ := h.rows
  exact heap_some_lt q
 have HBG := Lib.hid hbg
 clear h hr hM h1 hq hts l7 l8 hql hb1 x1 hkl hwz hbg
 go_enter Tryz.func60, Tryz.ntmps60
 go_wp2_with (fail)
 refine HC1.out.mono ?_
 rintro e w2 ⟨rfl, hb2, hcm⟩
 have hx2 := (hcm.2 _ _ _ _ X1.out (by decide) (by decide)).trans X1.out
 have z4 := cell_of_row _ _ 4 _ _ (0, 0) hx2
 have HC3 := Lib.hid (HC2.out w2 hb2)
 clear hb2 hcm hx2 HC1 HC2 y3
 go_wp2_with (fail)
 refine HC3.out.mono ?_
 rintro e w3 ⟨rfl, hb3⟩
 have HF := Lib.hid hb3
 clear hb3 z4
 go_wp2
 exact bodyPost_ret (v := .tuple #[]) (by simp [results, Tryz.results60, go_sem]) rfl ⟨rfl, HF.out⟩
theorem oneTG : ∀ t : Tm, OneT t := by
 intro t
 induction t using Tm.ind with
 | h k n a lv kids ih => exact oneT_of k n a lv kids ih
def bagN (a b c : Value) : Array Value := #[.slice none 0 0, .slice none 0 0, .slice none 0 0, .slice none 0 0, .slice none 0 0, .slice none 0 0, .slice none 0 0, a, b, c, .slice none 0 0, .slice none 0 0, .slice none 0 0, .slice none 0 0, .slice none 0 0, .slice none 0 0, .slice none 0 0]
theorem flatTerms_row (w : World) (B B0 : Nat) (L : List Sl) (X : Nat → List Value) (v : Value) (hr : w.ownsRow B0 24 1 v L.length (L.map slV)) (hF : Fleet w B 26 5 L X) (hB : B ≤ w.heap.size) (hn : ∀ p ∈ L, p.2.1 ≤ 1000000) (hm : L.length ≤ 400000) :
  Calls Tryz.prog 70 #[v] w (FlatPost w L) := by
 rcases hr.2 with ⟨rfl, h0⟩ | ⟨g, cap, cur, rfl, _, hh, _⟩
 ·exact (flatTerms_nil w).mono fun e w' h => ⟨h.1, (Sea.refl w L).below h.2⟩
 ·refine flatTerms_any w B g cap L L.length X rfl hm (heap_some_lt hh) (fun p hp e => ?_) (fun k p hp => ?_) hF hB hn
  ·obtain ⟨k, hk⟩ := List.getElem?_of_mem hp
   obtain ⟨cs, fr, h1⟩ := own_at (hF.own k p hk) g e
   rw [hh] at h1
   injection h1 with h1
   injection h1 with _ h1
   exact absurd h1 (by decide)
  ·have hk := (List.getElem?_eq_some_iff.1 hp).1
   rw [hr.cellAt k (by omega), List.getElem?_map, hp]
   rfl
set_option maxHeartbeats 4000000 in
theorem apartN_any (w : World) (bg B B0 : Nat) (Lp Ll Lt : List Sl) (Xp Xl Xt : Nat → List Value) (pv lv tv : Value) (hbag : w.heap[bg]? = some (.cells (bagN pv lv tv) 86 (0, 0))) (hpr : w.ownsRow B0 45 1 pv Lp.length (Lp.map slV)) (hlr : w.ownsRow B0 23 1 lv Ll.length (Ll.map slV)) (htr : w.ownsRow B0 24 1 tv Lt.length (Lt.map slV))
  (hp : Fleet w B 95 2 Lp Xp) (hl : Fleet w B 47 1 Ll Xl) (ht : Fleet w B 26 5 Lt Xt) (hB : B ≤ w.heap.size) (hpn : ∀ p ∈ Lp, p.2.1 ≤ 1000000) (hpm : Lp.length ≤ 400000) (hln : ∀ p ∈ Ll, p.2.1 ≤ 1000000) (hlm : Ll.length ≤ 400000) (htn : ∀ p ∈ Lt, p.2.1 ≤ 1000000) (htm : Lt.length ≤ 400000) :
  Calls Tryz.prog 44 #[.pointer (some ⟨bg, 0, none⟩)] w (YesPost B w) := by
 obtain ⟨Ap, np, cp, rfl⟩ := own_slice hpr
 obtain ⟨Al, nl, cl, rfl⟩ := own_slice hlr
 obtain ⟨At, nt, ct, rfl⟩ := own_slice htr
 unfold bagN at hbag
 obtain ⟨w0, hw0⟩ : ∃ x, x = w := ⟨_, rfl⟩
 have HB0 : Hid (Below B w w0) := by rw [hw0]; exact Below.refl _ _
 rw [← hw0] at hbag hpr hlr htr hp hl ht
 have HE0 := Lib.hid hbag
 have HR0 := Lib.hid hpr
 have HS0 := Lib.hid hlr
 have HU0 := Lib.hid htr
 have HP0 := Lib.hid hp
 have HL0 := Lib.hid hl
 have HT0 := Lib.hid ht
 clear hbag hpr hlr htr hp hl ht
 suffices hgo : Calls Tryz.prog 44 #[.pointer (some ⟨bg, 0, none⟩)] w0 (YesPost B w) by rwa [hw0] at hgo
 clear hw0
 go_enter Tryz.func44, Tryz.ntmps44
 have f0 : w0.cell? ⟨bg, 0, none⟩ = some (.slice none 0 0) := cell_of_row _ _ 0 _ _ (0, 0) HE0.out
 go_wp2_with (fail)
 refine (flatLimbs_nil _).mono ?_
 rintro e w1 ⟨rfl, hb⟩
 have HE1 := Lib.hid ((hb.block bg (heap_some_lt HE0.out)).trans HE0.out)
 have HB1 : Hid (Below B w w1) := HB0.out.trans (hb.mono (Nat.le_trans hB HB0.out.size))
 have HP1 := Lib.hid (HP0.out.below hb)
 have HR1 := Lib.hid (own_below HR0.out hb)
 have HL1 := Lib.hid (HL0.out.below hb)
 have HS1 := Lib.hid (own_below HS0.out hb)
 have HT1 := Lib.hid (HT0.out.below hb)
 have HU1 := Lib.hid (own_below HU0.out hb)
 clear hb f0 HE0 HB0 HP0 HR0 HL0 HS0 HT0 HU0
 have f1 : w1.cell? ⟨bg, 1, none⟩ = some (.slice none 0 0) := cell_of_row _ _ 1 _ _ (0, 0) HE1.out
 go_wp2_with (fail)
 refine (flatWords_nil _).mono ?_
 rintro e w2 ⟨rfl, hb⟩
 have HE2 := Lib.hid ((hb.block bg (heap_some_lt HE1.out)).trans HE1.out)
 have HB2 : Hid (Below B w w2) := HB1.out.trans (hb.mono (Nat.le_trans hB HB1.out.size))
 have HP2 := Lib.hid (HP1.out.below hb)
 have HR2 := Lib.hid (own_below HR1.out hb)
 have HL2 := Lib.hid (HL1.out.below hb)
 have HS2 := Lib.hid (own_below HS1.out hb)
 have HT2 := Lib.hid (HT1.out.below hb)
 have HU2 := Lib.hid (own_below HU1.out hb)
 clear hb f1 HE1 HB1 HP1 HR1 HL1 HS1 HT1 HU1
 have f2 : w2.cell? ⟨bg, 2, none⟩ = some (.slice none 0 0) := cell_of_row _ _ 2 _ _ (0, 0) HE2.out
 go_wp2_with (fail)
 refine (flatInts_nil _).mono ?_
 rintro e w3 ⟨rfl, hb⟩
 have HE3 := Lib.hid ((hb.block bg (heap_some_lt HE2.out)).trans HE2.out)
 have HB3 : Hid (Below B w w3) := HB2.out.trans (hb.mono (Nat.le_trans hB HB2.out.size))
 have HP3 := Lib.hid (HP2.out.below hb)
 have HR3 := Lib.hid (own_below HR2.out hb)
 have HL3 := Lib.hid (HL2.out.below hb)
 have HS3 := Lib.hid (own_below HS2.out hb)
 have HT3 := Lib.hid (HT2.out.below hb)
 have HU3 := Lib.hid (own_below HU2.out hb)
 clear hb f2 HE2 HB2 HP2 HR2 HL2 HS2 HT2 HU2
 have f3 : w3.cell? ⟨bg, 3, none⟩ = some (.slice none 0 0) := cell_of_row _ _ 3 _ _ (0, 0) HE3.out
 go_wp2_with (fail)
 refine (flatLongs_nil _).mono ?_
 rintro e w4 ⟨rfl, hb⟩
 have HE4 := Lib.hid ((hb.block bg (heap_some_lt HE3.out)).trans HE3.out)
 have HB4 : Hid (Below B w w4) := HB3.out.trans (hb.mono (Nat.le_trans hB HB3.out.size))
 have HP4 := Lib.hid (HP3.out.below hb)
 have HR4 := Lib.hid (own_below HR3.out hb)
 have HL4 := Lib.hid (HL3.out.below hb)
 have HS4 := Lib.hid (own_below HS3.out hb)
 have HT4 := Lib.hid (HT3.out.below hb)
 have HU4 := Lib.hid (own_below HU3.out hb)
 clear hb f3 HE3 HB3 HP3 HR3 HL3 HS3 HT3 HU3
 have f4 : w4.cell? ⟨bg, 4, none⟩ = some (.slice none 0 0) := cell_of_row _ _ 4 _ _ (0, 0) HE4.out
 go_wp2_with (fail)
 refine (flatTexts_nil _).mono ?_
 rintro e w5 ⟨rfl, hb⟩
 have HE5 := Lib.hid ((hb.block bg (heap_some_lt HE4.out)).trans HE4.out)
 have HB5 : Hid (Below B w w5) := HB4.out.trans (hb.mono (Nat.le_trans hB HB4.out.size))
 have HP5 := Lib.hid (HP4.out.below hb)
 have HR5 := Lib.hid (own_below HR4.out hb)
 have HL5 := Lib.hid (HL4.out.below hb)
 have HS5 := Lib.hid (own_below HS4.out hb)
 have HT5 := Lib.hid (HT4.out.below hb)
 have HU5 := Lib.hid (own_below HU4.out hb)
 clear hb f4 HE4 HB4 HP4 HR4 HL4 HS4 HT4 HU4
 have f5 : w5.cell? ⟨bg, 5, none⟩ = some (.slice none 0 0) := cell_of_row _ _ 5 _ _ (0, 0) HE5.out
 go_wp2_with (fail)
 refine (flatBytes_nil _).mono ?_
 rintro e w6 ⟨rfl, hb⟩
 have HE6 := Lib.hid ((hb.block bg (heap_some_lt HE5.out)).trans HE5.out)
 have HB6 : Hid (Below B w w6) := HB5.out.trans (hb.mono (Nat.le_trans hB HB5.out.size))
 have HP6 := Lib.hid (HP5.out.below hb)
 have HR6 := Lib.hid (own_below HR5.out hb)
 have HL6 := Lib.hid (HL5.out.below hb)
 have HS6 := Lib.hid (own_below HS5.out hb)
 have HT6 := Lib.hid (HT5.out.below hb)
 have HU6 := Lib.hid (own_below HU5.out hb)
 clear hb f5 HE5 HB5 HP5 HR5 HL5 HS5 HT5 HU5
 have f6 : w6.cell? ⟨bg, 6, none⟩ = some (.slice none 0 0) := cell_of_row _ _ 6 _ _ (0, 0) HE6.out
 go_wp2_with (fail)
 refine (flatTruths_nil _).mono ?_
 rintro e w7 ⟨rfl, hb⟩
 have HE7 := Lib.hid ((hb.block bg (heap_some_lt HE6.out)).trans HE6.out)
 have HB7 : Hid (Below B w w7) := HB6.out.trans (hb.mono (Nat.le_trans hB HB6.out.size))
 have HP7 := Lib.hid (HP6.out.below hb)
 have HR7 := Lib.hid (own_below HR6.out hb)
 have HL7 := Lib.hid (HL6.out.below hb)
 have HS7 := Lib.hid (own_below HS6.out hb)
 have HT7 := Lib.hid (HT6.out.below hb)
 have HU7 := Lib.hid (own_below HU6.out hb)
 clear hb f6 HE6 HB6 HP6 HR6 HL6 HS6 HT6 HU6
 have f7 : w7.cell? ⟨bg, 7, none⟩ = some (.slice Ap np cp) := cell_of_row _ _ 7 _ _ (0, 0) HE7.out
 have HC7 := Lib.hid (flatParts_row w7 B B0 Lp Xp (.slice Ap np cp) HR7.out HP7.out (Nat.le_trans hB HB7.out.size) hpn hpm)
 go_wp2_with (fail)
 refine HC7.out.mono ?_
 rintro e w8 ⟨rfl, hs⟩
 have hat : ∀ (b : Nat) (t : TypeId) (cs : Array Value) (fr : Nat × Nat), w7.heap[b]? = some (Obj.cells cs t fr) → t ≠ 95 → w8.heap[b]? = w7.heap[b]? := fun b t cs fr h1 h2 => hs.block b (heap_some_lt h1) fun p hp e' => by
  obtain ⟨k, hk⟩ := List.getElem?_of_mem hp
  obtain ⟨cs', fr', h3⟩ := own_at (HP7.out.own k p hk) b e'
  rw [h1] at h3
  injection h3 with h3
  injection h3 with _ h3
  exact h2 h3
 have hkeep : ∀ {B' : Nat} {e : TypeId} {s : Nat} {v : Value} {n : Nat} {xs : List Value}, w7.ownsRow B' e s v n xs → e ≠ 95 → w8.ownsRow B' e s v n xs := fun h he =>
  ⟨h.1, h.2.imp id fun ⟨g, cap, cur, q1, q2, q3, q4⟩ => ⟨g, cap, cur, q1, q2, (hat g _ _ _ q3 he).trans q3, q4⟩⟩
 have HE8 := Lib.hid ((hat bg _ _ _ HE7.out (by decide)).trans HE7.out)
 have HB8 : Hid (Below B w w8) := HB7.out.trans (hs.toBelow (Nat.le_trans hB HB7.out.size) (fun p hp b hb => (HP7.out.lt hp hb).1))
 have HL8 : Hid (Fleet w8 B 47 1 Ll Xl) := ⟨fun k p hp => hkeep (HL7.out.own k p hp) (by decide), HL7.out.apart⟩
 have HS8 := Lib.hid (hkeep HS7.out (by decide))
 have HT8 : Hid (Fleet w8 B 26 5 Lt Xt) := ⟨fun k p hp => hkeep (HT7.out.own k p hp) (by decide), HT7.out.apart⟩
 have HU8 := Lib.hid (hkeep HU7.out (by decide))
 clear hs hat hkeep f7 HE7 HB7 HP7 HR7 HC7 HL7 HS7 HT7 HU7
 have f8 : w8.cell? ⟨bg, 8, none⟩ = some (.slice Al nl cl) := cell_of_row _ _ 8 _ _ (0, 0) HE8.out
 have HC8 := Lib.hid (flatLevels_row w8 B B0 Ll Xl (.slice Al nl cl) HS8.out HL8.out (Nat.le_trans hB HB8.out.size) hln hlm)
 go_wp2_with (fail)
 refine HC8.out.mono ?_
 rintro e w9 ⟨rfl, hs⟩
 have hat : ∀ (b : Nat) (t : TypeId) (cs : Array Value) (fr : Nat × Nat), w8.heap[b]? = some (Obj.cells cs t fr) → t ≠ 47 → w9.heap[b]? = w8.heap[b]? := fun b t cs fr h1 h2 => hs.block b (heap_some_lt h1) fun p hp e' => by
  obtain ⟨k, hk⟩ := List.getElem?_of_mem hp
  obtain ⟨cs', fr', h3⟩ := own_at (HL8.out.own k p hk) b e'
  rw [h1] at h3
  injection h3 with h3
  injection h3 with _ h3
  exact h2 h3
 have hkeep : ∀ {B' : Nat} {e : TypeId} {s : Nat} {v : Value} {n : Nat} {xs : List Value}, w8.ownsRow B' e s v n xs → e ≠ 47 → w9.ownsRow B' e s v n xs := fun h he =>
  ⟨h.1, h.2.imp id fun ⟨g, cap, cur, q1, q2, q3, q4⟩ => ⟨g, cap, cur, q1, q2, (hat g _ _ _ q3 he).trans q3, q4⟩⟩
 have HE9 := Lib.hid ((hat bg _ _ _ HE8.out (by decide)).trans HE8.out)
 have HB9 : Hid (Below B w w9) := HB8.out.trans (hs.toBelow (Nat.le_trans hB HB8.out.size) (fun p hp b hb => (HL8.out.lt hp hb).1))
 have HT9 : Hid (Fleet w9 B 26 5 Lt Xt) := ⟨fun k p hp => hkeep (HT8.out.own k p hp) (by decide), HT8.out.apart⟩
 have HU9 := Lib.hid (hkeep HU8.out (by decide))
 clear hs hat hkeep f8 HE8 HB8 HL8 HS8 HC8 HT8 HU8
 have f9 : w9.cell? ⟨bg, 9, none⟩ = some (.slice At nt ct) := cell_of_row _ _ 9 _ _ (0, 0) HE9.out
 have HC9 := Lib.hid (flatTerms_row w9 B B0 Lt Xt (.slice At nt ct) HU9.out HT9.out (Nat.le_trans hB HB9.out.size) htn htm)
 go_wp2_with (fail)
 refine HC9.out.mono ?_
 rintro e w10 ⟨rfl, hs⟩
 have hat : ∀ (b : Nat) (t : TypeId) (cs : Array Value) (fr : Nat × Nat), w9.heap[b]? = some (Obj.cells cs t fr) → t ≠ 26 → w10.heap[b]? = w9.heap[b]? := fun b t cs fr h1 h2 => hs.block b (heap_some_lt h1) fun p hp e' => by
  obtain ⟨k, hk⟩ := List.getElem?_of_mem hp
  obtain ⟨cs', fr', h3⟩ := own_at (HT9.out.own k p hk) b e'
  rw [h1] at h3
  injection h3 with h3
  injection h3 with _ h3
  exact h2 h3
 have HE10 := Lib.hid ((hat bg _ _ _ HE9.out (by decide)).trans HE9.out)
 have HB10 : Hid (Below B w w10) := HB9.out.trans (hs.toBelow (Nat.le_trans hB HB9.out.size) (fun p hp b hb => (HT9.out.lt hp hb).1))
 clear hs hat f9 HE9 HB9 HT9 HU9 HC9
 have f10 : w10.cell? ⟨bg, 10, none⟩ = some (.slice none 0 0) := cell_of_row _ _ 10 _ _ (0, 0) HE10.out
 go_wp2_with (fail)
 refine (flatMembers_nil _).mono ?_
 rintro e w11 ⟨rfl, hb⟩
 have HE11 := Lib.hid ((hb.block bg (heap_some_lt HE10.out)).trans HE10.out)
 have HB11 : Hid (Below B w w11) := HB10.out.trans (hb.mono (Nat.le_trans hB HB10.out.size))
 clear hb f10 HE10 HB10
 have f11 : w11.cell? ⟨bg, 11, none⟩ = some (.slice none 0 0) := cell_of_row _ _ 11 _ _ (0, 0) HE11.out
 go_wp2_with (fail)
 refine (flatCtors_nil _).mono ?_
 rintro e w12 ⟨rfl, hb⟩
 have HE12 := Lib.hid ((hb.block bg (heap_some_lt HE11.out)).trans HE11.out)
 have HB12 : Hid (Below B w w12) := HB11.out.trans (hb.mono (Nat.le_trans hB HB11.out.size))
 clear hb f11 HE11 HB11
 have f12 : w12.cell? ⟨bg, 12, none⟩ = some (.slice none 0 0) := cell_of_row _ _ 12 _ _ (0, 0) HE12.out
 go_wp2_with (fail)
 refine (flatDecls_nil _).mono ?_
 rintro e w13 ⟨rfl, hb⟩
 have HE13 := Lib.hid ((hb.block bg (heap_some_lt HE12.out)).trans HE12.out)
 have HB13 : Hid (Below B w w13) := HB12.out.trans (hb.mono (Nat.le_trans hB HB12.out.size))
 clear hb f12 HE12 HB12
 have f13 : w13.cell? ⟨bg, 13, none⟩ = some (.slice none 0 0) := cell_of_row _ _ 13 _ _ (0, 0) HE13.out
 go_wp2_with (fail)
 refine (flatArgs_nil _).mono ?_
 rintro e w14 ⟨rfl, hb⟩
 have HE14 := Lib.hid ((hb.block bg (heap_some_lt HE13.out)).trans HE13.out)
 have HB14 : Hid (Below B w w14) := HB13.out.trans (hb.mono (Nat.le_trans hB HB13.out.size))
 clear hb f13 HE13 HB13
 have f14 : w14.cell? ⟨bg, 14, none⟩ = some (.slice none 0 0) := cell_of_row _ _ 14 _ _ (0, 0) HE14.out
 go_wp2_with (fail)
 refine (flatRules_nil _).mono ?_
 rintro e w15 ⟨rfl, hb⟩
 have HE15 := Lib.hid ((hb.block bg (heap_some_lt HE14.out)).trans HE14.out)
 have HB15 : Hid (Below B w w15) := HB14.out.trans (hb.mono (Nat.le_trans hB HB14.out.size))
 clear hb f14 HE14 HB14
 have f15 : w15.cell? ⟨bg, 15, none⟩ = some (.slice none 0 0) := cell_of_row _ _ 15 _ _ (0, 0) HE15.out
 go_wp2_with (fail)
 refine (flatCores_nil _).mono ?_
 rintro e w16 ⟨rfl, hb⟩
 have HE16 := Lib.hid ((hb.block bg (heap_some_lt HE15.out)).trans HE15.out)
 have HB16 : Hid (Below B w w16) := HB15.out.trans (hb.mono (Nat.le_trans hB HB15.out.size))
 clear hb f15 HE15 HB15
 have f16 : w16.cell? ⟨bg, 16, none⟩ = some (.slice none 0 0) := cell_of_row _ _ 16 _ _ (0, 0) HE16.out
 go_wp2_with (fail)
 refine (flatEnvs_nil _).mono ?_
 rintro e w17 ⟨rfl, hb⟩
 have HE17 := Lib.hid ((hb.block bg (heap_some_lt HE16.out)).trans HE16.out)
 have HB17 : Hid (Below B w w17) := HB16.out.trans (hb.mono (Nat.le_trans hB HB16.out.size))
 clear hb f16 HE16 HB16
 go_wp2
 go_ret
 exact ⟨rfl, HB17.out⟩
mutual
theorem TmRows.other {w : World} : ∀ {t : Tm} {v : Value} {M : Nat → List Sl}, TmRows w t v M → ∀ j, j ≠ 7 → j ≠ 8 → j ≠ 9 → M j = []
 | .mk k n a lv kids, v, M, h, j, h7, h8, h9 => by
  obtain ⟨pl, pk, qs, Ms, _, _, _, h4, rfl⟩ := h.open
  have h5 := TmsRows.other h4 j h7 h8 h9
  unfold addB at1
  rw [if_neg h8, if_neg h7, if_neg h9, h5]
  rfl
theorem TmsRows.other {w : World} {p : Sl} : ∀ {ts : List Tm} {i : Nat} {Ms : List (Nat → List Sl)}, TmsRows w p i ts Ms → ∀ j, j ≠ 7 → j ≠ 8 → j ≠ 9 → sumB Ms j = []
 | [], _, _, h, j, _, _, _ => by unfold TmsRows at h; subst h; rfl
 | s :: ts, i, Ms, h, j, h7, h8, h9 => by
  unfold TmsRows at h
  obtain ⟨M, Ms', rfl, ⟨g, v, h1, h2, h3, h4⟩, h5⟩ := h
  show addB M (sumB Ms') j = []
  unfold addB
  rw [TmRows.other h4 j h7 h8 h9, TmsRows.other h5 j h7 h8 h9]
  rfl
end
def RowRows (w : World) (p : Sl) (N : Nat → List Sl) : Prop := ∃ ts Ms, ts.length = p.2.1 ∧ TmsRows w p 0 ts Ms ∧ N = addB (at1 9 [p]) (sumB Ms)
theorem RowRows.other {w : World} {p : Sl} {N : Nat → List Sl} (h : RowRows w p N) (j : Nat) (h7 : j ≠ 7) (h8 : j ≠ 8) (h9 : j ≠ 9) : N j = [] := by
 obtain ⟨ts, Ms, _, h2, rfl⟩ := h
 unfold addB at1
 rw [if_neg h9, h2.other j h7 h8 h9]
 rfl
theorem sumB_other {Ns : List (Nat → List Sl)} {j : Nat} (h : ∀ N ∈ Ns, N j = []) : sumB Ns j = [] := by
 induction Ns with
 | nil => rfl
 | cons N Ns ih =>
  show N j ++ sumB Ns j = []
  rw [h N (by simp), ih fun N' h' => h N' (by simp [h'])]
  rfl
set_option maxHeartbeats 4000000 in
theorem apartTerms_any (W : World) (G cG B : Nat) (L : List Sl) (Ns : List (Nat → List Sl)) (Xp Xl Xt : Nat → List Value) (K : Nat) (hK : L.length = K) (hN : Ns.length = K) (hKm : K ≤ 400000) (hG : G < W.heap.size)
  (hls : ∀ (k : Nat) (p : Sl), L[k]? = some p → W.cell? ⟨G, k, none⟩ = some (slV p)) (hrow : ∀ (k : Nat) (p : Sl) (N : Nat → List Sl), L[k]? = some p → Ns[k]? = some N → RowRows W p N)
  (hp : Fleet W B 95 2 (sumB Ns 7) Xp) (hl : Fleet W B 47 1 (sumB Ns 8) Xl) (ht : Fleet W B 26 5 (sumB Ns 9) Xt) (hB : B ≤ W.heap.size)
  (hpn : ∀ p ∈ sumB Ns 7, p.2.1 ≤ 1000000) (hln : ∀ p ∈ sumB Ns 8, p.2.1 ≤ 1000000) (htn : ∀ p ∈ sumB Ns 9, p.2.1 ≤ 1000000) (hm : ∀ j, (sumB Ns j).length ≤ 400000) :
  Calls Tryz.prog 20 #[.slice (some ⟨G, 0, none⟩) K cG] W (YesPost B W) := by
 have hb0 : Below W.heap.size W (W.alloc (.cells (bagN (.slice none 0 0) (.slice none 0 0) (.slice none 0 0)) 86)) := (Below.refl _ _).alloc (Nat.le_refl _) _
 have HS : Hid (BagG W (W.alloc (.cells (bagN (.slice none 0 0) (.slice none 0 0) (.slice none 0 0)) 86)) W.heap.size (fun _ => [])) := ⟨hb0, Nat.le_refl _, fun _ => .slice none 0 0, heap_alloc_new W _, fun _ _ => World.ownsRow_nil _ _ _ _, fun _ _ _ => rfl⟩
 have HOT : Hid (∀ j, j ≠ 7 → j ≠ 8 → j ≠ 9 → sumB Ns j = []) := fun j h7 h8 h9 => sumB_other fun N hN' => by
  obtain ⟨k, hk⟩ := List.getElem?_of_mem hN'
  have hlt := (List.getElem?_eq_some_iff.1 hk).1
  exact (hrow k _ N (List.getElem?_eq_getElem (by omega)) hk).other j h7 h8 h9
 have HLS := Lib.hid hls
 have HROW := Lib.hid hrow
 have HP := Lib.hid hp
 have HL := Lib.hid hl
 have HT := Lib.hid ht
 have HPN := Lib.hid hpn
 have HLN := Lib.hid hln
 have HTN := Lib.hid htn
 have HK := Lib.hid hK
 have HN := Lib.hid hN
 have HM := Lib.hid hm
 clear hb0 hls hrow hp hl ht hpn hln htn hK hN hm
 unfold bagN at HS
 go_enter Tryz.func20, Tryz.ntmps20
 go_wp2
 go_loopw [4] (fun i wr => ∃ k : Nat, k ≤ K ∧ i = .int .i64 (k : Int) ∧ BagG W wr W.heap.size (sumB (Ns.take k))) (fun i _ => K - (intOf i).toNat)
 case atStart => exact ⟨0, by omega, rfl, HS.out⟩
 clear HS
 case round =>
  obtain ⟨k, hk, rfl, hbs⟩ := hrel
  by_cases hlt : k < K
  ·obtain ⟨⟨A, n, c⟩, hp⟩ : ∃ p, L[k]? = some p := ⟨L[k]'(by rw [HK.out]; exact hlt), List.getElem?_eq_getElem _⟩
   obtain ⟨N, hNk⟩ : ∃ q, Ns[k]? = some q := ⟨Ns[k]'(by rw [HN.out]; exact hlt), List.getElem?_eq_getElem _⟩
   obtain ⟨ts, Ms, q1, q2, q3⟩ := HROW.out k _ N hp hNk
   have c0 : wr.cell? ⟨G, k, none⟩ = some (.slice A n c) := (hbs.below.cell (p := ⟨G, k, none⟩) hG).trans (HLS.out k _ hp)
   have HT1 : Hid (addB (addB (sumB (Ns.take k)) (at1 9 [(A, n, c)])) (sumB Ms) = sumB (Ns.take (k + 1))) := by
    show _ = _
    rw [take_snoc_ hNk, sumB_snoc, q3, addB_assoc]
   have HC := Lib.hid (putTermsG ts (fun t _ => oneTG t) W wr W.heap.size (sumB (Ns.take k)) A n c Ms hbs q1 q2 (fun j => by
     rw [HT1.out]
     exact Nat.le_trans (sumB_take_le Ns (k + 1) j) (HM.out j)))
   have ij0 : (0 : Int) ≤ (k : Int) := by omega
   have ij1 : (k : Int) < (K : Int) := by omega
   clear hbs hp hNk q1 q2 q3
   go_wp2_with (fail)
   refine HC.out.mono ?_
   rintro e w2 ⟨rfl, hb2⟩
   rw [HT1.out] at hb2
   have HF := Lib.hid hb2
   clear hb2 c0
   go_wp2
   go_roundw
   case rel => exact ⟨k + 1, by omega, by go_num, HF.out⟩
   case measure => simp [intOf]; omega
  ·rw [List.take_of_length_le (by rw [HN.out]; omega)] at hbs
   obtain ⟨f, e1, e2, e3⟩ := hbs.rows
   have eb : bagG f = bagN (f 7) (f 8) (f 9) := by
    unfold bagG bagN
    rw [e3 0 (by decide) (HOT.out 0 (by decide) (by decide) (by decide)), e3 1 (by decide) (HOT.out 1 (by decide) (by decide) (by decide)), e3 2 (by decide) (HOT.out 2 (by decide) (by decide) (by decide)), e3 3 (by decide) (HOT.out 3 (by decide) (by decide) (by decide)), e3 4 (by decide) (HOT.out 4 (by decide) (by decide) (by decide)), e3 5 (by decide) (HOT.out 5 (by decide) (by decide) (by decide)), e3 6 (by decide) (HOT.out 6 (by decide) (by decide) (by decide)), e3 10 (by decide) (HOT.out 10 (by decide) (by decide) (by decide)), e3 11 (by decide) (HOT.out 11 (by decide) (by decide) (by decide)), e3 12 (by decide) (HOT.out 12 (by decide) (by decide) (by decide)), e3 13 (by decide) (HOT.out 13 (by decide) (by decide) (by decide)), e3 14 (by decide) (HOT.out 14 (by decide) (by decide) (by decide)), e3 15 (by decide) (HOT.out 15 (by decide) (by decide) (by decide)), e3 16 (by decide) (HOT.out 16 (by decide) (by decide) (by decide))]
   rw [eb] at e1
   have hbw : Below B W wr := hbs.below.mono hB
   have HC := Lib.hid (apartN_any wr W.heap.size B W.heap.size (sumB Ns 7) (sumB Ns 8) (sumB Ns 9) Xp Xl Xt (f 7) (f 8) (f 9) e1 (e2 7 (by decide)) (e2 8 (by decide)) (e2 9 (by decide)) (HP.out.below hbs.below) (HL.out.below hbs.below) (HT.out.below hbs.below) (Nat.le_trans hB hbs.below.size) HPN.out (HM.out 7) HLN.out (HM.out 8) HTN.out (HM.out 9))
   have HBW := Lib.hid hbw
   clear hbs e1 e2 e3 hbw eb
   go_wp2_with (fail)
   refine HC.out.mono ?_
   rintro e w2 ⟨rfl, hb2⟩
   have HF : Hid (Below B W w2) := HBW.out.trans hb2
   clear hb2
   go_wp2
   go_ret
   exact ⟨rfl, HF.out⟩
def Rows (w : World) (lo hi : Nat) (e : TypeId) (s : Nat) (l : List Sl) : Prop := (∀ p ∈ l, (∃ xs, w.ownsRow lo e s (slV p) p.2.1 xs) ∧ ∀ b, Bk p = some b → b < hi) ∧ l.Pairwise (fun p q => ∀ b, Bk p = some b → Bk q ≠ some b)
theorem Rows.nil (w : World) (lo hi : Nat) (e : TypeId) (s : Nat) : Rows w lo hi e s [] := ⟨fun p hp => by simp at hp, List.Pairwise.nil⟩
theorem Rows.wide {w : World} {lo hi lo' hi' : Nat} {e : TypeId} {s : Nat} {l : List Sl} (h : Rows w lo hi e s l) (h1 : lo' ≤ lo) (h2 : hi ≤ hi') : Rows w lo' hi' e s l := ⟨fun p hp => by
  obtain ⟨⟨xs, q1⟩, q2⟩ := h.1 p hp
  exact ⟨⟨xs, own_base q1 h1⟩, fun b hb => by have := q2 b hb; omega⟩, h.2⟩
theorem Rows.append {w : World} {lo mid hi : Nat} {e : TypeId} {s : Nat} {l m : List Sl} (h : Rows w lo mid e s l) (h' : Rows w mid hi e s m) (h1 : lo ≤ mid) (h2 : mid ≤ hi) : Rows w lo hi e s (l ++ m) := by
 refine ⟨fun p hp => ?_, List.pairwise_append.2 ⟨h.2, h'.2, fun p hp q hq b hb hb' => ?_⟩⟩
 ·rcases List.mem_append.1 hp with hp | hp
  ·exact (h.wide (Nat.le_refl _) h2).1 p hp
  ·exact (h'.wide h1 (Nat.le_refl _)).1 p hp
 ·have q1 := (h.1 p hp).2 b hb
  obtain ⟨⟨xs, q2⟩, _⟩ := h'.1 q hq
  have := (q2.lt b hb').1
  omega
theorem Rows.one {w : World} {lo hi : Nat} {e : TypeId} {s : Nat} {p : Sl} {xs : List Value} (h : w.ownsRow lo e s (slV p) p.2.1 xs) (hb : ∀ b, Bk p = some b → b < hi) : Rows w lo hi e s [p] := ⟨fun q hq => by
  rw [List.mem_singleton] at hq
  subst hq
  exact ⟨⟨xs, h⟩, hb⟩, List.pairwise_singleton _ _⟩
theorem Rows.fleet {w : World} {lo hi : Nat} {e : TypeId} {s : Nat} {l : List Sl} (h : Rows w lo hi e s l) : ∃ X, Fleet w lo e s l X := by
 have hx : ∀ k : Nat, ∃ xs, ∀ p, l[k]? = some p → w.ownsRow lo e s (slV p) p.2.1 xs := fun k => by
  cases hp : l[k]? with
  | none => exact ⟨[], fun p e => by cases e⟩
  | some p =>
   obtain ⟨⟨xs, q⟩, _⟩ := h.1 p (List.mem_of_getElem? hp)
   exact ⟨xs, fun p' e => by injection e with e; subst e; exact q⟩
 refine ⟨fun k => Classical.choose (hx k), fun k p hp => Classical.choose_spec (hx k) p hp, fun j k p q hp hq hjk b hb hb' => ?_⟩
 have hj := (List.getElem?_eq_some_iff.1 hp)
 have hk := (List.getElem?_eq_some_iff.1 hq)
 obtain ⟨hj1, hj2⟩ := hj
 obtain ⟨hk1, hk2⟩ := hk
 rcases Nat.lt_or_gt_of_ne hjk with hlt | hlt
 ·have := List.pairwise_iff_getElem.1 h.2 j k hj1 hk1 hlt
  rw [hj2, hk2] at this
  exact this b hb hb'
 ·have := List.pairwise_iff_getElem.1 h.2 k j hk1 hj1 hlt
  rw [hj2, hk2] at this
  exact this b hb' hb
def Flt (w : World) (lo hi : Nat) (M : Nat → List Sl) : Prop := Rows w lo hi 95 2 (M 7) ∧ Rows w lo hi 47 1 (M 8) ∧ Rows w lo hi 26 5 (M 9)
theorem Flt.append {w : World} {lo mid hi : Nat} {M N : Nat → List Sl} (h : Flt w lo mid M) (h' : Flt w mid hi N) (h1 : lo ≤ mid) (h2 : mid ≤ hi) : Flt w lo hi (addB M N) := ⟨h.1.append h'.1 h1 h2, h.2.1.append h'.2.1 h1 h2, h.2.2.append h'.2.2 h1 h2⟩
theorem Flt.wide {w : World} {lo hi lo' hi' : Nat} {M : Nat → List Sl} (h : Flt w lo hi M) (h1 : lo' ≤ lo) (h2 : hi ≤ hi') : Flt w lo' hi' M := ⟨h.1.wide h1 h2, h.2.1.wide h1 h2, h.2.2.wide h1 h2⟩
theorem Flt.none (w : World) (lo hi : Nat) : Flt w lo hi (fun _ => []) := ⟨Rows.nil _ _ _ _ _, Rows.nil _ _ _ _ _, Rows.nil _ _ _ _ _⟩
mutual
def Tm.rowsN : Tm → Nat
 | .mk _ _ _ lv kids => 1 + lv.length + Tm.rowsNL kids
def Tm.rowsNL : List Tm → Nat
 | [] => 0
 | t :: ts => t.rowsN + Tm.rowsNL ts
end
mutual
theorem rowsN_count : ∀ t : Tm, t.rowsN ≤ t.count
 | .mk k n a lv kids => by
  rw [Tm.rowsN, Tm.count_mk]
  have := lensSum_length lv
  have := rowsNL_count kids
  omega
theorem rowsNL_count : ∀ ts : List Tm, Tm.rowsNL ts ≤ Tm.countL ts
 | [] => by rw [Tm.rowsNL]; omega
 | t :: ts => by
  rw [Tm.rowsNL, Tm.countL]
  have := rowsN_count t
  have := rowsNL_count ts
  omega
end
theorem rowsNL_length : ∀ ts : List Tm, ts.length ≤ Tm.rowsNL ts
 | [] => Nat.zero_le _
 | t :: ts => by
  rw [Tm.rowsNL]
  have := rowsNL_length ts
  obtain ⟨k, n, a, lv, kids⟩ := t
  rw [Tm.rowsN]
  simp
  omega
mutual
theorem rowsN_lift (m f : Int) : ∀ (t : Tm) (d : Nat), (t.walk (liftT m f) d).rowsN = t.rowsN
 | .mk k n a lv kids, d => by rw [Tm.walk_go (tr := liftT m f) rfl, Tm.rowsN, Tm.rowsN, rowsNL_lift m f kids]
theorem rowsNL_lift (m f : Int) : ∀ (ts : List Tm) (d : Nat) (k : Int) (i : Nat), Tm.rowsNL (Tm.walkL (liftT m f) d k i ts) = Tm.rowsNL ts
 | [], d, k, i => by rw [Tm.walkL]
 | t :: ts, d, k, i => by rw [Tm.walkL, Tm.rowsNL, Tm.rowsNL, rowsN_lift m f t, rowsNL_lift m f ts]
end
mutual
theorem rowsN_lev (bys : List (List (Int × Int))) : ∀ (t : Tm) (d : Nat), (t.walk (levT bys) d).rowsN = t.rowsN
 | .mk k n a lv kids, d => by rw [Tm.walk_go (tr := levT bys) rfl, Tm.rowsN, Tm.rowsN, rowsNL_lev bys kids, List.length_map]
theorem rowsNL_lev (bys : List (List (Int × Int))) : ∀ (ts : List Tm) (d : Nat) (k : Int) (i : Nat), Tm.rowsNL (Tm.walkL (levT bys) d k i ts) = Tm.rowsNL ts
 | [], d, k, i => by rw [Tm.walkL]
 | t :: ts, d, k, i => by rw [Tm.walkL, Tm.rowsNL, Tm.rowsNL, rowsN_lev bys t, rowsNL_lev bys ts]
end
theorem putT_cases (by' : List Tm) (d : Nat) (k n : Int) (lv : List (List (Int × Int))) : (∃ n', putT by' d k n lv = .go n' lv ∧ (n' = n ∨ (0 ≤ n ∧ n' = n - by'.length))) ∨ ∃ b ∈ by', putT by' d k n lv = .done (b.walk (liftT d 0) 0) := by
 unfold putT
 by_cases h : outer d k n 0 = true
 ·rw [if_pos h]
  obtain ⟨h1, h2, h3⟩ := outer_iff.1 h
  by_cases h4 : n - d < by'.length
  ·rw [if_pos h4]
   have hl : by'.length - 1 - (n - d).toNat < by'.length := by omega
   refine Or.inr ⟨_, List.getElem_mem hl, ?_⟩
   rw [List.getD_eq_getElem?_getD, List.getElem?_eq_getElem hl]
   rfl
  ·rw [if_neg h4]
   exact Or.inl ⟨_, rfl, Or.inr ⟨by omega, rfl⟩⟩
 ·rw [if_neg h]
  exact Or.inl ⟨_, rfl, Or.inl rfl⟩
mutual
theorem rowsN_put {by' : List Tm} {M : Nat} (hM : ∀ b ∈ by', b.rowsN ≤ M) : ∀ (t : Tm) (d : Nat), (t.walk (putT by') d).rowsN ≤ t.rowsN * (M + 1)
 | .mk k n a lv kids, d => by
  rcases putT_cases by' d k n lv with ⟨n', h, _⟩ | ⟨b, hb, h⟩
  ·rw [Tm.walk_go h, Tm.rowsN, Tm.rowsN]
   have h1 := rowsNL_put hM kids d k 0
   have h2 : (1 + lv.length + Tm.rowsNL kids) * (M + 1) = (1 + lv.length) * (M + 1) + Tm.rowsNL kids * (M + 1) := Nat.add_mul _ _ _
   have h3 : 1 + lv.length ≤ (1 + lv.length) * (M + 1) := Nat.le_mul_of_pos_right _ (by omega)
   omega
  ·rw [Tm.walk_done h, rowsN_lift, Tm.rowsN]
   have h1 := hM b hb
   have h2 : (1 + lv.length + Tm.rowsNL kids) * (M + 1) = 1 * (M + 1) + (lv.length + Tm.rowsNL kids) * (M + 1) := by rw [← Nat.add_mul, Nat.add_assoc]
   omega
theorem rowsNL_put {by' : List Tm} {M : Nat} (hM : ∀ b ∈ by', b.rowsN ≤ M) : ∀ (ts : List Tm) (d : Nat) (k : Int) (i : Nat), Tm.rowsNL (Tm.walkL (putT by') d k i ts) ≤ Tm.rowsNL ts * (M + 1)
 | [], d, k, i => by rw [Tm.walkL, Tm.rowsNL]; omega
 | t :: ts, d, k, i => by
  rw [Tm.walkL, Tm.rowsNL, Tm.rowsNL, Nat.add_mul]
  have := rowsN_put hM t (d + under k i)
  have := rowsNL_put hM ts d k (i + 1)
  omega
end
theorem wrap_rng (x : Int) : Rng (IntKind.i64.wrap x) := by
 have h1 : (2 : Int) ^ IntKind.i64.bits = 18446744073709551616 := by decide
 have h2 : (2 : Int) ^ (IntKind.i64.bits - 1) = 9223372036854775808 := by decide
 have h3 : IntKind.i64.signed = true := rfl
 unfold Rng IntKind.wrap
 simp only [h1, h2, h3, Bool.true_and]
 split
 ·rename_i h
  have h := of_decide_eq_true h
  omega
 ·rename_i h
  have h : ¬ _ := fun e => h (decide_eq_true e)
  omega
mutual
theorem fit_liftT (m f : Int) : ∀ (t : Tm) (d : Nat), t.fit → (t.walk (liftT m f) d).fit
 | .mk k n a lv kids, d, h => by
  rw [Tm.fit_mk] at h
  rw [Tm.walk_go (tr := liftT m f) rfl, Tm.fit_mk, Tm.walkL_length]
  refine ⟨?_, h.2.1, h.2.2.1, fitL_liftT m f kids d k 0 h.2.2.2⟩
  unfold liftN
  split
  ·exact wrap_rng _
  ·exact h.1
theorem fitL_liftT (m f : Int) : ∀ (ts : List Tm) (d : Nat) (k : Int) (i : Nat), Tm.fitL ts → Tm.fitL (Tm.walkL (liftT m f) d k i ts)
 | [], d, k, i, h => by rw [Tm.walkL]; exact h
 | t :: ts, d, k, i, h => by
  rw [Tm.walkL, Tm.fitL]
  rw [Tm.fitL] at h
  exact ⟨fit_liftT m f t _ h.1, fitL_liftT m f ts d k _ h.2⟩
end
mutual
theorem fit_putT {by' : List Tm} (hb : ∀ b ∈ by', b.fit) (hn : by'.length ≤ 1048576) : ∀ (t : Tm) (d : Nat), t.fit → (t.walk (putT by') d).fit
 | .mk k n a lv kids, d, h => by
  rw [Tm.fit_mk] at h
  rcases putT_cases by' d k n lv with ⟨n', h', hn'⟩ | ⟨b, hb', h'⟩
  ·rw [Tm.walk_go h', Tm.fit_mk, Tm.walkL_length]
   refine ⟨?_, h.2.1, h.2.2.1, fitL_putT hb hn kids d k 0 h.2.2.2⟩
   rcases hn' with rfl | ⟨h0, rfl⟩
   ·exact h.1
   ·have := h.1
    unfold Rng at this ⊢
    omega
  ·rw [Tm.walk_done h']
   exact fit_liftT _ _ b 0 (hb b hb')
theorem fitL_putT {by' : List Tm} (hb : ∀ b ∈ by', b.fit) (hn : by'.length ≤ 1048576) : ∀ (ts : List Tm) (d : Nat) (k : Int) (i : Nat), Tm.fitL ts → Tm.fitL (Tm.walkL (putT by') d k i ts)
 | [], d, k, i, h => by rw [Tm.walkL]; exact h
 | t :: ts, d, k, i, h => by
  rw [Tm.walkL, Tm.fitL]
  rw [Tm.fitL] at h
  exact ⟨fit_putT hb hn t _ h.1, fitL_putT hb hn ts d k _ h.2⟩
end
theorem putL_small {bys : List (List (Int × Int))} (h9 : ∀ b ∈ bys, b.length ≤ 900) {l : List (Int × Int)} (h : l.length ≤ 900) : (putL bys l).length ≤ 810000 := by
 unfold putL
 have h1 := nfA_len (putS (nfA l) bys)
 have h2 := putS_len (N := 900) h9 (nfA l)
 have h3 := nfA_len l
 have h4 : (nfA l).length * 900 ≤ 900 * 900 := Nat.mul_le_mul_right _ (by omega)
 omega
mutual
theorem fit_levT {bys : List (List (Int × Int))} (h9 : ∀ b ∈ bys, b.length ≤ 900) : ∀ (t : Tm) (d : Nat), t.fit → t.count ≤ 900 → (t.walk (levT bys) d).fit
 | .mk k n a lv kids, d, h, hc => by
  rw [Tm.fit_mk] at h
  rw [Tm.count_mk] at hc
  rw [Tm.walk_go (tr := levT bys) rfl, Tm.fit_mk, Tm.walkL_length]
  refine ⟨h.1, ⟨by rw [List.length_map]; exact h.2.1.1, fun l hl => ?_⟩, h.2.2.1, fitL_levT h9 kids d k 0 h.2.2.2 (by omega)⟩
  obtain ⟨x, hx, rfl⟩ := List.mem_map.1 hl
  have h1 := lensSum_mem lv x hx
  have := putL_small h9 (l := x) (by omega)
  omega
theorem fitL_levT {bys : List (List (Int × Int))} (h9 : ∀ b ∈ bys, b.length ≤ 900) : ∀ (ts : List Tm) (d : Nat) (k : Int) (i : Nat), Tm.fitL ts → Tm.countL ts ≤ 900 → Tm.fitL (Tm.walkL (levT bys) d k i ts)
 | [], d, k, i, h, _ => by rw [Tm.walkL]; exact h
 | t :: ts, d, k, i, h, hc => by
  rw [Tm.walkL, Tm.fitL]
  rw [Tm.fitL] at h
  rw [Tm.countL] at hc
  exact ⟨fit_levT h9 t _ h.1 (by omega), fitL_levT h9 ts d k _ h.2 (by omega)⟩
end
theorem lvs_rows {w : World} : ∀ {ls : List (List (Int × Int))} {lo hi : Nat} {vs : List Value}, OwnLvs w lo hi ls vs → (∀ l ∈ ls, l.length ≤ 1000000) → ∃ qs : List Sl, qs.length = ls.length ∧ vs = qs.map slV ∧ Rows w lo hi 95 2 qs ∧ ∀ p ∈ qs, p.2.1 ≤ 1000000
 | [], lo, hi, vs, h, _ => by
  have h : vs = [] ∧ lo ≤ hi := h
  exact ⟨[], rfl, h.1, Rows.nil _ _ _ _ _, fun p hp => by simp at hp⟩
 | l :: ls, lo, hi, vs, h, h6 => by
  obtain ⟨v, vs', mid, rfl, h1, h2⟩ := h
  obtain ⟨qs, q1, q2, q3, q4⟩ := lvs_rows h2 fun x hx => h6 x (by simp [hx])
  obtain ⟨A, c, rfl, _⟩ := h1.2.1
  have hl := h6 l (by simp)
  refine ⟨(A, l.length, c) :: qs, by simp [q1], by rw [q2]; rfl, ?_, fun p hp => ?_⟩
  ·exact Rows.append (l := [(A, l.length, c)]) (Rows.one h1.2.2.1 h1.2.2.2) q3 h1.1 h2.le
  ·rcases List.mem_cons.1 hp with rfl | hp
   ·exact hl
   ·exact q4 p hp
mutual
theorem own_rows {w : World} : ∀ {t : Tm} {lo hi : Nat} {v : Value}, OwnTm w lo hi t v → t.fit → t.rowsN ≤ 400000 → ∃ M, TmRows w t v M ∧ Flt w lo hi M ∧ (∀ j, (M j).length ≤ t.rowsN) ∧ ∀ j, ∀ p ∈ M j, p.2.1 ≤ 1000000
 | .mk k n a lv kids, lo, hi, v, h, hf, hN => by
  obtain ⟨vl, vk, m1, m2, xs, rfl, ⟨mid, vs, r1, r2⟩, ⟨A, c, rfl⟩, r3, r4⟩ := h.open
  obtain ⟨A2, c2, rfl, _⟩ := r3.2.1
  rw [Tm.fit_mk] at hf
  rw [Tm.rowsN] at hN
  obtain ⟨qs, q1, rfl, q3, q4⟩ := lvs_rows r2 hf.2.1.2
  have hkl := rowsNL_length kids
  obtain ⟨Ms, s1, s2, s3, s4⟩ := own_rowsL (p := (A2, kids.length, c2)) (i := 0) r3.2.2.1 r4 hf.2.2.2 (by omega) (fun j v hv => by rw [Nat.zero_mul, Nat.zero_add]; exact hv) (by show 0 + kids.length ≤ kids.length; omega)
  refine ⟨addB (addB (at1 8 [(A, lv.length, c)]) (at1 7 qs)) (addB (at1 9 [(A2, kids.length, c2)]) (sumB Ms)), ?_, ?_, fun j => ?_, fun j p hp => ?_⟩
  ·unfold TmRows
   refine ⟨(A, lv.length, c), (A2, kids.length, c2), qs, Ms, rfl, ⟨q1, fun i q hq => ?_⟩, rfl, s1, rfl⟩
   have hi' := (List.getElem?_eq_some_iff.1 hq).1
   have hr := r1.2.2.1
   obtain ⟨g, cap, e, _, _⟩ := hr.form (by omega)
   injection e with e1 _ _
   subst e1
   refine ⟨g, rfl, (hr.lt g rfl).2, ?_⟩
   rw [hr.cellAt i (by omega), List.getElem?_map, hq]
   rfl
  ·have z1 := r1.1
   have z2 := r2.le
   have z3 := r3.1
   have z4 := r4.le
   refine ⟨?_, ?_, ?_⟩
   ·have h1 := (q3.wide z1 (Nat.le_refl _)).append (s2.1.wide z3 (Nat.le_refl _)) (by omega) (by omega)
    have e : addB (addB (at1 8 [(A, lv.length, c)]) (at1 7 qs)) (addB (at1 9 [(A2, kids.length, c2)]) (sumB Ms)) 7 = qs ++ sumB Ms 7 := by simp [addB, at1]
    rw [e]
    exact h1
   ·have h0 : Rows w lo mid 47 1 [(A, lv.length, c)] := Rows.one r1.2.2.1 r1.2.2.2
    have h1 := (h0.wide (Nat.le_refl _) (Nat.le_trans z2 z3)).append s2.2.1 (by omega) (by omega)
    have e : addB (addB (at1 8 [(A, lv.length, c)]) (at1 7 qs)) (addB (at1 9 [(A2, kids.length, c2)]) (sumB Ms)) 8 = [(A, lv.length, c)] ++ sumB Ms 8 := by simp [addB, at1]
    rw [e]
    exact h1
   ·have h0 : Rows w m1 m2 26 5 [(A2, kids.length, c2)] := Rows.one r3.2.2.1 r3.2.2.2
    have h1 := (h0.append s2.2.2 z3 z4).wide (lo' := lo) (hi' := hi) (by omega) (Nat.le_refl _)
    have e : addB (addB (at1 8 [(A, lv.length, c)]) (at1 7 qs)) (addB (at1 9 [(A2, kids.length, c2)]) (sumB Ms)) 9 = [(A2, kids.length, c2)] ++ sumB Ms 9 := by simp [addB, at1]
    rw [e]
    exact h1
  ·rw [addB_len, addB_len, addB_len, at1_len, at1_len, at1_len, Tm.rowsN]
   have h5 := s3 j
   by_cases e7 : j = 7
   ·subst e7; simp; omega
   ·by_cases e8 : j = 8
    ·subst e8; simp; omega
    ·by_cases e9 : j = 9
     ·subst e9; simp; omega
     ·simp [e7, e8, e9]; omega
  ·unfold addB at1 at hp
   rcases List.mem_append.1 hp with hp | hp
   ·rcases List.mem_append.1 hp with hp | hp
    ·split at hp
     ·rw [List.mem_singleton] at hp; subst hp; show lv.length ≤ _; omega
     ·simp at hp
    ·split at hp
     ·exact q4 p hp
     ·simp at hp
   ·rcases List.mem_append.1 hp with hp | hp
    ·split at hp
     ·rw [List.mem_singleton] at hp; subst hp; show kids.length ≤ _; omega
     ·simp at hp
    ·exact s4 j p hp
theorem own_rowsL {w : World} {p : Sl} {B : Nat} {ys : List Value} (hr : w.ownsRow B 26 5 (slV p) p.2.1 ys) : ∀ {ts : List Tm} {lo hi i : Nat} {xs : List Value}, OwnTms w lo hi ts xs → Tm.fitL ts → Tm.rowsNL ts ≤ 400000 → (∀ (j : Nat) (v : Value), xs[j]? = some v → ys[i * 5 + j]? = some v) → i + ts.length ≤ p.2.1 → ∃ Ms, TmsRows w p i ts Ms ∧ Flt w lo hi (sumB Ms) ∧ (∀ j, (sumB Ms j).length ≤ Tm.rowsNL ts) ∧ ∀ j, ∀ q ∈ sumB Ms j, q.2.1 ≤ 1000000
 | [], lo, hi, i, xs, _, _, _, _, _ => ⟨[], by unfold TmsRows; rfl, Flt.none _ _ _, fun j => by show 0 ≤ _; omega, fun j q hq => by simp [sumB] at hq⟩
 | t :: ts, lo, hi, i, xs, h, hf, hN, hx, hle => by
  unfold OwnTms at h
  obtain ⟨c0, c1, c2, c3, c4, xs', mid, rfl, h0, h1, h2⟩ := h
  rw [Tm.fitL] at hf
  rw [Tm.rowsNL] at hN
  simp only [List.length_cons] at hle
  obtain ⟨M, a1, a2, a3, a4⟩ := own_rows h1 hf.1 (by omega)
  obtain ⟨Ms, b1, b2, b3, b4⟩ := own_rowsL hr (i := i + 1) h2 hf.2 (by omega) (fun j v hv => by
    have := hx (j + 5) v (by simpa using hv)
    rw [show (i + 1) * 5 + j = i * 5 + (j + 5) by omega]
    exact this) (by omega)
  have h2l := h2.le
  obtain ⟨g, cap, e, _, _⟩ := hr.form (by omega)
  have e1 : p.1 = some ⟨g, 0, none⟩ := by
   have e' : Value.slice p.1 p.2.1 p.2.2 = _ := e
   injection e'
  have ev : slV p = .slice (some ⟨g, 0, none⟩) p.2.1 p.2.2 := by unfold slV; rw [e1]
  rw [ev] at hr
  have hc : ∀ j v, (c0 :: c1 :: c2 :: c3 :: c4 :: xs')[j]? = some v → j < 5 → w.cell? ⟨g, i * 5 + j, none⟩ = some v := fun j v hv hj => by
   rw [hr.cellAt (i * 5 + j) (by omega)]
   exact hx j v hv
  refine ⟨M :: Ms, ?_, a2.append b2 h0 h2l, fun j => ?_, fun j q hq => ?_⟩
  ·unfold TmsRows
   exact ⟨M, Ms, rfl, ⟨g, _, e1, (hr.lt g rfl).2, ⟨c0, c1, c2, c3, c4, rfl, hc 0 c0 rfl (by omega), hc 1 c1 rfl (by omega), hc 2 c2 rfl (by omega), hc 3 c3 rfl (by omega), hc 4 c4 rfl (by omega)⟩, a1⟩, b1⟩
  ·rw [Tm.rowsNL]
   show (addB M (sumB Ms) j).length ≤ _
   rw [addB_len]
   have := a3 j
   have := b3 j
   omega
  ·rcases List.mem_append.1 (show q ∈ M j ++ sumB Ms j from hq) with hq | hq
   ·exact a4 j q hq
   ·exact b4 j q hq
end
end Go.Proofs.YtafgmndlbbjphaaGreatDoor
