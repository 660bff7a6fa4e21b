/- Laws. -/
import Derived.Test.YtafgmndlbbjphaaGreatDoorPuis
import Derived.Test.YtafgmndlbbjphaaGreatDoorPuat
set_option maxRecDepth 100000
namespace Go.Proofs.YtafgmndlbbjphaaGreatDoor
open Go.RowKit Go.Maps
def LR (w : World) (B : Nat) (ls : List (List (Int × Int))) (vs : List Value) (k : Nat) : Prop := ∀ i, i < k → ∃ gi ci, vs[i]? = some (.slice (some ⟨gi, 0, none⟩) (ls.getD i []).length ci) ∧ w.ownsRow B 95 2 (.slice (some ⟨gi, 0, none⟩) ((ls.getD i []).length + 12) ci) ((ls.getD i []).length + 12) (cells (ls.getD i [] ++ marks 1 12))
def MR (w : World) (vs : List Value) (n j : Nat) : Prop := ∀ i, i < j → ∃ a, vs[n + i]? = some (.slice (some ⟨a, 0, none⟩) 1 1) ∧ w.heap[a]? = some (.cells #[.int .i64 0, .int .i64 (8000024 + (i : Int))] 95 (0, 0))
theorem LR.kept {w w' : World} {B : Nat} {ls : List (List (Int × Int))} {vs : List Value} {k : Nat} {r : Option Nat} {t : TypeId} (h : LR w B ls vs k) (hg : w.grownBy w' r) (hr : TypeAt w r t) (hne : 95 ≠ t) : LR w' B ls vs k := fun i hi => by
 obtain ⟨gi, ci, h1, h2⟩ := h i hi
 exact ⟨gi, ci, h1, own_keptT h2 hg hr hne⟩
theorem LR.below {w w' : World} {B : Nat} {ls : List (List (Int × Int))} {vs : List Value} {k : Nat} (h : LR w B ls vs k) (hb : Below w.heap.size w w') : LR w' B ls vs k := fun i hi => by
 obtain ⟨gi, ci, h1, h2⟩ := h i hi
 exact ⟨gi, ci, h1, own_below h2 hb⟩
theorem LR.app {w : World} {B : Nat} {ls : List (List (Int × Int))} {vs us : List Value} {k : Nat} (h : LR w B ls vs k) (hl : vs.length = k) : LR w B ls (vs ++ us) k := fun i hi => by
 obtain ⟨gi, ci, h1, h2⟩ := h i hi
 exact ⟨gi, ci, by rw [List.getElem?_append_left (by omega)]; exact h1, h2⟩
theorem LR.snoc {w : World} {B : Nat} {ls : List (List (Int × Int))} {vs : List Value} {k g c : Nat} (h : LR w B ls vs k) (hl : vs.length = k) (hn : w.ownsRow B 95 2 (.slice (some ⟨g, 0, none⟩) ((ls.getD k []).length + 12) c) ((ls.getD k []).length + 12) (cells (ls.getD k [] ++ marks 1 12))) : LR w B ls (vs ++ [.slice (some ⟨g, 0, none⟩) (ls.getD k []).length c]) (k + 1) := fun i hi => by
 by_cases e : i = k
 ·subst e
  exact ⟨g, c, by rw [List.getElem?_append_right (by omega), hl, Nat.sub_self]; rfl, hn⟩
 ·exact (h.app hl) i (by omega)
theorem MR.kept {w w' : World} {vs : List Value} {n j : Nat} {r : Option Nat} (h : MR w vs n j) (hg : w.grownBy w' r) (hr : Other w r) : MR w' vs n j := fun i hi => by
 obtain ⟨a, h1, h2⟩ := h i hi
 refine ⟨a, h1, (hg.block a (heap_some_lt h2) fun e => ?_).trans h2⟩
 obtain ⟨cs, t, fr, h3, h4⟩ := hr a e.symm
 rw [h2] at h3
 injection h3 with h3
 injection h3 with _ h3
 exact h4 h3.symm
theorem MR.below {w w' : World} {vs : List Value} {n j : Nat} (h : MR w vs n j) (hb : Below w.heap.size w w') : MR w' vs n j := h.kept (below_grown hb none) (Other.none w)
theorem MR.snoc {w : World} {vs : List Value} {n j a : Nat} (h : MR w vs n j) (hl : vs.length = n + j) (ha : w.heap[a]? = some (.cells #[.int .i64 0, .int .i64 (8000024 + (j : Int))] 95 (0, 0))) : MR w (vs ++ [.slice (some ⟨a, 0, none⟩) 1 1]) n (j + 1) := fun i hi => by
 by_cases e : i = j
 ·subst e
  exact ⟨a, by rw [List.getElem?_append_right (by omega), hl, Nat.sub_self]; rfl, ha⟩
 ·obtain ⟨b, h1, h2⟩ := h i (by omega)
  exact ⟨b, by rw [List.getElem?_append_left (by omega)]; exact h1, h2⟩
def LRow (w : World) (B : Nat) (ls : List (List (Int × Int))) (n g cap : Nat) : Prop := ∃ vs, w.ownsRow B 47 1 (.slice (some ⟨g, 0, none⟩) (n + 12) cap) (n + 12) vs ∧ LR w B ls vs n ∧ MR w vs n 12
theorem LRow.below {w w' : World} {B : Nat} {ls : List (List (Int × Int))} {n g cap : Nat} (h : LRow w B ls n g cap) (hb : Below w.heap.size w w') : LRow w' B ls n g cap := by
 obtain ⟨vs, h1, h2, h3⟩ := h
 exact ⟨vs, own_below h1 hb, h2.below hb, h3.below hb⟩
theorem LRow.levs {w : World} {B : Nat} {ls : List (List (Int × Int))} {n g cap : Nat} (h : LRow w B ls n g cap) (hn : ls.length = n) (h6 : ∀ l ∈ ls, l.length ≤ 4611686018427387904) : Levs w w.heap.size (some ⟨g, 0, none⟩) ls := fun _ => by
 obtain ⟨vs, h1, h2, _⟩ := h
 refine ⟨g, 0, rfl, (h1.lt g rfl).2, fun i hi => ?_⟩
 obtain ⟨gi, ci, h4, h5⟩ := h2 i (by omega)
 have hl : (ls.getD i []).length ≤ 4611686018427387904 := by
  rw [List.getD_eq_getElem?_getD, List.getElem?_eq_getElem hi]
  exact h6 _ (List.getElem_mem hi)
 refine ⟨some ⟨gi, 0, none⟩, ci, ?_, ?_, fun e => (by cases e), hl⟩
 ·rw [Nat.zero_add, h1.cellAt i (by omega)]
  exact h4
 ·rw [show (ls.getD i []).length + 12 = (ls.getD i [] ++ marks 1 12).length by rw [List.length_append, marks_length]] at h5
  obtain ⟨_, h7, _⟩ := own_lev h5
  exact fun hp => by
   obtain ⟨b, o, e, hb, hcell⟩ := h7 (by rw [List.length_append]; omega)
   refine ⟨b, o, e, hb, fun k hk => ?_⟩
   have := hcell k (by rw [List.length_append]; omega)
   rwa [List.getD_eq_getElem?_getD, List.getElem?_append_left hk, ← List.getD_eq_getElem?_getD] at this
def LentLs (w : World) (ls : List (List (Int × Int))) (n : Nat) (e : Ending) (w' : World) : Prop := ∃ g cap, e = .returned (.slice (some ⟨g, 0, none⟩) n cap) ∧ LRow w' w.heap.size ls n g cap ∧ Below w.heap.size w w'
set_option maxHeartbeats 4000000 in
theorem enter_keptLevel (vs : Array Value) (w : World) : (callFunc 41 vs).run Tryz.prog w = .ok (.enter 41 vs) w := by go_simp
set_option maxHeartbeats 4000000 in
theorem lentLevels_any (A : Option Addr) (ls : List (List (Int × Int))) (c n : Nat) (w : World) (hn : ls.length = n) (hm : n ≤ 100000) (h6 : ∀ l ∈ ls, l.length ≤ 100000) (h : Levs w w.heap.size A ls) :
  Calls Tryz.prog 11 #[.slice A n c] w (LentLs w ls n) := by
 obtain ⟨i0, hi, hz0, hz1, hz2⟩ := info_parts infoLv
 have q1 : IntKind.i64.wrap ((n : Int) + 12) = (n : Int) + 12 := IntWalk.i64_in _ (by omega)
 have HL := Lib.hid h
 have HN := Lib.hid hn
 have H6 := Lib.hid h6
 clear h hn h6
 go_enter Tryz.func11, Tryz.ntmps11
 go_wp2_with (at_make; refine wpList_make_own _ rfl _ _ 23 rfl w.heap.size 47 i0 (.agg #[.slice none 0 0]) 1 Tryz.underlying23 hi hz0 hz1 _ _ _ (n + 12) rfl rfl (by omega) ?b1 ?b2 ?b3 ?_)
 case b1 => rw [hz2]; omega
 case b2 => unfold maxLen; omega
 case b3 => exact Nat.le_refl _
 intro w1 ho1 hg1
 have HO : Hid (w1.ownsRow w.heap.size 47 1 (.slice (some ⟨w.heap.size, 0, none⟩) 0 (n + 12)) 0 []) := ho1
 have HB1 : Hid (Below w.heap.size w w1) := grown_below hg1
 clear ho1 hg1
 go_wp2
 go_loopw [3, 4] (fun lv i wr => ∃ (k : Nat) (vs : List Value), k ≤ n ∧ i = .int .i64 (k : Int) ∧ Below w.heap.size w wr ∧ wr.ownsRow w.heap.size 47 1 lv k vs ∧ LR wr w.heap.size ls vs k) (fun _ i _ => n - (intOf i).toNat)
 case atStart => exact ⟨0, [], by omega, rfl, HB1.out, HO.out, fun _ hi => absurd hi (by omega)⟩
 clear HO HB1
 case round =>
  obtain ⟨k, vs, hk, rfl, hb, hrow, hlr⟩ := hrel
  obtain ⟨Al, nl, cl, rfl⟩ := own_slice hrow
  have hbz := hb.size
  have HB := Lib.hid hb
  have HR := Lib.hid hrow
  have HLR := Lib.hid hlr
  by_cases hlt : k < n
  ·obtain ⟨b, o, e, hbB, hcell⟩ := HL.out (by rw [HN.out]; omega)
   subst e
   obtain ⟨Ai, ci, q2, q3, q4, _⟩ := hcell k (by rw [HN.out]; exact hlt)
   obtain ⟨l, hl⟩ : ∃ l, ls.getD k [] = l := ⟨_, rfl⟩
   obtain ⟨ni, hni⟩ : ∃ j, l.length = j := ⟨_, rfl⟩
   have hl6 : ni ≤ 100000 := by
    rw [← hni, ← hl, List.getD_eq_getElem?_getD, List.getElem?_eq_getElem (by rw [HN.out]; exact hlt)]
    exact H6.out _ (List.getElem_mem _)
   rw [hl, hni] at q2
   rw [hl] at q3
   have c0 : wr.cell? ⟨b, o + k, none⟩ = some (.slice Ai ni ci) := (hb.cell (p := ⟨b, o + k, none⟩) hbB).trans q2
   have HC := Lib.hid (lentLevel_any Ai l ci ni wr hni (by omega) ((q3.below hb).more hbz) q4)
   have HLE := Lib.hid hl
   have HNI := Lib.hid hni
   have ij0 : (0 : Int) ≤ (k : Int) := by omega
   have ij1 : (k : Int) < (n : Int) := by omega
   clear hb hrow hlr q2 q3 q4 hcell hl hni
   go_wp2_with (fail)
   refine HC.out.mono ?_
   rintro e w4 ⟨gi, cap, rfl, hown, hb4⟩
   have hs4 := hb4.size
   have hb5 : Below w4.heap.size w4 (w4.alloc (.cells #[.slice (some ⟨gi, 0, none⟩) ni cap] 47)) := (Below.refl _ _).alloc (Nat.le_refl _) _
   have g3 := cell_of_one (heap_alloc_new w4 (.cells #[.slice (some ⟨gi, 0, none⟩) ni cap] 47))
   have HR5 := Lib.hid (own_below HR.out hb4)
   have HLR5 := Lib.hid (HLR.out.below hb4)
   have HOW5 := Lib.hid (own_base hown hbz)
   have HB4 := Lib.hid (HB.out.trans (hb4.mono hbz))
   have HB5 := Lib.hid hb5
   have HG3 := Lib.hid g3
   clear hb4 hown HR HLR HC HB hb5 g3
   go_upto_region 6 with (fail)
   obtain ⟨w5, hw5⟩ : ∃ x, w4.alloc (.cells #[.slice (some ⟨gi, 0, none⟩) ni cap] 47) = x := ⟨_, rfl⟩
   rw [hw5] at HB5 HG3 ⊢
   clear hw5
   have g3 := HG3.out
   have hs5 := HB5.out.size
   have hb7 : Below w5.heap.size w5 (w5.alloc (.cells #[.slice (some ⟨gi, 0, none⟩) ni cap] 47)) := (Below.refl _ _).alloc (Nat.le_refl _) _
   have HR7 := Lib.hid (own_below (own_below HR5.out HB5.out) hb7)
   have HLR7 := Lib.hid ((HLR5.out.below HB5.out).below hb7)
   have HOW7 := Lib.hid (own_below (own_below HOW5.out HB5.out) hb7)
   have HB7 := Lib.hid ((HB4.out.trans (HB5.out.mono (by omega))).trans (hb7.mono (by omega)))
   have HNW := Lib.hid (heap_alloc_new w5 (.cells #[.slice (some ⟨gi, 0, none⟩) ni cap] 47))
   clear hb7 HR5 HLR5 HOW5 HB4 HB5 HG3
   go_wp2_with (at_builtin; refine wpList_append_own _ rfl _ _ 23 rfl w.heap.size 47 i0 (.agg #[.slice none 0 0]) 1 24 Tryz.underlying23 hi hz0 hz1 hz2 rfl (by decide) _ k vs rfl HR7.out ⟨w5.heap.size, 0, none⟩ 1 1 [.slice (some ⟨gi, 0, none⟩) ni cap] rfl rfl (World.news_of_block (cs := #[.slice (some ⟨gi, 0, none⟩) ni cap]) (t := 47) (fr := (0, 0)) HNW.out) (by simp [Value.oneCell']) ?c1 ?c2 ?c3 ?_)
   case c1 => unfold maxLen; omega
   case c2 => omega
   case c3 => first | omega | (simp; omega)
   intro v w8 ho hg _
   have HB8 : Hid (Below w.heap.size w w8) := HB7.out.grown hg (by simp; omega) (fun k e => (HR7.out.lt k e).1)
   have HR8 := Lib.hid ho
   have HLR8 : Hid (LR w8 w.heap.size ls (vs ++ [.slice (some ⟨gi, 0, none⟩) ni cap]) (k + 1)) := by
    have h1 := HLR7.out.kept hg (own_at HR7.out) (by decide)
    have h2 := own_keptT HOW7.out hg (own_at HR7.out) (by decide)
    have h3 := h1.snoc (g := gi) (c := cap) (by have := HR7.out.1; omega) (by rw [HLE.out, HNI.out]; exact h2)
    rwa [HLE.out, HNI.out] at h3
   clear ho hg HR7 HLR7 HOW7 HB7
   go_wp2
   go_roundw
   case rel => exact ⟨k + 1, _, by omega, by go_num, HB8.out, HR8.out, HLR8.out⟩
   case measure => simp [intOf]; omega
  ·have ek : k = n := by omega
   rw [ek] at hrow hlr
   clear ek HR HLR
   have HR := Lib.hid hrow
   have HLR := Lib.hid hlr
   clear hb hrow hlr
   go_wp2
   go_loopw [3, 6] (fun lv i wr => ∃ (j : Nat) (us : List Value), j ≤ 12 ∧ i = .int .i64 (j : Int) ∧ Below w.heap.size w wr ∧ wr.ownsRow w.heap.size 47 1 lv (n + j) us ∧ LR wr w.heap.size ls us n ∧ MR wr us n j) (fun _ i _ => 12 - (intOf i).toNat)
   case atStart => exact ⟨0, vs, by omega, rfl, HB.out, HR.out, HLR.out, fun _ hi => absurd hi (by omega)⟩
   clear HR HLR HB
   case round =>
    obtain ⟨j, us, hj, rfl, hb, hrow, hlr, hmr⟩ := hrel
    obtain ⟨Au, nu, cu, rfl⟩ := own_slice hrow
    have hbz := hb.size
    by_cases hjn : j < 12
    ·have HM : Hid (Calls Tryz.prog 29 #[.int .i64 1, .int .i64 (j : Int)] wr (MarkLPost wr (8000024 + (j : Int)))) := by
      have := markLevel_any 1 (j : Int) wr (by omega) (by omega)
      rwa [show (1000003 : Int) * (1 + 7) + (j : Int) = 8000024 + (j : Int) by omega] at this
     have HB := Lib.hid hb
     have HR := Lib.hid hrow
     have HLR := Lib.hid hlr
     have HMR := Lib.hid hmr
     clear hb hrow hlr hmr
     go_wp2_with (fail)
     refine HM.out.mono ?_
     rintro e w4 ⟨am, rfl, hma, hb4⟩
     have hs4 := hb4.size
     have hb5 : Below w4.heap.size w4 (w4.alloc (.cells #[.slice (some ⟨am, 0, none⟩) 1 1] 47)) := (Below.refl _ _).alloc (Nat.le_refl _) _
     have HR5 := Lib.hid (own_below (own_below HR.out hb4) hb5)
     have HLR5 := Lib.hid ((HLR.out.below hb4).below hb5)
     have HMR5 := Lib.hid ((HMR.out.below hb4).below hb5)
     have HMA := Lib.hid ((hb5.block am (heap_some_lt hma)).trans hma)
     have HB5 := Lib.hid ((HB.out.trans (hb4.mono hbz)).trans (hb5.mono (by omega)))
     have HNW := Lib.hid (heap_alloc_new w4 (.cells #[.slice (some ⟨am, 0, none⟩) 1 1] 47))
     clear hb4 hb5 hma HM HR HLR HMR HB
     go_wp2_with (at_builtin; refine wpList_append_own _ rfl _ _ 23 rfl w.heap.size 47 i0 (.agg #[.slice none 0 0]) 1 24 Tryz.underlying23 hi hz0 hz1 hz2 rfl (by decide) _ (n + j) us rfl HR5.out ⟨w4.heap.size, 0, none⟩ 1 1 [.slice (some ⟨am, 0, none⟩) 1 1] rfl rfl (World.news_of_block (cs := #[.slice (some ⟨am, 0, none⟩) 1 1]) (t := 47) (fr := (0, 0)) HNW.out) (by simp [Value.oneCell']) ?c1 ?c2 ?c3 ?_)
     case c1 => unfold maxLen; omega
     case c2 => omega
     case c3 => first | omega | (simp; omega)
     intro v w8 ho hg _
     have HB8 : Hid (Below w.heap.size w w8) := HB5.out.grown hg (by simp; omega) (fun k e => (HR5.out.lt k e).1)
     have HR8 := Lib.hid ho
     have hul : us.length = n + j := by have := HR5.out.1; omega
     have HLR8 : Hid (LR w8 w.heap.size ls (us ++ [.slice (some ⟨am, 0, none⟩) 1 1]) n) := fun i hi => by
      obtain ⟨gi, ci, q2, q3⟩ := (HLR5.out.kept hg (own_at HR5.out) (by decide)) i hi
      exact ⟨gi, ci, by rw [List.getElem?_append_left (by omega)]; exact q2, q3⟩
     have HMR8 : Hid (MR w8 (us ++ [.slice (some ⟨am, 0, none⟩) 1 1]) n (j + 1)) := (HMR5.out.snoc hul HMA.out).kept hg (own_other HR5.out (by decide))
     clear ho hg HR5 HLR5 HMR5 HB5 HMA hul
     go_wp2
     go_roundw
     case rel => exact ⟨j + 1, _, by omega, by go_num, HB8.out, HR8.out, HLR8.out, HMR8.out⟩
     case measure => simp [intOf]; omega
    ·have ej : j = 12 := by omega
     rw [ej] at hrow hmr
     clear ej
     obtain ⟨g, cap, e, _, _⟩ := hrow.form (by omega)
     injection e with e1 e2 e3
     subst e1 e2 e3
     obtain ⟨hc1, hc2⟩ := own_cap hrow
     have HFIN : Hid (LentLs w ls n (.returned (.slice (some ⟨g, 0, none⟩) n cu)) wr) := ⟨g, cu, rfl, ⟨us, hrow, hlr, hmr⟩, hb⟩
     have hc3 : n ≤ cu := by omega
     have hc4 : (n : Int) ≤ (cu : Int) := by omega
     have hc5 : (0 : Int) ≤ (n : Int) := by omega
     clear hb hrow hlr hmr
     go_wp2
     go_ret
     exact HFIN.out
set_option maxHeartbeats 4000000 in
theorem keptLevels_any (A : Option Addr) (ls : List (List (Int × Int))) (c n g cap B : Nat) (w : World) (hn : ls.length = n) (hm : n ≤ 100000) (h6 : ∀ l ∈ ls, l.length ≤ 100000) (h : Levs w w.heap.size A ls) (hk : LRow w B ls n g cap) :
  Calls Tryz.prog 19 #[.slice (some ⟨g, 0, none⟩) n cap, .slice A n c] w (HasPost w true) := by
 have q1 : IntKind.i64.wrap ((n : Int) + 12) = (n : Int) + 12 := IntWalk.i64_in _ (by omega)
 have q2 : ((n : Int) != (n : Int)) = false := by simp
 have q3 : (0 : Int) ≤ (n : Int) + 12 := by omega
 obtain ⟨vs, hrow, hlr, hmr⟩ := hk
 have hcap := (own_cap hrow).1
 have q4 : (n : Int) + 12 ≤ (cap : Int) := by omega
 have q5 : ((n : Int) + 12).toNat = n + 12 := by omega
 have hgw : g < w.heap.size := (hrow.lt g rfl).2
 have HL := Lib.hid h
 have HN := Lib.hid hn
 have H6 := Lib.hid h6
 have HR := Lib.hid hrow
 have HLR := Lib.hid hlr
 have HMR := Lib.hid hmr
 clear h hn h6 hrow hlr hmr
 go_enter Tryz.func19, Tryz.ntmps19
 go_wp2
 go_loopw [6] (fun i wr => ∃ k : Nat, k ≤ n + 12 ∧ i = .int .i64 (k : Int) ∧ Below w.heap.size w wr) (fun i _ => n + 12 - (intOf i).toNat)
 case atStart => exact ⟨0, by omega, rfl, Below.refl _ _⟩
 case round =>
  obtain ⟨k, hk, rfl, hb⟩ := hrel
  have hbz := hb.size
  have HB := Lib.hid hb
  by_cases hlt : k < n + 12
  ·have hgr : g < wr.heap.size := by omega
   have ij0 : (0 : Int) ≤ (k : Int) := by omega
   have ij1 : (k : Int) < ((n + 12 : Nat) : Int) := by omega
   have ij5 : (k : Int) < (n : Int) + 12 := by omega
   have hS : Below wr.heap.size wr wr.drew := (Below.refl _ _).drew
   by_cases hin : k < n
   ·have ij2 : (k : Int) < (n : Int) := by omega
    obtain ⟨b, o, e, hbB, hcell⟩ := HL.out (by rw [HN.out]; omega)
    subst e
    obtain ⟨Ai, ci, d0, hli, hci, _⟩ := hcell k (by rw [HN.out]; exact hin)
    obtain ⟨gi, ki, c0, hown⟩ := HLR.out k hin
    obtain ⟨l, hl⟩ : ∃ l, ls.getD k [] = l := ⟨_, rfl⟩
    obtain ⟨ni, hni⟩ : ∃ j, l.length = j := ⟨_, rfl⟩
    have hl6 : ni ≤ 100000 := by
     rw [← hni, ← hl, List.getD_eq_getElem?_getD, List.getElem?_eq_getElem (by rw [HN.out]; exact hin)]
     exact H6.out _ (List.getElem_mem _)
    rw [hl] at d0 hli c0 hown
    rw [hni] at d0 c0
    have c1 : w.cell? ⟨g, k, none⟩ = some (.slice (some ⟨gi, 0, none⟩) ni ki) := by rw [HR.out.cellAt k (by omega)]; exact c0
    replace c1 := (HB.out.cell (p := ⟨g, k, none⟩) hgw).trans c1
    replace d0 := (HB.out.cell (p := ⟨b, o + k, none⟩) hbB).trans d0
    have hbr : b < wr.heap.size := by omega
    have CK : Hid (∀ w', Below wr.heap.size wr w' → Calls Tryz.prog 41 #[.agg #[.slice (some ⟨gi, 0, none⟩) ni ki], .agg #[.slice Ai ni ci]] w' (HasPost w' true)) := fun w' hx => by
     have hx2 : Below w.heap.size w w' := HB.out.trans (hx.mono hbz)
     rw [show l.length + 12 = (l ++ marks 1 12).length by rw [List.length_append, marks_length]] at hown
     obtain ⟨_, hle, _⟩ := own_lev hown
     have hcp := (own_cap hown).1
     rw [List.length_append, marks_length, hni] at hcp
     exact keptLevel_any Ai l ci ni gi ki w' hni (by omega) hcp ((hli.below hx2).more hx2.size) ((hle.below hx2).more hx2.size)
    clear hb hcell hli hown c0 hl hni
    go_upto_region 7 with (fail)
    refine wp_region_tab (fun w' => Below wr.heap.size wr w') BR [(Is (.int .i64 (k : Int))), (Is (.slice (some ⟨b, o, none⟩) n c)), (Is (.int .i64 (n : Int))), (Is (.bool true)), (Is (.bool true)), (Is (.slice (some ⟨g, 0, none⟩) (n + 12) cap)), (Is (.int .i64 (k : Int))), (Is (.pointer (some ⟨g, k, none⟩))), (Is (.agg #[.slice (some ⟨gi, 0, none⟩) ni ki])), (Is (.slice (some ⟨b, o, none⟩) n c)), (Is (.int .i64 (k : Int))), (Is (.pointer (some ⟨b, o + k, none⟩))), (Is (.agg #[.slice Ai ni ci])), (Is (.bool true)), (Is (.bool false)), (Is (.bool false)), (Is (.bool false)), (Is (.int .i64 (k : Int))), (Is (.slice (some ⟨b, o, none⟩) n c)), (Is (.int .i64 (n : Int))), (Is (.bool false)), (Is (.bool false)), (Is undef), (Is undef), (Is undef), (Is undef), (Is undef), (Is undef), (Is undef), (Is undef), (Is undef), (Is undef), (Is undef), (Is (.bool false)), (Is (.bool false))] [⟨some 23, .move (.tmp 6), none, []⟩, ⟨some 24, .move (.tmp 1), none, []⟩, ⟨some 25, .call { callee := .builtin .len, args := #[.tmp 24], argTypes := #[23] }, none, [(24, 1)]⟩, ⟨some 26, .binOp .lss 3 (.tmp 23) (.tmp 25) 3, none, [(23, 0), (25, 2)]⟩, ⟨some 27, .move (.tmp 26), none, [(26, 3)]⟩, ⟨some 28, .move (.tmp 5), some (some 27, true), [(27, 4)]⟩, ⟨some 29, .move (.tmp 6), some (some 27, true), [(27, 4)]⟩, ⟨some 30, .indexAddr 23 (.tmp 28) (.tmp 29), some (some 27, true), [(27, 4), (28, 5), (29, 6)]⟩, ⟨some 31, .load 47 (.tmp 30), some (some 27, true), [(27, 4), (30, 7)]⟩, ⟨some 32, .move (.tmp 1), some (some 27, true), [(27, 4)]⟩, ⟨some 33, .move (.tmp 6), some (some 27, true), [(27, 4)]⟩, ⟨some 34, .indexAddr 23 (.tmp 32) (.tmp 33), some (some 27, true), [(27, 4), (32, 9), (33, 10)]⟩, ⟨some 35, .load 47 (.tmp 34), some (some 27, true), [(27, 4), (34, 11)]⟩, ⟨some 36, .call { callee := .value (.func 41), args := #[.tmp 31, .tmp 35], argTypes := #[47, 47] }, some (some 27, true), [(27, 4), (31, 8), (35, 12)]⟩, ⟨some 37, .unOp .not 4 (.tmp 36), some (some 27, true), [(27, 4), (36, 13)]⟩, ⟨some 38, .pick (.tmp 27) (.tmp 37) (.const (Value.bool false)), none, [(27, 4), (37, 14)]⟩, ⟨some 39, .move (.tmp 38), none, [(38, 15)]⟩, ⟨some 40, .move (.tmp 6), some (some 39, false), [(39, 16)]⟩, ⟨some 41, .move (.tmp 1), some (some 39, false), [(39, 16)]⟩, ⟨some 42, .call { callee := .builtin .len, args := #[.tmp 41], argTypes := #[23] }, some (some 39, false), [(39, 16), (41, 18)]⟩, ⟨some 43, .binOp .geq 3 (.tmp 40) (.tmp 42) 3, some (some 39, false), [(39, 16), (40, 17), (42, 19)]⟩, ⟨some 44, .move (.tmp 43), some (some 39, false), [(39, 16), (43, 20)]⟩, ⟨some 45, .move (.tmp 5), some (some 44, true), [(44, 21)]⟩, ⟨some 46, .move (.tmp 6), some (some 44, true), [(44, 21)]⟩, ⟨some 47, .indexAddr 23 (.tmp 45) (.tmp 46), some (some 44, true), [(44, 21), (45, 22), (46, 23)]⟩, ⟨some 48, .load 47 (.tmp 47), some (some 44, true), [(44, 21), (47, 24)]⟩, ⟨some 49, .move (.tmp 6), some (some 44, true), [(44, 21)]⟩, ⟨some 50, .move (.tmp 1), some (some 44, true), [(44, 21)]⟩, ⟨some 51, .call { callee := .builtin .len, args := #[.tmp 50], argTypes := #[23] }, some (some 44, true), [(44, 21), (50, 27)]⟩, ⟨some 52, .binOp .sub 3 (.tmp 49) (.tmp 51) 3, some (some 44, true), [(44, 21), (49, 26), (51, 28)]⟩, ⟨some 53, .call { callee := .value (.func 29), args := #[.const (.int .i64 1), .tmp 52], argTypes := #[3, 3] }, some (some 44, true), [(44, 21), (52, 29)]⟩, ⟨some 54, .call { callee := .value (.func 42), args := #[.tmp 48, .tmp 53], argTypes := #[47, 47] }, some (some 44, true), [(44, 21), (48, 25), (53, 30)]⟩, ⟨some 55, .unOp .not 4 (.tmp 54), some (some 44, true), [(44, 21), (54, 31)]⟩, ⟨some 56, .pick (.tmp 44) (.tmp 55) (.const (Value.bool false)), some (some 39, false), [(39, 16), (44, 21), (55, 32)]⟩, ⟨some 57, .pick (.tmp 39) (.const (Value.bool true)) (.tmp 56), none, [(39, 16), (56, 33)]⟩] [some 23, some 24, some 25, some 26, some 27, some 28, some 29, some 30, some 31, some 32, some 33, some 34, some 35, some 36, some 37, some 38, some 39, some 40, some 41, some 42, some 43, some 44, some 45, some 46, some 47, some 48, some 49, some 50, some 51, some 52, some 53, some 54, some 55, some 56, some 57] (by kernel_rfl) (by kernel_rfl) (by kernel_rfl) (by kernel_rfl) (by kernel_rfl) ?hS ?hmono ?hsteps ?hfin
    case hS => exact hS
    case hmono =>
     iterate 35 refine .cons (fun x w1 w2 _ _ _ hx => hx) ?_
     exact .nil
    case hsteps =>
     refine .cons (Is (.int .i64 (k : Int))) [] rfl rfl (fun oq hop _ wq hQS => ?_) ?_
     ·exact .move hop (v := (.int .i64 (k : Int))) (by kernel_rfl) (by kernel_rfl) hQS (.refl _ _) rfl
     refine .cons (Is (.slice (some ⟨b, o, none⟩) n c)) [] rfl rfl (fun oq hop _ wq hQS => ?_) ?_
     ·exact .move hop (v := (.slice (some ⟨b, o, none⟩) n c)) (by kernel_rfl) (by kernel_rfl) hQS (.refl _ _) rfl
     refine .cons (Is (.int .i64 (n : Int))) _ rfl rfl (fun oq hop _ wq hQS => ?_) ?_
     ·refine .more_eq (.slice (some ⟨b, o, none⟩) n c) ?_
      exact .len hop (show _ = (.slice (some ⟨b, o, none⟩) n c : Value) by kernel_rfl) (by kernel_rfl) hQS (.refl _ _) rfl
     refine .cons (Is (.bool true)) _ rfl rfl (fun oq hop _ wq hQS => ?_) ?_
     ·refine .more_eq (.int .i64 (k : Int)) (.more_eq (.int .i64 (n : Int)) ?_)
      exact .bin hop (vx := (.int .i64 (k : Int))) (vy := (.int .i64 (n : Int))) (by kernel_rfl) (by kernel_rfl) (lss_yes _ _ _ _ _ ij2) (by kernel_rfl) hQS (.refl _ _) rfl
     refine .cons (Is (.bool true)) _ rfl rfl (fun oq hop _ wq hQS => ?_) ?_
     ·refine .more_eq (.bool true) ?_
      exact .move hop (v := (.bool true)) (by kernel_rfl) (by kernel_rfl) hQS (.refl _ _) rfl
     refine .cons (Is (.slice (some ⟨g, 0, none⟩) (n + 12) cap)) _ rfl rfl (fun oq hop _ wq hQS => ?_) ?_
     ·refine .more_eq (.bool true) ?_
      exact .move hop (v := (.slice (some ⟨g, 0, none⟩) (n + 12) cap)) (by kernel_rfl) (by kernel_rfl) hQS (.refl _ _) rfl
     refine .cons (Is (.int .i64 (k : Int))) _ rfl rfl (fun oq hop _ wq hQS => ?_) ?_
     ·refine .more_eq (.bool true) ?_
      exact .move hop (v := (.int .i64 (k : Int))) (by kernel_rfl) (by kernel_rfl) hQS (.refl _ _) rfl
     refine .cons (Is (.pointer (some ⟨g, k, none⟩))) _ rfl rfl (fun oq hop _ wq hQS => ?_) ?_
     ·refine .more_eq (.bool true) (.more_eq (.slice (some ⟨g, 0, none⟩) (n + 12) cap) (.more_eq (.int .i64 (k : Int)) ?_))
      exact .indexAddr hop (p := (.slice (some ⟨g, 0, none⟩) (n + 12) cap)) (q := (.int .i64 (k : Int))) (by kernel_rfl) (by kernel_rfl) (lev_addr ij0 ij1) (by kernel_rfl) hQS (.refl _ _) rfl
     refine .cons (Is (.agg #[.slice (some ⟨gi, 0, none⟩) ni ki])) _ rfl rfl (fun oq hop _ wq hQS => ?_) ?_
     ·refine .more_eq (.bool true) (.more_eq (.pointer (some ⟨g, k, none⟩)) ?_)
      exact .load hop (p := (.pointer (some ⟨g, k, none⟩))) (by kernel_rfl) (load_lev_at ((hQS.cell (p := ⟨g, k, none⟩) hgr).trans c1)) (by kernel_rfl) hQS (.refl _ _) rfl
     refine .cons (Is (.slice (some ⟨b, o, none⟩) n c)) _ rfl rfl (fun oq hop _ wq hQS => ?_) ?_
     ·refine .more_eq (.bool true) ?_
      exact .move hop (v := (.slice (some ⟨b, o, none⟩) n c)) (by kernel_rfl) (by kernel_rfl) hQS (.refl _ _) rfl
     refine .cons (Is (.int .i64 (k : Int))) _ rfl rfl (fun oq hop _ wq hQS => ?_) ?_
     ·refine .more_eq (.bool true) ?_
      exact .move hop (v := (.int .i64 (k : Int))) (by kernel_rfl) (by kernel_rfl) hQS (.refl _ _) rfl
     refine .cons (Is (.pointer (some ⟨b, o + k, none⟩))) _ rfl rfl (fun oq hop _ wq hQS => ?_) ?_
     ·refine .more_eq (.bool true) (.more_eq (.slice (some ⟨b, o, none⟩) n c) (.more_eq (.int .i64 (k : Int)) ?_))
      exact .indexAddr hop (p := (.slice (some ⟨b, o, none⟩) n c)) (q := (.int .i64 (k : Int))) (by kernel_rfl) (by kernel_rfl) (lev_addr_o ij0 ij2) (by kernel_rfl) hQS (.refl _ _) rfl
     refine .cons (Is (.agg #[.slice Ai ni ci])) _ rfl rfl (fun oq hop _ wq hQS => ?_) ?_
     ·refine .more_eq (.bool true) (.more_eq (.pointer (some ⟨b, o + k, none⟩)) ?_)
      exact .load hop (p := (.pointer (some ⟨b, o + k, none⟩))) (by kernel_rfl) (load_lev_at ((hQS.cell (p := ⟨b, o + k, none⟩) hbr).trans d0)) (by kernel_rfl) hQS (.refl _ _) rfl
     refine .cons (Is (.bool true)) _ rfl rfl (fun oq hop _ wq hQS => ?_) ?_
     ·refine .more_eq (.bool true) (.more_eq (.agg #[.slice (some ⟨gi, 0, none⟩) ni ki]) (.more_eq (.agg #[.slice Ai ni ci]) ?_))
      exact .call hop (vs := [(.agg #[.slice (some ⟨gi, 0, none⟩) ni ki]), (.agg #[.slice Ai ni ci])]) (by kernel_rfl) (fun w => enter_keptLevel _ w) (by kernel_rfl) ((CK.out wq hQS).mono fun e w9 h9 => ⟨_, h9.1, hQS.trans (h9.2.mono hQS.size), h9.2, rfl⟩)
     refine .cons (Is (.bool false)) _ rfl rfl (fun oq hop _ wq hQS => ?_) ?_
     ·refine .more_eq (.bool true) (.more_eq (.bool true) ?_)
      exact .not hop (b := true) (by kernel_rfl) (by kernel_rfl) hQS (.refl _ _) rfl
     refine .cons (Is (.bool false)) _ rfl rfl (fun oq hop _ wq hQS => ?_) ?_
     ·refine .more_eq (.bool true) (.more_eq (.bool false) ?_)
      exact .pick hop (b := true) (vx := (.bool false)) (vy := (.bool false)) (by kernel_rfl) (by kernel_rfl) (by kernel_rfl) (by kernel_rfl) hQS (.refl _ _) rfl
     refine .cons (Is (.bool false)) _ rfl rfl (fun oq hop _ wq hQS => ?_) ?_
     ·refine .more_eq (.bool false) ?_
      exact .move hop (v := (.bool false)) (by kernel_rfl) (by kernel_rfl) hQS (.refl _ _) rfl
     refine .cons (Is (.int .i64 (k : Int))) _ rfl rfl (fun oq hop _ wq hQS => ?_) ?_
     ·refine .more_eq (.bool false) ?_
      exact .move hop (v := (.int .i64 (k : Int))) (by kernel_rfl) (by kernel_rfl) hQS (.refl _ _) rfl
     refine .cons (Is (.slice (some ⟨b, o, none⟩) n c)) _ rfl rfl (fun oq hop _ wq hQS => ?_) ?_
     ·refine .more_eq (.bool false) ?_
      exact .move hop (v := (.slice (some ⟨b, o, none⟩) n c)) (by kernel_rfl) (by kernel_rfl) hQS (.refl _ _) rfl
     refine .cons (Is (.int .i64 (n : Int))) _ rfl rfl (fun oq hop _ wq hQS => ?_) ?_
     ·refine .more_eq (.bool false) (.more_eq (.slice (some ⟨b, o, none⟩) n c) ?_)
      exact .len hop (show _ = (.slice (some ⟨b, o, none⟩) n c : Value) by kernel_rfl) (by kernel_rfl) hQS (.refl _ _) rfl
     refine .cons (Is (.bool false)) _ rfl rfl (fun oq hop _ wq hQS => ?_) ?_
     ·refine .more_eq (.bool false) (.more_eq (.int .i64 (k : Int)) (.more_eq (.int .i64 (n : Int)) ?_))
      exact .bin hop (vx := (.int .i64 (k : Int))) (vy := (.int .i64 (n : Int))) (by kernel_rfl) (by kernel_rfl) (geq_no _ _ _ _ _ ij2) (by kernel_rfl) hQS (.refl _ _) rfl
     refine .cons (Is (.bool false)) _ rfl rfl (fun oq hop _ wq hQS => ?_) ?_
     ·refine .more_eq (.bool false) (.more_eq (.bool false) ?_)
      exact .move hop (v := (.bool false)) (by kernel_rfl) (by kernel_rfl) hQS (.refl _ _) rfl
     refine .cons (Is undef) _ rfl rfl (fun oq hop _ wq hQS => ?_) ?_
     ·refine .more_eq (.bool false) ?_
      exact .off (by kernel_rfl) hQS (.refl _ _) rfl
     refine .cons (Is undef) _ rfl rfl (fun oq hop _ wq hQS => ?_) ?_
     ·refine .more_eq (.bool false) ?_
      exact .off (by kernel_rfl) hQS (.refl _ _) rfl
     refine .cons (Is undef) _ rfl rfl (fun oq hop _ wq hQS => ?_) ?_
     ·refine .more_eq (.bool false) (.more_eq (undef) (.more_eq (undef) ?_))
      exact .off (by kernel_rfl) hQS (.refl _ _) rfl
     refine .cons (Is undef) _ rfl rfl (fun oq hop _ wq hQS => ?_) ?_
     ·refine .more_eq (.bool false) (.more_eq (undef) ?_)
      exact .off (by kernel_rfl) hQS (.refl _ _) rfl
     refine .cons (Is undef) _ rfl rfl (fun oq hop _ wq hQS => ?_) ?_
     ·refine .more_eq (.bool false) ?_
      exact .off (by kernel_rfl) hQS (.refl _ _) rfl
     refine .cons (Is undef) _ rfl rfl (fun oq hop _ wq hQS => ?_) ?_
     ·refine .more_eq (.bool false) ?_
      exact .off (by kernel_rfl) hQS (.refl _ _) rfl
     refine .cons (Is undef) _ rfl rfl (fun oq hop _ wq hQS => ?_) ?_
     ·refine .more_eq (.bool false) (.more_eq (undef) ?_)
      exact .off (by kernel_rfl) hQS (.refl _ _) rfl
     refine .cons (Is undef) _ rfl rfl (fun oq hop _ wq hQS => ?_) ?_
     ·refine .more_eq (.bool false) (.more_eq (undef) (.more_eq (undef) ?_))
      exact .off (by kernel_rfl) hQS (.refl _ _) rfl
     refine .cons (Is undef) _ rfl rfl (fun oq hop _ wq hQS => ?_) ?_
     ·refine .more_eq (.bool false) (.more_eq (undef) ?_)
      exact .off (by kernel_rfl) hQS (.refl _ _) rfl
     refine .cons (Is undef) _ rfl rfl (fun oq hop _ wq hQS => ?_) ?_
     ·refine .more_eq (.bool false) (.more_eq (undef) (.more_eq (undef) ?_))
      exact .off (by kernel_rfl) hQS (.refl _ _) rfl
     refine .cons (Is undef) _ rfl rfl (fun oq hop _ wq hQS => ?_) ?_
     ·refine .more_eq (.bool false) (.more_eq (undef) ?_)
      exact .off (by kernel_rfl) hQS (.refl _ _) rfl
     refine .cons (Is (.bool false)) _ rfl rfl (fun oq hop _ wq hQS => ?_) ?_
     ·refine .more_eq (.bool false) (.more_eq (.bool false) (.more_eq (undef) ?_))
      exact .pick hop (b := false) (vx := undef) (vy := (.bool false)) (by kernel_rfl) (by kernel_rfl) (by kernel_rfl) (by kernel_rfl) hQS (.refl _ _) rfl
     refine .cons (Is (.bool false)) _ rfl rfl (fun oq hop _ wq hQS => ?_) ?_
     ·refine .more_eq (.bool false) (.more_eq (.bool false) ?_)
      exact .pick hop (b := false) (vx := (.bool true)) (vy := (.bool false)) (by kernel_rfl) (by kernel_rfl) (by kernel_rfl) (by kernel_rfl) hQS (.refl _ _) rfl
     exact .nil
    case hfin =>
     intro wf hFS
     iterate 34 refine .more fun _ _ => ?_
     refine .more fun x57 h57 => ?_
     refine .done ?_
     obtain rfl : x57 = (.bool false) := h57
     have hsf := hFS.size
     have HB2 : Hid (Below w.heap.size w wf) := HB.out.trans (hFS.mono hbz)
     clear hS hFS c1 d0
     simp only [Act.put, List.setIfInBounds_toArray, List.set_cons_zero, List.set_cons_succ]
     go_wp2
     go_roundw
     case rel => exact ⟨k + 1, by omega, by go_num, HB2.out⟩
     case measure => simp [intOf]; omega
   ·have ij2 : (n : Int) ≤ (k : Int) := by omega
    obtain ⟨m, hm8⟩ : ∃ m, 8000024 + ((k : Int) - (n : Int)) = m := ⟨_, rfl⟩
    obtain ⟨am, c0, y2⟩ := HMR.out (k - n) (by omega)
    rw [show n + (k - n) = k by omega] at c0
    rw [show 8000024 + (((k - n : Nat) : Nat) : Int) = m by rw [← hm8]; omega] at y2
    have c1 : w.cell? ⟨g, k, none⟩ = some (.slice (some ⟨am, 0, none⟩) 1 1) := by rw [HR.out.cellAt k (by omega)]; exact c0
    replace c1 := (HB.out.cell (p := ⟨g, k, none⟩) hgw).trans c1
    replace y2 := (HB.out.block am (heap_some_lt y2)).trans y2
    have q6 : IntKind.i64.wrap ((k : Int) - (n : Int)) = (k : Int) - (n : Int) := IntWalk.i64_in _ (by omega)
    have HM : Hid (∀ wq, Calls Tryz.prog 29 #[.int .i64 1, .int .i64 ((k : Int) - (n : Int))] wq (MarkLPost wq m)) := fun wq => by
     have := markLevel_any 1 ((k : Int) - (n : Int)) wq (by omega) (by omega)
     rwa [show (1000003 : Int) * (1 + 7) + ((k : Int) - (n : Int)) = m by rw [← hm8]; omega] at this
    clear hb c0 hm8
    go_upto_region 7 with (fail)
    refine wp_region_tab (fun w' => Below wr.heap.size wr w') BR [(Is (.int .i64 (k : Int))), (Is (.slice A n c)), (Is (.int .i64 (n : Int))), (Is (.bool false)), (Is (.bool false)), (Is undef), (Is undef), (Is undef), (Is undef), (Is undef), (Is undef), (Is undef), (Is undef), (Is undef), (Is undef), (Is (.bool false)), (Is (.bool false)), (Is (.int .i64 (k : Int))), (Is (.slice A n c)), (Is (.int .i64 (n : Int))), (Is (.bool true)), (Is (.bool true)), (Is (.slice (some ⟨g, 0, none⟩) (n + 12) cap)), (Is (.int .i64 (k : Int))), (Is (.pointer (some ⟨g, k, none⟩))), (Is (.agg #[.slice (some ⟨am, 0, none⟩) 1 1])), (Is (.int .i64 (k : Int))), (Is (.slice A n c)), (Is (.int .i64 (n : Int))), (Is (.int .i64 ((k : Int) - (n : Int)))), (fun (x : Value) (w : World) => MkL m x w), (Is (.bool true)), (Is (.bool false)), (Is (.bool false)), (Is (.bool false))] [⟨some 23, .move (.tmp 6), none, []⟩, ⟨some 24, .move (.tmp 1), none, []⟩, ⟨some 25, .call { callee := .builtin .len, args := #[.tmp 24], argTypes := #[23] }, none, [(24, 1)]⟩, ⟨some 26, .binOp .lss 3 (.tmp 23) (.tmp 25) 3, none, [(23, 0), (25, 2)]⟩, ⟨some 27, .move (.tmp 26), none, [(26, 3)]⟩, ⟨some 28, .move (.tmp 5), some (some 27, true), [(27, 4)]⟩, ⟨some 29, .move (.tmp 6), some (some 27, true), [(27, 4)]⟩, ⟨some 30, .indexAddr 23 (.tmp 28) (.tmp 29), some (some 27, true), [(27, 4), (28, 5), (29, 6)]⟩, ⟨some 31, .load 47 (.tmp 30), some (some 27, true), [(27, 4), (30, 7)]⟩, ⟨some 32, .move (.tmp 1), some (some 27, true), [(27, 4)]⟩, ⟨some 33, .move (.tmp 6), some (some 27, true), [(27, 4)]⟩, ⟨some 34, .indexAddr 23 (.tmp 32) (.tmp 33), some (some 27, true), [(27, 4), (32, 9), (33, 10)]⟩, ⟨some 35, .load 47 (.tmp 34), some (some 27, true), [(27, 4), (34, 11)]⟩, ⟨some 36, .call { callee := .value (.func 41), args := #[.tmp 31, .tmp 35], argTypes := #[47, 47] }, some (some 27, true), [(27, 4), (31, 8), (35, 12)]⟩, ⟨some 37, .unOp .not 4 (.tmp 36), some (some 27, true), [(27, 4), (36, 13)]⟩, ⟨some 38, .pick (.tmp 27) (.tmp 37) (.const (Value.bool false)), none, [(27, 4), (37, 14)]⟩, ⟨some 39, .move (.tmp 38), none, [(38, 15)]⟩, ⟨some 40, .move (.tmp 6), some (some 39, false), [(39, 16)]⟩, ⟨some 41, .move (.tmp 1), some (some 39, false), [(39, 16)]⟩, ⟨some 42, .call { callee := .builtin .len, args := #[.tmp 41], argTypes := #[23] }, some (some 39, false), [(39, 16), (41, 18)]⟩, ⟨some 43, .binOp .geq 3 (.tmp 40) (.tmp 42) 3, some (some 39, false), [(39, 16), (40, 17), (42, 19)]⟩, ⟨some 44, .move (.tmp 43), some (some 39, false), [(39, 16), (43, 20)]⟩, ⟨some 45, .move (.tmp 5), some (some 44, true), [(44, 21)]⟩, ⟨some 46, .move (.tmp 6), some (some 44, true), [(44, 21)]⟩, ⟨some 47, .indexAddr 23 (.tmp 45) (.tmp 46), some (some 44, true), [(44, 21), (45, 22), (46, 23)]⟩, ⟨some 48, .load 47 (.tmp 47), some (some 44, true), [(44, 21), (47, 24)]⟩, ⟨some 49, .move (.tmp 6), some (some 44, true), [(44, 21)]⟩, ⟨some 50, .move (.tmp 1), some (some 44, true), [(44, 21)]⟩, ⟨some 51, .call { callee := .builtin .len, args := #[.tmp 50], argTypes := #[23] }, some (some 44, true), [(44, 21), (50, 27)]⟩, ⟨some 52, .binOp .sub 3 (.tmp 49) (.tmp 51) 3, some (some 44, true), [(44, 21), (49, 26), (51, 28)]⟩, ⟨some 53, .call { callee := .value (.func 29), args := #[.const (.int .i64 1), .tmp 52], argTypes := #[3, 3] }, some (some 44, true), [(44, 21), (52, 29)]⟩, ⟨some 54, .call { callee := .value (.func 42), args := #[.tmp 48, .tmp 53], argTypes := #[47, 47] }, some (some 44, true), [(44, 21), (48, 25), (53, 30)]⟩, ⟨some 55, .unOp .not 4 (.tmp 54), some (some 44, true), [(44, 21), (54, 31)]⟩, ⟨some 56, .pick (.tmp 44) (.tmp 55) (.const (Value.bool false)), some (some 39, false), [(39, 16), (44, 21), (55, 32)]⟩, ⟨some 57, .pick (.tmp 39) (.const (Value.bool true)) (.tmp 56), none, [(39, 16), (56, 33)]⟩] [some 23, some 24, some 25, some 26, some 27, some 28, some 29, some 30, some 31, some 32, some 33, some 34, some 35, some 36, some 37, some 38, some 39, some 40, some 41, some 42, some 43, some 44, some 45, some 46, some 47, some 48, some 49, some 50, some 51, some 52, some 53, some 54, some 55, some 56, some 57] (by kernel_rfl) (by kernel_rfl) (by kernel_rfl) (by kernel_rfl) (by kernel_rfl) ?hS ?hmono ?hsteps ?hfin
    case hS => exact hS
    case hmono =>
     iterate 30 refine .cons (fun x w1 w2 _ _ _ hx => hx) ?_
     refine .cons (fun x w1 w2 _ _ hR hx => ?_) ?_
     ·exact MkL.mono hx hR
     iterate 4 refine .cons (fun x w1 w2 _ _ _ hx => hx) ?_
     exact .nil
    case hsteps =>
     refine .cons (Is (.int .i64 (k : Int))) [] rfl rfl (fun oq hop _ wq hQS => ?_) ?_
     ·exact .move hop (v := (.int .i64 (k : Int))) (by kernel_rfl) (by kernel_rfl) hQS (.refl _ _) rfl
     refine .cons (Is (.slice A n c)) [] rfl rfl (fun oq hop _ wq hQS => ?_) ?_
     ·exact .move hop (v := (.slice A n c)) (by kernel_rfl) (by kernel_rfl) hQS (.refl _ _) rfl
     refine .cons (Is (.int .i64 (n : Int))) _ rfl rfl (fun oq hop _ wq hQS => ?_) ?_
     ·refine .more_eq (.slice A n c) ?_
      exact .len hop (show _ = (.slice A n c : Value) by kernel_rfl) (by kernel_rfl) hQS (.refl _ _) rfl
     refine .cons (Is (.bool false)) _ rfl rfl (fun oq hop _ wq hQS => ?_) ?_
     ·refine .more_eq (.int .i64 (k : Int)) (.more_eq (.int .i64 (n : Int)) ?_)
      exact .bin hop (vx := (.int .i64 (k : Int))) (vy := (.int .i64 (n : Int))) (by kernel_rfl) (by kernel_rfl) (lss_no _ _ _ _ _ ij2) (by kernel_rfl) hQS (.refl _ _) rfl
     refine .cons (Is (.bool false)) _ rfl rfl (fun oq hop _ wq hQS => ?_) ?_
     ·refine .more_eq (.bool false) ?_
      exact .move hop (v := (.bool false)) (by kernel_rfl) (by kernel_rfl) hQS (.refl _ _) rfl
     refine .cons (Is undef) _ rfl rfl (fun oq hop _ wq hQS => ?_) ?_
     ·refine .more_eq (.bool false) ?_
      exact .off (by kernel_rfl) hQS (.refl _ _) rfl
     refine .cons (Is undef) _ rfl rfl (fun oq hop _ wq hQS => ?_) ?_
     ·refine .more_eq (.bool false) ?_
      exact .off (by kernel_rfl) hQS (.refl _ _) rfl
     refine .cons (Is undef) _ rfl rfl (fun oq hop _ wq hQS => ?_) ?_
     ·refine .more_eq (.bool false) (.more_eq (undef) (.more_eq (undef) ?_))
      exact .off (by kernel_rfl) hQS (.refl _ _) rfl
     refine .cons (Is undef) _ rfl rfl (fun oq hop _ wq hQS => ?_) ?_
     ·refine .more_eq (.bool false) (.more_eq (undef) ?_)
      exact .off (by kernel_rfl) hQS (.refl _ _) rfl
     refine .cons (Is undef) _ rfl rfl (fun oq hop _ wq hQS => ?_) ?_
     ·refine .more_eq (.bool false) ?_
      exact .off (by kernel_rfl) hQS (.refl _ _) rfl
     refine .cons (Is undef) _ rfl rfl (fun oq hop _ wq hQS => ?_) ?_
     ·refine .more_eq (.bool false) ?_
      exact .off (by kernel_rfl) hQS (.refl _ _) rfl
     refine .cons (Is undef) _ rfl rfl (fun oq hop _ wq hQS => ?_) ?_
     ·refine .more_eq (.bool false) (.more_eq (undef) (.more_eq (undef) ?_))
      exact .off (by kernel_rfl) hQS (.refl _ _) rfl
     refine .cons (Is undef) _ rfl rfl (fun oq hop _ wq hQS => ?_) ?_
     ·refine .more_eq (.bool false) (.more_eq (undef) ?_)
      exact .off (by kernel_rfl) hQS (.refl _ _) rfl
     refine .cons (Is undef) _ rfl rfl (fun oq hop _ wq hQS => ?_) ?_
     ·refine .more_eq (.bool false) (.more_eq (undef) (.more_eq (undef) ?_))
      exact .off (by kernel_rfl) hQS (.refl _ _) rfl
     refine .cons (Is undef) _ rfl rfl (fun oq hop _ wq hQS => ?_) ?_
     ·refine .more_eq (.bool false) (.more_eq (undef) ?_)
      exact .off (by kernel_rfl) hQS (.refl _ _) rfl
     refine .cons (Is (.bool false)) _ rfl rfl (fun oq hop _ wq hQS => ?_) ?_
     ·refine .more_eq (.bool false) (.more_eq (undef) ?_)
      exact .pick hop (b := false) (vx := undef) (vy := (.bool false)) (by kernel_rfl) (by kernel_rfl) (by kernel_rfl) (by kernel_rfl) hQS (.refl _ _) rfl
     refine .cons (Is (.bool false)) _ rfl rfl (fun oq hop _ wq hQS => ?_) ?_
     ·refine .more_eq (.bool false) ?_
      exact .move hop (v := (.bool false)) (by kernel_rfl) (by kernel_rfl) hQS (.refl _ _) rfl
     refine .cons (Is (.int .i64 (k : Int))) _ rfl rfl (fun oq hop _ wq hQS => ?_) ?_
     ·refine .more_eq (.bool false) ?_
      exact .move hop (v := (.int .i64 (k : Int))) (by kernel_rfl) (by kernel_rfl) hQS (.refl _ _) rfl
     refine .cons (Is (.slice A n c)) _ rfl rfl (fun oq hop _ wq hQS => ?_) ?_
     ·refine .more_eq (.bool false) ?_
      exact .move hop (v := (.slice A n c)) (by kernel_rfl) (by kernel_rfl) hQS (.refl _ _) rfl
     refine .cons (Is (.int .i64 (n : Int))) _ rfl rfl (fun oq hop _ wq hQS => ?_) ?_
     ·refine .more_eq (.bool false) (.more_eq (.slice A n c) ?_)
      exact .len hop (show _ = (.slice A n c : Value) by kernel_rfl) (by kernel_rfl) hQS (.refl _ _) rfl
     refine .cons (Is (.bool true)) _ rfl rfl (fun oq hop _ wq hQS => ?_) ?_
     ·refine .more_eq (.bool false) (.more_eq (.int .i64 (k : Int)) (.more_eq (.int .i64 (n : Int)) ?_))
      exact .bin hop (vx := (.int .i64 (k : Int))) (vy := (.int .i64 (n : Int))) (by kernel_rfl) (by kernel_rfl) (geq_yes _ _ _ _ _ ij2) (by kernel_rfl) hQS (.refl _ _) rfl
     refine .cons (Is (.bool true)) _ rfl rfl (fun oq hop _ wq hQS => ?_) ?_
     ·refine .more_eq (.bool false) (.more_eq (.bool true) ?_)
      exact .move hop (v := (.bool true)) (by kernel_rfl) (by kernel_rfl) hQS (.refl _ _) rfl
     refine .cons (Is (.slice (some ⟨g, 0, none⟩) (n + 12) cap)) _ rfl rfl (fun oq hop _ wq hQS => ?_) ?_
     ·refine .more_eq (.bool true) ?_
      exact .move hop (v := (.slice (some ⟨g, 0, none⟩) (n + 12) cap)) (by kernel_rfl) (by kernel_rfl) hQS (.refl _ _) rfl
     refine .cons (Is (.int .i64 (k : Int))) _ rfl rfl (fun oq hop _ wq hQS => ?_) ?_
     ·refine .more_eq (.bool true) ?_
      exact .move hop (v := (.int .i64 (k : Int))) (by kernel_rfl) (by kernel_rfl) hQS (.refl _ _) rfl
     refine .cons (Is (.pointer (some ⟨g, k, none⟩))) _ rfl rfl (fun oq hop _ wq hQS => ?_) ?_
     ·refine .more_eq (.bool true) (.more_eq (.slice (some ⟨g, 0, none⟩) (n + 12) cap) (.more_eq (.int .i64 (k : Int)) ?_))
      exact .indexAddr hop (p := (.slice (some ⟨g, 0, none⟩) (n + 12) cap)) (q := (.int .i64 (k : Int))) (by kernel_rfl) (by kernel_rfl) (lev_addr ij0 ij1) (by kernel_rfl) hQS (.refl _ _) rfl
     refine .cons (Is (.agg #[.slice (some ⟨am, 0, none⟩) 1 1])) _ rfl rfl (fun oq hop _ wq hQS => ?_) ?_
     ·refine .more_eq (.bool true) (.more_eq (.pointer (some ⟨g, k, none⟩)) ?_)
      exact .load hop (p := (.pointer (some ⟨g, k, none⟩))) (by kernel_rfl) (load_lev_at ((hQS.cell (p := ⟨g, k, none⟩) hgr).trans c1)) (by kernel_rfl) hQS (.refl _ _) rfl
     refine .cons (Is (.int .i64 (k : Int))) _ rfl rfl (fun oq hop _ wq hQS => ?_) ?_
     ·refine .more_eq (.bool true) ?_
      exact .move hop (v := (.int .i64 (k : Int))) (by kernel_rfl) (by kernel_rfl) hQS (.refl _ _) rfl
     refine .cons (Is (.slice A n c)) _ rfl rfl (fun oq hop _ wq hQS => ?_) ?_
     ·refine .more_eq (.bool true) ?_
      exact .move hop (v := (.slice A n c)) (by kernel_rfl) (by kernel_rfl) hQS (.refl _ _) rfl
     refine .cons (Is (.int .i64 (n : Int))) _ rfl rfl (fun oq hop _ wq hQS => ?_) ?_
     ·refine .more_eq (.bool true) (.more_eq (.slice A n c) ?_)
      exact .len hop (show _ = (.slice A n c : Value) by kernel_rfl) (by kernel_rfl) hQS (.refl _ _) rfl
     refine .cons (Is (.int .i64 ((k : Int) - (n : Int)))) _ rfl rfl (fun oq hop _ wq hQS => ?_) ?_
     ·refine .more_eq (.bool true) (.more_eq (.int .i64 (k : Int)) (.more_eq (.int .i64 (n : Int)) ?_))
      exact .bin hop (vx := (.int .i64 (k : Int))) (vy := (.int .i64 (n : Int))) (by kernel_rfl) (by kernel_rfl) (sub_int _ _ _ _ _ q6) (by kernel_rfl) hQS (.refl _ _) rfl
     refine .cons (fun (x : Value) (w : World) => MkL m x w) _ rfl rfl (fun oq hop _ wq hQS => ?_) ?_
     ·refine .more_eq (.bool true) (.more_eq (.int .i64 ((k : Int) - (n : Int))) ?_)
      exact .call hop (vs := [(.int .i64 1), (.int .i64 ((k : Int) - (n : Int)))]) (by kernel_rfl) (fun w => enter_markLevel _ w) (by kernel_rfl) ((HM.out wq).mono fun e w9 h9 => by obtain ⟨a9, h1, h2, h3⟩ := h9; exact ⟨_, h1, hQS.trans (h3.mono hQS.size), h3, a9, rfl, h2⟩)
     refine .cons (Is (.bool true)) _ rfl rfl (fun oq hop _ wq hQS => ?_) ?_
     ·refine .more_eq (.bool true) (.more_eq (.agg #[.slice (some ⟨am, 0, none⟩) 1 1]) ?_)
      refine .more fun x53 h53 => ?_
      obtain ⟨a53, rfl, hm53⟩ := h53
      exact .call hop (vs := [(.agg #[.slice (some ⟨am, 0, none⟩) 1 1]), (.agg #[.slice (some ⟨a53, 0, none⟩) 1 1])]) (by kernel_rfl) (fun w => enter_sameLevel _ w) (by kernel_rfl) ((sameMk ((hQS.block _ (heap_some_lt y2)).trans y2) hm53).mono fun e w9 h9 => ⟨_, h9.1, hQS.trans (h9.2.mono hQS.size), h9.2, rfl⟩)
     refine .cons (Is (.bool false)) _ rfl rfl (fun oq hop _ wq hQS => ?_) ?_
     ·refine .more_eq (.bool true) (.more_eq (.bool true) ?_)
      exact .not hop (b := true) (by kernel_rfl) (by kernel_rfl) hQS (.refl _ _) rfl
     refine .cons (Is (.bool false)) _ rfl rfl (fun oq hop _ wq hQS => ?_) ?_
     ·refine .more_eq (.bool false) (.more_eq (.bool true) (.more_eq (.bool false) ?_))
      exact .pick hop (b := true) (vx := (.bool false)) (vy := (.bool false)) (by kernel_rfl) (by kernel_rfl) (by kernel_rfl) (by kernel_rfl) hQS (.refl _ _) rfl
     refine .cons (Is (.bool false)) _ rfl rfl (fun oq hop _ wq hQS => ?_) ?_
     ·refine .more_eq (.bool false) (.more_eq (.bool false) ?_)
      exact .pick hop (b := false) (vx := (.bool true)) (vy := (.bool false)) (by kernel_rfl) (by kernel_rfl) (by kernel_rfl) (by kernel_rfl) hQS (.refl _ _) rfl
     exact .nil
    case hfin =>
     intro wf hFS
     iterate 34 refine .more fun _ _ => ?_
     refine .more fun x57 h57 => ?_
     refine .done ?_
     obtain rfl : x57 = (.bool false) := h57
     have hsf := hFS.size
     have HB2 : Hid (Below w.heap.size w wf) := HB.out.trans (hFS.mono hbz)
     clear hS hFS c1 y2
     simp only [Act.put, List.setIfInBounds_toArray, List.set_cons_zero, List.set_cons_succ]
     go_wp2
     go_roundw
     case rel => exact ⟨k + 1, by omega, by go_num, HB2.out⟩
     case measure => simp [intOf]; omega
  ·have HF : Hid (HasPost w true (.returned (.bool true)) wr) := ⟨rfl, hb⟩
   clear hb
   go_wp2
   go_ret
   exact HF.out
end Go.Proofs.YtafgmndlbbjphaaGreatDoor
