/- Laws. -/
import Derived.Test.YtafgmndlbbjphaaGreatDoorPuax
import Derived.Test.YtafgmndlbbjphaaGreatDoorPube
set_option maxRecDepth 100000
namespace Go.Proofs.YtafgmndlbbjphaaGreatDoor
open Go.RowKit Go.Maps
theorem Lev.cut {lo : Nat} {w : World} {B : Nat} {A : Option Addr} {ps : List (Int × Int)} (h : Lev w B A ps) (ha : ∀ a, A = some a → lo ≤ a.block) : Lev (Cut lo none w) B A ps := fun hn => by
 obtain ⟨b, o, e, hb, hc⟩ := h hn
 have hlo : lo ≤ b := ha _ e
 exact ⟨b, o, e, hb, fun i hi => ⟨Cut.cell.2 ⟨hlo, by simp, (hc i hi).1⟩, Cut.cell.2 ⟨hlo, by simp, (hc i hi).2⟩⟩⟩
theorem TmF.step {lo : Nat} {wr wf w8 : World} {r r' : Option Nat} {us : List Tm} {ys : List Value} (h : TmF (Cut lo r wr) wr.heap.size us ys) (hb : Below wr.heap.size wr wf) (hg : wf.grownBy w8 r) (hat : r' = r ∨ r' = some wf.heap.size) : TmF (Cut lo r' w8) w8.heap.size us ys := by
 have hs := hb.size
 refine TmF.mono (Nat.le_trans hs hg.size) (Cut.to fun b h1 h2 h3 => ⟨h2, fun e => ?_, (hg.block b (by omega) h3).trans (hb.block b h1)⟩) h
 rcases hat with rfl | rfl
 ·exact h3 e
 ·injection e with e; omega
def LvR (W : World) (B : Nat) (ls : List (List (Int × Int))) (vs : List Value) : Prop := ∀ (i : Nat) (l : List (Int × Int)), ls[i]? = some l → ∃ (A : Option Addr) (c : Nat), vs[i]? = some (Value.slice A l.length c) ∧ Lev W B A l ∧ (A = none → c = 0)
theorem LvR.mono {w w' : World} {B B' : Nat} {ls : List (List (Int × Int))} {vs : List Value} (h : LvR w B ls vs) (hB : B ≤ B') (hk : More w w' B) : LvR w' B' ls vs := fun i l hi => by
 obtain ⟨A, c, h1, h2, h3⟩ := h i l hi
 exact ⟨A, c, h1, h2.mono hB hk, h3⟩
theorem LvR.snoc {w : World} {B : Nat} {ls : List (List (Int × Int))} {vs : List Value} {l : List (Int × Int)} {A : Option Addr} {c : Nat} (h : LvR w B ls vs) (hl : vs.length = ls.length) (ho : Lev w B A l) (hc : A = none → c = 0) : LvR w B (ls ++ [l]) (vs ++ [.slice A l.length c]) := fun i x hi => by
 by_cases e : i < ls.length
 ·rw [List.getElem?_append_left e] at hi
  obtain ⟨A', c', h1, h2⟩ := h i x hi
  exact ⟨A', c', by rw [List.getElem?_append_left (by omega)]; exact h1, h2⟩
 ·rw [List.getElem?_append_right (by omega)] at hi
  have hz : i - ls.length = 0 := by
   rcases Nat.eq_zero_or_pos (i - ls.length) with h0 | h0
   ·exact h0
   ·rw [List.getElem?_eq_none (by simp; omega)] at hi
    cases hi
  rw [hz] at hi
  injection hi with hi
  subst hi
  refine ⟨A, c, ?_, ho, hc⟩
  rw [List.getElem?_append_right (by omega), show i - vs.length = 0 by omega]
  rfl
theorem LvR.more {lo : Nat} {wr wf w8 : World} {r r' : Option Nat} {ls : List (List (Int × Int))} {vs : List Value} {l : List (Int × Int)} {A : Option Addr} {c : Nat} (h : LvR (Cut lo r wr) wr.heap.size ls vs) (hl : vs.length = ls.length) (ho : Lev (Cut wr.heap.size none wf) wf.heap.size A l) (hc : A = none → c = 0) (hlo : lo ≤ wr.heap.size) (hb : Below wr.heap.size wr wf) (hg : wf.grownBy w8 r) (hr : ∀ b, r = some b → b < wr.heap.size) (hat : r' = r ∨ r' = some wf.heap.size) : LvR (Cut lo r' w8) w8.heap.size (ls ++ [l]) (vs ++ [.slice A l.length c]) := by
 have hs := hb.size
 refine LvR.snoc (LvR.mono h (Nat.le_trans hs hg.size) (Cut.to fun b h1 h2 h3 => ⟨h2, fun e => ?_, (hg.block b (by omega) h3).trans (hb.block b h1)⟩)) hl (ho.mono hg.size (Cut.to fun b h1 h2 _ => ⟨by omega, fun e => ?_, hg.block b h1 fun e => ?_⟩)) hc
 ·rcases hat with rfl | rfl
  ·exact h3 e
  ·injection e with e; omega
 ·rcases hat with rfl | rfl
  ·have := hr b e.symm; omega
  ·injection e with e; omega
 ·have := hr b e.symm; omega
theorem LvR.levs {w : World} {B n : Nat} {A : Option Addr} {m c : Nat} {ls : List (List (Int × Int))} {vs : List Value} (hr : w.ownsRow B 47 1 (.slice A m c) n vs) (hn : ls.length = n) (hl : LvR (Cut B none w) w.heap.size ls vs) (h6 : ∀ l ∈ ls, l.length ≤ 4611686018427387904) : m = n ∧ Levs (Cut B none w) w.heap.size A ls ∧ (A = none → c = 0) := by
 rcases hr.2 with ⟨e, e2⟩ | ⟨g, cap, cur, e, p1, p2, p3, p4, p5, p6⟩
 ·injection e with e1 e3 e4
  exact ⟨by omega, (fun hx => by omega), fun _ => e4⟩
 ·injection e with e1 e3 e4
  subst e1 e3 e4
  refine ⟨rfl, (fun hx => ⟨g, 0, rfl, heap_some_lt p2, fun i hi => ?_⟩), fun x => by cases x⟩
  have hli : ls[i]? = some ls[i] := List.getElem?_eq_getElem hi
  have hgd : ls.getD i [] = ls[i] := by rw [List.getD_eq_getElem?_getD, hli]; rfl
  obtain ⟨Ai, ci, q1, q2, q3⟩ := hl i _ hli
  rw [hgd]
  refine ⟨Ai, ci, Cut.cell.2 ⟨p1, by simp, ?_⟩, q2, q3, h6 _ (List.getElem_mem hi)⟩
  rw [Nat.zero_add]
  exact (hr.cellAt i (by omega)).trans q1
theorem lensSum_small {lv : List (List (Int × Int))} {l : List (Int × Int)} (h : l ∈ lv) {m : Nat} (hm : lensSum lv ≤ m) : l.length ≤ m := by
 have := lensSum_mem lv l h
 omega
def RLevels (bys : List (List (Int × Int))) (t : Tm) : Prop := ∀ (Ab : Option Addr) (nb cb d : Nat) (v : Value) (w : World), t.fit → t.count ≤ 900 → TmAt w w.heap.size t v → bys.length = nb → nb ≤ 900 → (∀ b ∈ bys, b.length ≤ 900) → Levs w w.heap.size Ab bys → Calls Tryz.prog 16 #[v, .slice Ab nb cb] w (RefP w (t.walk (levT bys) d))
set_option maxHeartbeats 8000000 in
theorem rLevels_of (bys : List (List (Int × Int))) (k n a : Int) (lv : List (List (Int × Int))) (kids : List Tm) (ih : ∀ t ∈ kids, RLevels bys t) : RLevels bys (.mk k n a lv kids) := by
 intro Ab nb cb d v w hf hc hv hnb hnb6 hb9 hlb
 have hfd := field_parts
 obtain ⟨i0, hi, hz0, hz1, hz2⟩ := info_parts infoTm
 obtain ⟨i1, hi', hz0', hz1', hz2'⟩ := info_parts infoLev
 obtain ⟨Al, cl, Ak, ck, rfl, h2, h3, h4⟩ := hv.open
 have hf' := hf
 rw [Tm.fit_mk] at hf'
 have hc' := hc
 rw [Tm.count_mk] at hc'
 obtain ⟨us, hus⟩ : ∃ us, Tm.walkL (levT bys) d k 0 kids = us := ⟨_, rfl⟩
 have HUS : Hid (∀ j : Nat, us[j]? = kids[j]?.map fun (t : Tm) => t.walk (levT bys) (d + under k j)) := fun j => by
  rw [← hus, Tm.walkL_get, Nat.zero_add]
 have hul : us.length = kids.length := by rw [← hus]; exact Tm.walkL_length _ _ _ _ _
 obtain ⟨ms, hms⟩ : ∃ ms, lv.map (putL bys) = ms := ⟨_, rfl⟩
 have hml : ms.length = lv.length := by rw [← hms]; simp
 have HWK : Hid ((Tm.mk k n a lv kids).walk (levT bys) d = .mk k n a ms us) := by
  show _ = _
  rw [Tm.walk_go (tr := levT bys) (n' := n) (lv' := lv.map (putL bys)) rfl, hus, hms]
 have HM6 : Hid (∀ l ∈ ms, l.length ≤ 4611686018427387904) := fun l hl => by
  rw [← hms] at hl
  obtain ⟨x, hx, rfl⟩ := List.mem_map.1 hl
  have h1 := lensSum_small hx (m := 900) (by omega)
  have := putL_len (bys := bys) (fun b hb => by have := hb9 b hb; omega) (l := x) (by omega)
  omega
 obtain ⟨pl, hpl⟩ : ∃ p, lv.length = p := ⟨_, rfl⟩
 obtain ⟨pk, hpk⟩ : ∃ p, kids.length = p := ⟨_, rfl⟩
 rw [hpk] at hul
 rw [hpl] at hml
 rw [hpl, hpk]
 obtain ⟨w2, hw2⟩ : ∃ x, (w.alloc (.cells #[.int .i64 k, .int .i64 n, .int .i64 a, .slice Al pl cl, .slice Ak pk ck] 26)).alloc (.cells #[.int .i64 0, .int .i64 0, .int .i64 0, .slice none 0 0, .slice none 0 0] 26) = x := ⟨_, rfl⟩
 obtain ⟨x0, x1, _⟩ := two_allocs w (.cells #[.int .i64 k, .int .i64 n, .int .i64 a, .slice Al pl cl, .slice Ak pk ck] 26) (.cells #[.int .i64 0, .int .i64 0, .int .i64 0, .slice none 0 0, .slice none 0 0] 26)
 have hb1 : Below w.heap.size w w2 := by rw [← hw2]; exact ((Below.refl _ _).alloc (Nat.le_refl _) _).alloc (by simp) _
 rw [hw2] at x0 x1
 have hs2 : w.heap.size + 2 ≤ w2.heap.size ∧ w2.heap.size ≤ w.heap.size + 2 := by rw [← hw2]; simp
 have hpk6 : pk ≤ 900 := by have := Tm.countL_length kids; omega
 have hpl6 : pl ≤ 900 := by have := lensSum_length lv; omega
 have HB2 := Lib.hid hb1
 have HPL := Lib.hid hpl
 have HPK := Lib.hid hpk
 have HUL := Lib.hid hul
 have HML := Lib.hid hml
 have HMS := Lib.hid hms
 have HLV := Lib.hid h3
 have HKI := Lib.hid h4
 have HSL : Hid (lensSum lv ≤ 900) := by show _ ≤ _; omega
 have HCK : Hid (Tm.countL kids ≤ 900) := by show _ ≤ _; omega
 have HFK := Lib.hid ((Tm.fitL_iff kids).1 hf'.2.2.2)
 have HNB := Lib.hid hnb
 have HB9 := Lib.hid hb9
 have HLB := Lib.hid hlb
 have IH := Lib.hid ih
 have X0 := Lib.hid x0
 have X1 := Lib.hid x1
 have c4 := cell_of_row _ _ 4 _ _ (0, 0) x0
 have c3 := cell_of_row _ _ 3 _ _ (0, 0) x0
 clear hv h2 h3 h4 hf hf' hc hc' hpl hpk hul hml hms hus ih hnb hb9 hlb x0 x1 hb1
 go_enter Tryz.func16, Tryz.ntmps16
 go_wp2
 go_loopw [5, 6] (fun lv i wr => ∃ (j : Nat) (ys : List Value), j ≤ pk ∧ i = .int .i64 (j : Int) ∧ Below w2.heap.size w2 wr ∧ wr.ownsRow w2.heap.size 26 5 lv j ys ∧ TmF (Cut w2.heap.size lv.ownBlock wr) wr.heap.size (us.take j) ys) (fun _ i _ => pk - (intOf i).toNat)
 case atStart => exact ⟨0, [], Nat.zero_le _, rfl, Below.refl _ _, own_nil _ _ _ _, by rw [List.take_zero]; rfl⟩
 case round =>
  obtain ⟨j, ys, hj, rfl, hb, hrow, hfl⟩ := hrel
  obtain ⟨Av, nv, cv, rfl⟩ := own_slice hrow
  have hbz := hb.size
  have b4 := (hb.cell (p := ⟨w.heap.size, 4, none⟩) (by show w.heap.size < _; omega)).trans c4
  have HB := Lib.hid hb
  have HR := Lib.hid hrow
  have HFL := Lib.hid hfl
  by_cases hlt : j < pk
  ·obtain ⟨t, ht⟩ : ∃ t, kids[j]? = some t := ⟨_, List.getElem?_eq_getElem (by rw [HPK.out]; exact hlt)⟩
   have hbw : Below w.heap.size w wr := HB2.out.trans (hb.mono (by omega))
   obtain ⟨b, o, k1, n1, a1, A1, p1, c1, A2, p2, c2, e, hbB, hv, d0, d1, d2, d3, d4⟩ := HKI.out.at hbw ht
   subst e
   obtain ⟨u, hu⟩ : ∃ u, us[j]? = some u := ⟨_, List.getElem?_eq_getElem (by rw [HUL.out]; exact hlt)⟩
   have HU := Lib.hid hu
   have hm := Tm.countL_mem (List.mem_of_getElem? ht)
   have hck := HCK.out
   have HC : Hid (Calls Tryz.prog 16 #[.agg #[.int .i64 k1, .int .i64 n1, .int .i64 a1, .slice A1 p1 c1, .slice A2 p2 c2], .slice Ab nb cb] wr (RefP wr u)) := by
    have hue : u = t.walk (levT bys) (d + under k j) := by
     have h := HUS.out j
     rw [hu, ht] at h
     injection h
    rw [hue]
    exact IH.out t (List.mem_of_getElem? ht) Ab nb cb (d + under k j) _ wr (HFK.out t (List.mem_of_getElem? ht)) (by omega) (hv.below hbw hbw.size) HNB.out hnb6 HB9.out ((HLB.out.below hbw).more hbw.size)
   have ij0 : (0 : Int) ≤ (j : Int) := by omega
   have ij1 : (j : Int) < (pk : Int) := by omega
   clear hb hrow hfl hu ht hv hm hck hbw hbB
   go_wp2_with (fail)
   refine HC.out.mono ?_
   rintro e wL ⟨v9, rfl, hl9, hx2⟩
   obtain ⟨k9, n9, a9, A9, p9, c9, B9, q9, d9, rfl, hl9⟩ := RefV.of hl9
   have hxz := hx2.size
   have hx3 : Below wr.heap.size wr (wL.alloc (.cells #[.int .i64 k9, .int .i64 n9, .int .i64 a9, .slice A9 p9 c9, .slice B9 q9 d9] 26)) := hx2.alloc hxz _
   have HR5 := Lib.hid (own_below HR.out hx3)
   have HX3 := Lib.hid hx3
   have HL9 := Lib.hid hl9
   have HNW := Lib.hid (heap_alloc_new wL (.cells #[.int .i64 k9, .int .i64 n9, .int .i64 a9, .slice A9 p9 c9, .slice B9 q9 d9] 26))
   clear hx2 hx3 hl9 HC d0 d1 d2 d3 d4
   go_wp2_with (at_builtin; refine wpList_append_lies _ rfl _ _ 24 rfl w2.heap.size 26 i0 (.agg #[.int .i64 0, .int .i64 0, .int .i64 0, .slice none 0 0, .slice none 0 0]) 5 72 Tryz.underlying24 hi hz0 hz1 hz2 rfl (by omega) (.slice Av nv cv) j ys rfl HR5.out ⟨wL.heap.size, 0, none⟩ 1 1 [.int .i64 k9, .int .i64 n9, .int .i64 a9, .slice A9 p9 c9, .slice B9 q9 d9] rfl rfl (World.news_of_block (cs := #[.int .i64 k9, .int .i64 n9, .int .i64 a9, .slice A9 p9 c9, .slice B9 q9 d9]) (t := 26) (fr := (0, 0)) HNW.out) (by simp [Value.oneCell']) (by omega) ?c1 ?c2 ?c3 (wL.heap.size + 1) (by simp) ?_)
   case c1 => unfold maxLen; omega
   case c2 => omega
   case c3 => simp; omega
   intro gg cap w8 hown hgrow hat _
   have HB8 : Hid (Below w2.heap.size w2 w8) := (HB.out.trans (HX3.out.mono hbz)).grown hgrow (by simp; omega) (fun b e => (HR.out.lt b e).1)
   have HR8 := Lib.hid hown
   have HF8 : Hid (TmF (Cut w2.heap.size (some gg) w8) w8.heap.size (us.take (j + 1)) (ys ++ [.int .i64 k9, .int .i64 n9, .int .i64 a9, .slice A9 p9 c9, .slice B9 q9 d9])) := by
    rw [take_snoc_2 HU.out]
    refine HFL.out.more (TmAt.mono (by simp) (Cut.to fun b h1 h2 h3 => ⟨Nat.le_trans (Nat.le_refl _) h2, h3, ?_⟩) HL9.out) hbz HX3.out hgrow (fun b e => (HR.out.lt b e).2) (hat.elim (fun e => Or.inl e.symm) (fun e => Or.inr (by rw [e]; simp)))
    exact ((Below.refl wL.heap.size wL).alloc (Nat.le_refl _) _).block b h1
   clear hown hgrow hat HL9 HX3 HR5 HFL HR HB
   go_wp2
   go_roundw
   case rel => exact ⟨j + 1, _, by omega, by go_num, HB8.out, HR8.out, HF8.out⟩
   case measure => simp [intOf]; omega
  ·have ej : j = pk := by omega
   subst ej
   have hq : us.take j = us := List.take_of_length_le (by rw [HUL.out]; omega)
   rw [hq] at hfl
   have HFL2 : Hid (TmF (Cut w2.heap.size none wr) wr.heap.size us ys) := TmF.mono (Nat.le_refl _) (Cut.to fun b _ h2 _ => ⟨h2, by simp, rfl⟩) hfl
   clear hb hrow hfl hq HFL
   go_wp2
   go_loopw [7, 8] (fun lw i wx => ∃ (m : Nat) (vs : List Value), m ≤ pl ∧ i = .int .i64 (m : Int) ∧ Below w2.heap.size w2 wx ∧ wx.ownsRow w2.heap.size 26 5 (.slice Av nv cv) j ys ∧ TmF (Cut w2.heap.size lw.ownBlock wx) wx.heap.size us ys ∧ wx.ownsRow w2.heap.size 47 1 lw m vs ∧ LvR (Cut w2.heap.size lw.ownBlock wx) wx.heap.size (ms.take m) vs) (fun _ i _ => pl - (intOf i).toNat)
   case atStart => exact ⟨0, [], Nat.zero_le _, rfl, HB.out, HR.out, HFL2.out, own_nil _ _ _ _, fun i l hi => by simp at hi⟩
   clear HB HR HFL2
   case round =>
    obtain ⟨m, vs, hm, rfl, hb, hrow, hfl, hrl, hlr⟩ := hrel
    obtain ⟨Aw, nw, cw, rfl⟩ := own_slice hrl
    have hbz2 := hb.size
    have b3 := (hb.cell (p := ⟨w.heap.size, 3, none⟩) (by show w.heap.size < _; omega)).trans c3
    have HB := Lib.hid hb
    have HR := Lib.hid hrow
    have HFL := Lib.hid hfl
    have HRL := Lib.hid hrl
    have HLR := Lib.hid hlr
    have hbw : Below w.heap.size w wr := HB2.out.trans (hb.mono (by omega))
    by_cases hlt2 : m < pl
    ·obtain ⟨b, o, e, hbB, hcell⟩ := HLV.out (by rw [HPL.out]; omega)
     subst e
     obtain ⟨Ai, ci, q0, q1, q2, _⟩ := hcell m (by rw [HPL.out]; exact hlt2)
     obtain ⟨l, el⟩ : ∃ l, lv[m]? = some l := ⟨_, List.getElem?_eq_getElem (by rw [HPL.out]; exact hlt2)⟩
     have eg : lv.getD m [] = l := by rw [List.getD_eq_getElem?_getD, el]; rfl
     rw [eg] at q0 q1
     have hl6 := lensSum_small (List.mem_of_getElem? el) HSL.out
     obtain ⟨x, hx⟩ : ∃ x, putL bys l = x := ⟨_, rfl⟩
     have HMX : Hid (ms[m]? = some x) := by
      show _ = _
      rw [← HMS.out, List.getElem?_map, el, ← hx]
      rfl
     have hcall := rputs_new Ai Ab l bys ci cb wr hl6 ((q1.below hbw).more hbw.size) q2 (by have := HNB.out; unfold maxLen; omega) HB9.out ((HLB.out.below hbw).more hbw.size)
     rw [HNB.out] at hcall
     have hxx : nfA (putS (nfA l) bys) = x := hx
     rw [hxx] at hcall
     obtain ⟨ni, hni⟩ : ∃ z, l.length = z := ⟨_, rfl⟩
     rw [hni] at hcall q0
     obtain ⟨nx, hnx⟩ : ∃ z, x.length = z := ⟨_, rfl⟩
     have HNX := Lib.hid hnx
     have HC := Lib.hid hcall
     have d0 := (hbw.cell (p := ⟨b, o + m, none⟩) hbB).trans q0
     have ij0 : (0 : Int) ≤ (m : Int) := by omega
     have ij1 : (m : Int) < (pl : Int) := by omega
     clear hb hrow hfl hrl hlr hbw q0 q1 q2 hcell hcall el eg hni hnx hxx hx
     go_wp2_with (fail)
     refine HC.out.mono ?_
     rintro e wL ⟨A9, c9, rfl, hl9, hx2, hnw9⟩
     rw [HNX.out]
     have hxz := hx2.size
     have hx3 : Below wr.heap.size wr (wL.alloc (.cells #[.slice A9 nx c9] 47)) := hx2.alloc hxz _
     have HR5 := Lib.hid (own_below HR.out hx3)
     have HRL5 := Lib.hid (own_below HRL.out hx3)
     have HX3 := Lib.hid hx3
     have HL9 : Hid (Lev (Cut wr.heap.size none (wL.alloc (.cells #[.slice A9 nx c9] 47))) (wL.alloc (.cells #[.slice A9 nx c9] 47)).heap.size A9 x) := (hl9.2.1.cut hnw9).mono (by simp) (Cut.to fun b h1 h2 h3 => ⟨h2, h3, ((Below.refl wL.heap.size wL).alloc (Nat.le_refl _) _).block b h1⟩)
     have HC9 := Lib.hid hl9.2.2
     have HNW := Lib.hid (heap_alloc_new wL (.cells #[.slice A9 nx c9] 47))
     clear hx2 hx3 hl9 hnw9 HC d0
     go_wp2_with (at_builtin; refine wpList_append_lies _ rfl _ _ 23 rfl w2.heap.size 47 i1 (.agg #[.slice none 0 0]) 1 24 Tryz.underlying23 hi' hz0' hz1' hz2' rfl (by omega) (.slice Aw nw cw) m vs rfl HRL5.out ⟨wL.heap.size, 0, none⟩ 1 1 [.slice A9 nx c9] rfl rfl (World.news_of_block (cs := #[.slice A9 nx c9]) (t := 47) (fr := (0, 0)) HNW.out) (by simp [Value.oneCell']) (by omega) ?c1 ?c2 ?c3 (wL.heap.size + 1) (by simp) ?_)
     case c1 => unfold maxLen; omega
     case c2 => omega
     case c3 => simp; omega
     intro gg cap w8 hown hgrow hat _
     have hat2 : (some gg : Option Nat) = (Value.slice Aw nw cw).ownBlock ∨ some gg = some (wL.alloc (.cells #[.slice A9 nx c9] 47)).heap.size := hat.elim (fun e => Or.inl e.symm) (fun e => Or.inr (by rw [e]; simp))
     have HB8 : Hid (Below w2.heap.size w2 w8) := (HB.out.trans (HX3.out.mono hbz2)).grown hgrow (by simp; omega) (fun b e => (HRL.out.lt b e).1)
     have HR8 := Lib.hid (own_keptT HR5.out hgrow (own_at HRL5.out) (by decide))
     have HF8 : Hid (TmF (Cut w2.heap.size (some gg) w8) w8.heap.size us ys) := HFL.out.step HX3.out hgrow hat2
     have HRL8 := Lib.hid hown
     have HLR8 : Hid (LvR (Cut w2.heap.size (some gg) w8) w8.heap.size (ms.take (m + 1)) (vs ++ [.slice A9 nx c9])) := by
      have hvl : vs.length = m := by have := HRL.out.1; omega
      have hmm := HML.out
      rw [take_snoc_2 HMX.out]
      have h := HLR.out.more (by rw [List.length_take]; omega) HL9.out HC9.out hbz2 HX3.out hgrow (fun b e => (HRL.out.lt b e).2) hat2
      rw [HNX.out] at h
      exact h
     clear hown hgrow hat hat2 HL9 HX3 HR5 HRL5 HFL HR HB HRL HLR b3
     go_wp2
     go_roundw
     case rel => exact ⟨m + 1, _, by omega, by go_num, HB8.out, HR8.out, HF8.out, HRL8.out, HLR8.out⟩
     case measure => simp [intOf]; omega
    ·have em : m = pl := by omega
     subst em
     have hq : ms.take m = ms := List.take_of_length_le (by rw [HML.out]; omega)
     rw [hq] at hlr
     obtain ⟨e1, hlv, hc3⟩ := LvR.levs hrl HML.out (hlr.mono (Nat.le_refl _) (Cut.to fun b _ h2 _ => ⟨h2, by simp, rfl⟩)) HM6.out
     obtain ⟨e2, htm⟩ := TmF.row hrow HUL.out (TmF.mono (Nat.le_refl _) (Cut.to fun b _ h2 _ => ⟨h2, by simp, rfl⟩) hfl)
     subst e1 e2
     have x0 := (hb.block w.heap.size (by omega)).trans X0.out
     have x1 := (hb.block (w.heap.size + 1) (by omega)).trans X1.out
     have r4 := thawed x0 4
     have z4 := cell_of_row _ _ 4 _ _ (0, 0) x0
     have e4 := set_same x0 4 (.slice Av nv cv)
     obtain ⟨w4, hw4⟩ : ∃ x, wr.setCell ⟨w.heap.size, 4, none⟩ (.slice Av nv cv) = x := ⟨_, rfl⟩
     have hg4 : wr.grownBy w4 (some w.heap.size) := by rw [← hw4]; exact setCell_grown _ _ _ _
     have hs4 : w4.heap.size = wr.heap.size := by rw [← hw4]; simp [World.setCell]
     rw [hw4] at e4
     have r3 := thawed e4 3
     have z3 := cell_of_row _ _ 3 _ _ (0, 0) e4
     have e5 := set_same e4 3 (.slice Aw nw cw)
     obtain ⟨w5, hw5⟩ : ∃ x, w4.setCell ⟨w.heap.size, 3, none⟩ (.slice Aw nw cw) = x := ⟨_, rfl⟩
     have hg5 : w4.grownBy w5 (some w.heap.size) := by rw [← hw5]; exact setCell_grown _ _ _ _
     have hs5 : w5.heap.size = w4.heap.size := by rw [← hw5]; simp [World.setCell]
     rw [hw5] at e5
     have q5 := (hg5.block (w.heap.size + 1) (by omega) (by simp)).trans ((hg4.block (w.heap.size + 1) (by omega) (by simp)).trans x1)
     have a0 := cell_of_row _ _ 0 _ _ (0, 0) e5
     have a1 := cell_of_row _ _ 1 _ _ (0, 0) e5
     have a2 := cell_of_row _ _ 2 _ _ (0, 0) e5
     have a3 := cell_of_row _ _ 3 _ _ (0, 0) e5
     have a4 := cell_of_row _ _ 4 _ _ (0, 0) e5
     have s0 := cell_of_row _ _ 0 _ _ (0, 0) q5
     have s1 := cell_of_row _ _ 1 _ _ (0, 0) q5
     have s2 := cell_of_row _ _ 2 _ _ (0, 0) q5
     have s3 := cell_of_row _ _ 3 _ _ (0, 0) q5
     have s4 := cell_of_row _ _ 4 _ _ (0, 0) q5
     have t0 := thawed q5 0
     have t1 := thawed q5 1
     have t2 := thawed q5 2
     have t3 := thawed q5 3
     have t4 := thawed q5 4
     obtain ⟨g9, s9, cur9, h9, _, hc9⟩ := store5_post q5 (o := 0) (by simp) (.int .i64 k) (.int .i64 n) (.int .i64 a) (.slice Aw nw cw) (.slice Av nv cv)
     have u0 := row_cell h9 hc9.1
     have u1 := row_cell h9 hc9.2.1
     have u2 := row_cell h9 hc9.2.2.1
     have u3 := row_cell h9 hc9.2.2.2.1
     have u4 := row_cell h9 hc9.2.2.2.2
     obtain ⟨w6, hw6⟩ : ∃ x, store5 w5 (w.heap.size + 1) 0 (.int .i64 k) (.int .i64 n) (.int .i64 a) (.slice Aw nw cw) (.slice Av nv cv) = x := ⟨_, rfl⟩
     have HFIN : Hid (RefP w ((Tm.mk k n a lv kids).walk (levT bys) d) (.returned (.agg #[.int .i64 k, .int .i64 n, .int .i64 a, .slice Aw nw cw, .slice Av nv cv])) w6) := by
      rw [hw6] at g9 s9
      refine ⟨_, rfl, ?_, ((hbw.grown hg4 (by omega) (fun b e => by injection e with e; omega)).grown hg5 (by omega) (fun b e => by injection e with e; omega)).grown g9 (by omega) (fun b e => by injection e with e; omega)⟩
      rw [HWK.out]
      have hblk : ∀ b, b < wr.heap.size → w2.heap.size ≤ b → w6.heap[b]? = wr.heap[b]? := fun b h1 h2 => (g9.block b (by omega) (by intro e; injection e with e; omega)).trans ((hg5.block b (by omega) (by intro e; injection e with e; omega)).trans (hg4.block b (by omega) (by intro e; injection e with e; omega)))
      have hl2 := Levs.mono (B' := w6.heap.size) hlv (by omega) (Cut.to (lo' := w.heap.size) (r' := none) (w' := w6) fun b h1 h2 _ => ⟨by omega, by simp, hblk b h1 h2⟩)
      have ht2 := Tms.mono (B' := w6.heap.size) htm (by omega) (Cut.to (lo' := w.heap.size) (r' := none) (w' := w6) fun b h1 h2 _ => ⟨by omega, by simp, hblk b h1 h2⟩)
      have h := TmAt.make (k := k) (n := n) (a := a) hc3 hl2 ht2
      rwa [HML.out, HUL.out] at h
     unfold store5 at hw6 u0 u1 u2 u3 u4
     clear g9 s9 h9 hc9 q5 e5 e4 x0 x1 hg4 hg5 hs4 hs5 hb hrow hfl hrl hlr hlv hc3 htm hbw HB HR HFL HRL HLR hq
     go_wp2
     rw [hw6] at u0 u1 u2 u3 u4
     exact bodyPost_ret (v := .agg #[.int .i64 k, .int .i64 n, .int .i64 a, .slice Aw nw cw, .slice Av nv cv]) (by simp [results, Tryz.results16, go_sem, u0, u1, u2, u3, u4]) rfl HFIN.out
theorem rLevels_any (bys : List (List (Int × Int))) : ∀ t : Tm, RLevels bys t := by
 intro t
 induction t using Tm.ind with
 | h k n a lv kids ih => exact rLevels_of bys k n a lv kids ih
set_option maxHeartbeats 4000000 in
theorem rPut_any (by' : List Tm) (t : Tm) (Ab : Option Addr) (nb cb : Nat) (v : Value) (w : World) (hf : t.fit) (hd : t.size ≤ 1073741824) (hv : TmAt w w.heap.size t v) (hnb : by'.length = nb) (hnb6 : nb ≤ 1048576) (hby : Tms w w.heap.size Ab cb by') (hbf : ∀ b ∈ by', b.fit ∧ b.size ≤ 1073741824) :
  Calls Tryz.prog 15 #[v, .slice Ab nb cb] w (RefP w (t.walk (putT by') 0)) := by
 obtain ⟨k, n, a, lv, kids⟩ := t
 have hv0 := hv
 obtain ⟨Al, cl, Ak, ck, rfl, _⟩ := hv0.open
 obtain ⟨pl, hpl⟩ : ∃ p, lv.length = p := ⟨_, rfl⟩
 obtain ⟨pk, hpk⟩ : ∃ p, kids.length = p := ⟨_, rfl⟩
 rw [hpl, hpk] at hv ⊢
 obtain ⟨w2, hw2⟩ : ∃ x, (w.alloc (.cells #[.int .i64 k, .int .i64 n, .int .i64 a, .slice Al pl cl, .slice Ak pk ck] 26)).alloc (.cells #[.int .i64 0, .int .i64 0, .int .i64 0, .slice none 0 0, .slice none 0 0] 26) = x := ⟨_, rfl⟩
 obtain ⟨x0, x1, _⟩ := two_allocs w (.cells #[.int .i64 k, .int .i64 n, .int .i64 a, .slice Al pl cl, .slice Ak pk ck] 26) (.cells #[.int .i64 0, .int .i64 0, .int .i64 0, .slice none 0 0, .slice none 0 0] 26)
 have hb1 : Below w.heap.size w w2 := by rw [← hw2]; exact ((Below.refl _ _).alloc (Nat.le_refl _) _).alloc (by simp) _
 rw [hw2] at x0 x1
 have hs2 : w.heap.size + 2 ≤ w2.heap.size ∧ w2.heap.size ≤ w.heap.size + 2 := by rw [← hw2]; simp
 obtain ⟨u, hu⟩ : ∃ u, (Tm.mk k n a lv kids).walk (putT by') 0 = u := ⟨_, rfl⟩
 have hcall := rput2_any by' _ Ab nb cb 0 _ w2 hf (by omega) (hv.below hb1 hb1.size) hnb hnb6 (hby.below hb1 hb1.size) hbf
 rw [hu] at hcall ⊢
 have HC : Hid (Calls Tryz.prog 39 #[.agg #[.int .i64 k, .int .i64 n, .int .i64 a, .slice Al pl cl, .slice Ak pk ck], .slice Ab nb cb, .int .i64 0] w2 (RefP w2 u)) := hcall
 have HB1 := Lib.hid hb1
 have X1 := Lib.hid x1
 have y0 := cell_of_row _ _ 0 _ _ (0, 0) x0
 have y1 := cell_of_row _ _ 1 _ _ (0, 0) x0
 have y2 := cell_of_row _ _ 2 _ _ (0, 0) x0
 have y3 := cell_of_row _ _ 3 _ _ (0, 0) x0
 have y4 := cell_of_row _ _ 4 _ _ (0, 0) x0
 clear hf hd hv hv0 hnb hby hbf x0 x1 hb1 hcall hu hpl hpk
 go_enter Tryz.func15, Tryz.ntmps15
 go_wp2_with (fail)
 refine HC.out.mono ?_
 rintro e w3 ⟨v9, rfl, hl9, hb3⟩
 obtain ⟨k9, n9, a9, A9, p9, c9, B9, q9, d9, rfl, hl9⟩ := RefV.of hl9
 have hs3 := hb3.size
 have q4 := (hb3.block (w.heap.size + 1) (by omega)).trans X1.out
 have s0 := cell_of_row _ _ 0 _ _ (0, 0) q4
 have s1 := cell_of_row _ _ 1 _ _ (0, 0) q4
 have s2 := cell_of_row _ _ 2 _ _ (0, 0) q4
 have s3 := cell_of_row _ _ 3 _ _ (0, 0) q4
 have s4 := cell_of_row _ _ 4 _ _ (0, 0) q4
 have t0 := thawed q4 0
 have t1 := thawed q4 1
 have t2 := thawed q4 2
 have t3 := thawed q4 3
 have t4 := thawed q4 4
 obtain ⟨g9, s9, cur9, h9, _, hc9⟩ := store5_post q4 (o := 0) (by simp) (.int .i64 k9) (.int .i64 n9) (.int .i64 a9) (.slice A9 p9 c9) (.slice B9 q9 d9)
 have u0 := row_cell h9 hc9.1
 have u1 := row_cell h9 hc9.2.1
 have u2 := row_cell h9 hc9.2.2.1
 have u3 := row_cell h9 hc9.2.2.2.1
 have u4 := row_cell h9 hc9.2.2.2.2
 obtain ⟨w5, hw5⟩ : ∃ x, store5 w3 (w.heap.size + 1) 0 (.int .i64 k9) (.int .i64 n9) (.int .i64 a9) (.slice A9 p9 c9) (.slice B9 q9 d9) = x := ⟨_, rfl⟩
 have HFIN : Hid (RefP w u (.returned (.agg #[.int .i64 k9, .int .i64 n9, .int .i64 a9, .slice A9 p9 c9, .slice B9 q9 d9])) w5) := by
  rw [hw5] at g9 s9
  refine ⟨_, rfl, ?_, (HB1.out.trans (hb3.mono (by omega))).grown g9 (by omega) (fun b e => by injection e with e; omega)⟩
  exact TmAt.mono (by omega) (Cut.to fun b h1 h2 _ => ⟨by omega, by simp, g9.block b (by omega) (by intro e; injection e with e; omega)⟩) hl9
 unfold store5 at hw5 u0 u1 u2 u3 u4
 clear g9 s9 h9 hc9 q4 hb3 hl9 HC y0 y1 y2 y3 y4
 go_wp2
 rw [hw5] at u0 u1 u2 u3 u4
 exact bodyPost_ret (v := .agg #[.int .i64 k9, .int .i64 n9, .int .i64 a9, .slice A9 p9 c9, .slice B9 q9 d9]) (by simp [results, Tryz.results15, go_sem, u0, u1, u2, u3, u4]) rfl HFIN.out
end Go.Proofs.YtafgmndlbbjphaaGreatDoor
