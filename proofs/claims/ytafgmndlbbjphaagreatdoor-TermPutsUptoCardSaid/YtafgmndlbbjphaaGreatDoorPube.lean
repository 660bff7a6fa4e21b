/- Laws. -/
import Derived.Test.YtafgmndlbbjphaaGreatDoorPuax
import Derived.Test.YtafgmndlbbjphaaGreatDoorPubd
set_option maxRecDepth 100000
namespace Go.Proofs.YtafgmndlbbjphaaGreatDoor
open Go.RowKit Go.Maps
def RefV (lo : Nat) (u : Tm) (x : Value) (w : World) : Prop := ∃ (k n a : Int) (A : Option Addr) (p c : Nat) (B : Option Addr) (q d : Nat), x = .agg #[.int .i64 k, .int .i64 n, .int .i64 a, .slice A p c, .slice B q d] ∧ TmAt (Cut lo none w) w.heap.size u x
theorem RefV.mono {lo : Nat} {u : Tm} {x : Value} {w w' : World} (h : RefV lo u x w) (hb : Below w.heap.size w w') : RefV lo u x w' := by
 obtain ⟨k, n, a, A, p, c, B, q, d, e, h⟩ := h
 exact ⟨k, n, a, A, p, c, B, q, d, e, TmAt.mono hb.size (Cut.to fun b h1 h2 h3 => ⟨h2, h3, hb.block b h1⟩) h⟩
theorem RefV.of {lo : Nat} {u : Tm} {x : Value} {w : World} (h : TmAt (Cut lo none w) w.heap.size u x) : RefV lo u x w := by
 obtain ⟨k, n, a, lv, kids⟩ := u
 obtain ⟨Al, cl, Ak, ck, rfl, _⟩ := h.open
 exact ⟨_, _, _, _, _, _, _, _, _, rfl, h⟩
def RefP (w : World) (u : Tm) (e : Ending) (w' : World) : Prop := ∃ v, e = .returned v ∧ TmAt (Cut w.heap.size none w') w'.heap.size u v ∧ Below w.heap.size w w'
theorem TmF.more {lo : Nat} {wr wf w8 : World} {r r' : Option Nat} {us : List Tm} {ys : List Value} {u : Tm} {c0 c1 c2 c3 c4 : Value} (h : TmF (Cut lo r wr) wr.heap.size us ys) (hu : TmAt (Cut wr.heap.size none wf) wf.heap.size u (.agg #[c0, c1, c2, c3, c4])) (hlo : lo ≤ wr.heap.size) (hb : Below wr.heap.size wr wf) (hg : wf.grownBy w8 r) (hr : ∀ b, r = some b → b < wr.heap.size) (hat : r' = r ∨ r' = some wf.heap.size) : TmF (Cut lo r' w8) w8.heap.size (us ++ [u]) (ys ++ [c0, c1, c2, c3, c4]) := by
 have hs := hb.size
 refine TmF.snoc (TmAt.mono hg.size (Cut.to fun b h1 h2 _ => ⟨by omega, fun e => ?_, hg.block b h1 fun e => ?_⟩) hu) (TmF.mono (Nat.le_trans hs hg.size) (Cut.to fun b h1 h2 h3 => ⟨h2, fun e => ?_, ?_⟩) h)
 ·rcases hat with rfl | rfl
  ·have := hr b e.symm; omega
  ·injection e with e; omega
 ·have := hr b e.symm; omega
 ·rcases hat with rfl | rfl
  ·exact h3 e
  ·injection e with e; omega
 ·exact (hg.block b (by omega) h3).trans (hb.block b h1)
def RLift (t : Tm) : Prop := ∀ (m f : Int) (d : Nat) (v : Value) (w : World), t.fit → d + t.size ≤ 1073741824 → TmAt w w.heap.size t v → Calls Tryz.prog 54 #[v, .int .i64 m, .int .i64 f, .int .i64 (d : Int)] w (RefP w (t.walk (liftT m f) d))
set_option maxHeartbeats 8000000 in
theorem rlift_of2 (k n a : Int) (lv : List (List (Int × Int))) (kids : List Tm) (ih : ∀ t ∈ kids, RLift t) : RLift (.mk k n a lv kids) := by
 intro m f d v w hf hd hv
 obtain ⟨i0, hi, hz0, hz1, hz2⟩ := info_parts infoTm
 obtain ⟨Al, cl, Ak, ck, rfl, h2, h3, h4⟩ := hv.open
 have hf' := hf
 rw [Tm.fit_mk] at hf'
 have hd' := hd
 rw [Tm.size_mk] at hd'
 obtain ⟨us, hus⟩ : ∃ us, Tm.walkL (liftT m f) d k 0 kids = us := ⟨_, rfl⟩
 have HUS : Hid (∀ j : Nat, us[j]? = kids[j]?.map fun (t : Tm) => t.walk (liftT m f) (d + under k j)) := fun j => by
  rw [← hus, Tm.walkL_get, Nat.zero_add]
 have hul : us.length = kids.length := by rw [← hus]; exact Tm.walkL_length _ _ _ _ _
 obtain ⟨pl, hpl⟩ : ∃ p, lv.length = p := ⟨_, rfl⟩
 obtain ⟨pk, hpk⟩ : ∃ p, kids.length = p := ⟨_, rfl⟩
 rw [hpk] at hul
 rw [hpl, hpk]
 obtain ⟨w1, hw1⟩ : ∃ x, (w.alloc (.cells #[.int .i64 k, .int .i64 n, .int .i64 a, .slice Al pl cl, .slice Ak pk ck] 26)).alloc (.cells #[.int .i64 0, .int .i64 0, .int .i64 0, .slice none 0 0, .slice none 0 0] 26) = x := ⟨_, rfl⟩
 obtain ⟨x0, x1, _⟩ := two_allocs w (.cells #[.int .i64 k, .int .i64 n, .int .i64 a, .slice Al pl cl, .slice Ak pk ck] 26) (.cells #[.int .i64 0, .int .i64 0, .int .i64 0, .slice none 0 0, .slice none 0 0] 26)
 have hb1 : Below w.heap.size w w1 := by rw [← hw1]; exact ((Below.refl _ _).alloc (Nat.le_refl _) _).alloc (by simp) _
 rw [hw1] at x0 x1
 have hs1 : w1.heap.size = w.heap.size + 2 := by rw [← hw1]; simp
 have hpk6 : pk ≤ 1048576 := by have := hf'.2.2.1; omega
 have HPL := Lib.hid hpl
 have HPK := Lib.hid hpk
 have HUL := Lib.hid hul
 have HLV := Lib.hid h3
 have HKI := Lib.hid h4
 have HP6 := Lib.hid hf'.2.1
 have HSZ := Lib.hid hd'
 have HRN := Lib.hid hf'.1
 have HFK := Lib.hid ((Tm.fitL_iff kids).1 hf'.2.2.2)
 have IH := Lib.hid ih
 have g0 := cell_of_row _ _ 0 _ _ (0, 0) x0
 have g1 := cell_of_row _ _ 1 _ _ (0, 0) x0
 have HWK0 : ∀ n', liftN d k n f m = n' → (Tm.mk k n a lv kids).walk (liftT m f) d = .mk k n' a lv us := fun n' h => by
  rw [Tm.walk_go (tr := liftT m f) (n' := n') (lv' := lv) (by rw [← h]; rfl), hus]
 have hrn := hf'.1
 unfold Rng at hrn
 have hd30 : d ≤ 1073741824 := by omega
 clear hv h2 h3 h4 hf hf' hd hd' hpl hpk hul hus ih
 have hd0 : (0 : Int) ≤ (d : Int) := by omega
 have ws : 0 ≤ n → IntKind.i64.wrap (n - (d : Int)) = n - (d : Int) := fun h => IntWalk.i64_in _ (by omega)
 by_cases hk1 : k = 1
 rotate_left
 ·have hno : ¬ (k = 1 ∧ (d : Int) ≤ n ∧ f ≤ n - d) := by omega
  have HWK : Hid ((Tm.mk k n a lv kids).walk (liftT m f) d = .mk k n a lv us) := HWK0 n (by unfold liftN outer; rw [if_neg (by simpa using hno)])
  have hk2 : (k == 1) = false := by simp; exact hk1
  clear ws hk1
  obtain ⟨w2, hw2⟩ : ∃ x, x = w1 := ⟨_, rfl⟩
  have HS2 : Hid (w2.heap.size = w.heap.size + 2) := by rw [hw2]; exact hs1
  have HB2 : Hid (Below w.heap.size w w2) := by rw [hw2]; exact hb1
  rw [← hw2] at x0 x1 hw1 g0 g1
  clear hw2 hb1 hs1 hno HWK0
  go_enter Tryz.func54, Tryz.ntmps54
  have hs2 : w2.heap.size = w.heap.size + 2 := HS2.out
  have X0 := Lib.hid x0
  have X1 := Lib.hid x1
  have c4 := cell_of_row _ _ 4 _ _ (0, 0) x0
  clear x0 x1
  go_wp2
  go_loopw [9, 10] (fun lv i wr => ∃ (j : Nat) (ys : List Value), j ≤ pk ∧ i = .int .i64 (j : Int) ∧ Below w2.heap.size w2 wr ∧ wr.ownsRow w2.heap.size 26 5 lv j ys ∧ TmF (Cut w2.heap.size lv.ownBlock wr) wr.heap.size (us.take j) ys) (fun _ i _ => pk - (intOf i).toNat)
  case atStart => exact ⟨0, [], Nat.zero_le _, rfl, Below.refl _ _, own_nil _ _ _ _, by rw [List.take_zero]; rfl⟩
  case round =>
   obtain ⟨j, ys, hj, rfl, hb, hrow, hfl⟩ := hrel
   obtain ⟨Av, nv, cv, rfl⟩ := own_slice hrow
   have hbz := hb.size
   have b4 := (hb.cell (p := ⟨w.heap.size, 4, none⟩) (by show w.heap.size < _; omega)).trans c4
   have HB := Lib.hid hb
   have HR := Lib.hid hrow
   have HFL := Lib.hid hfl
   by_cases hlt : j < pk
   ·obtain ⟨t, ht⟩ : ∃ t, kids[j]? = some t := ⟨_, List.getElem?_eq_getElem (by rw [HPK.out]; exact hlt)⟩
    have hbw : Below w.heap.size w wr := HB2.out.trans (hb.mono (by omega))
    obtain ⟨b, o, k1, n1, a1, A1, p1, c1, A2, p2, c2, e, hbB, hv, d0, d1, d2, d3, d4⟩ := HKI.out.at hbw ht
    subst e
    obtain ⟨u, hu⟩ : ∃ u, us[j]? = some u := ⟨_, List.getElem?_eq_getElem (by rw [HUL.out]; exact hlt)⟩
    have HU := Lib.hid hu
    have hsz := HSZ.out
    have hm := Tm.sizeL_mem (List.mem_of_getElem? ht)
    have hund : under k j ≤ 1 := by unfold under; split <;> omega
    have CB : Hid (∀ wq, Below wr.heap.size wr wq → Calls Tryz.prog 55 #[.agg #[.int .i64 k, .int .i64 n, .int .i64 a, .slice Al pl cl, .slice (some ⟨b, o, none⟩) pk ck], .int .i64 (j : Int), .int .i64 (d : Int)] wq (fun e w' => e = .returned (.int .i64 ((d + under k j : Nat) : Int)) ∧ Below wr.heap.size wr w')) := fun wq hx => (rbelow_any k _ a _ _ j d wq (by omega)).mono fun _ _ h => ⟨h.1, hx.trans (h.2.mono hx.size)⟩
    have CL : Hid (∀ wq, Below wr.heap.size wr wq → Calls Tryz.prog 54 #[.agg #[.int .i64 k1, .int .i64 n1, .int .i64 a1, .slice A1 p1 c1, .slice A2 p2 c2], .int .i64 m, .int .i64 f, .int .i64 ((d + under k j : Nat) : Int)] wq (fun e w' => ∃ (k9 n9 a9 : Int) (A9 : Option Addr) (p9 c9 : Nat) (B9 : Option Addr) (q9 d9 : Nat), e = .returned (.agg #[.int .i64 k9, .int .i64 n9, .int .i64 a9, .slice A9 p9 c9, .slice B9 q9 d9]) ∧ TmAt (Cut wr.heap.size none w') w'.heap.size u (.agg #[.int .i64 k9, .int .i64 n9, .int .i64 a9, .slice A9 p9 c9, .slice B9 q9 d9]) ∧ Below wr.heap.size wr w')) := fun wq hx => by
     have hxw : Below w.heap.size w wq := hbw.trans (hx.mono hbw.size)
     have hue : u = t.walk (liftT m f) (d + under k j) := by
      have h := HUS.out j
      rw [hu, ht] at h
      injection h
     have hcall : Calls Tryz.prog 54 #[.agg #[.int .i64 k1, .int .i64 n1, .int .i64 a1, .slice A1 p1 c1, .slice A2 p2 c2], .int .i64 m, .int .i64 f, .int .i64 ((d + under k j : Nat) : Int)] wq (RefP wq u) := by
      rw [hue]
      exact IH.out t (List.mem_of_getElem? ht) m f (d + under k j) _ wq (HFK.out t (List.mem_of_getElem? ht)) (by omega) (hv.below hxw hxw.size)
     refine hcall.mono ?_
     rintro e w' ⟨v9, h1, h2, h3⟩
     obtain ⟨k9, n9, a9, A9, p9, c9, B9, q9, d9, rfl, h4⟩ := RefV.of h2
     exact ⟨k9, n9, a9, A9, p9, c9, B9, q9, d9, h1, TmAt.mono (Nat.le_refl _) (Cut.to fun b _ q1 q2 => ⟨Nat.le_trans hx.size q1, q2, rfl⟩) h4, hx.trans (h3.mono hx.size)⟩
    have HS : Hid (∀ w', Below w2.heap.size w2 w' → (fun w' => w'.cell? ⟨w.heap.size, 0, none⟩ = some (.int .i64 k) ∧ w'.cell? ⟨w.heap.size, 1, none⟩ = some (.int .i64 n) ∧ w'.cell? ⟨w.heap.size, 2, none⟩ = some (.int .i64 a) ∧ w'.cell? ⟨w.heap.size, 3, none⟩ = some (.slice Al pl cl) ∧ w'.cell? ⟨w.heap.size, 4, none⟩ = some (.slice (some ⟨b, o, none⟩) pk ck) ∧ w'.cell? ⟨b, o + j * 5, none⟩ = some (.int .i64 k1) ∧ w'.cell? ⟨b, o + j * 5 + 1, none⟩ = some (.int .i64 n1) ∧ w'.cell? ⟨b, o + j * 5 + 2, none⟩ = some (.int .i64 a1) ∧ w'.cell? ⟨b, o + j * 5 + 3, none⟩ = some (.slice A1 p1 c1) ∧ w'.cell? ⟨b, o + j * 5 + 4, none⟩ = some (.slice A2 p2 c2)) w') := fun w' hx => by
     have hbx : Below w.heap.size w w' := HB2.out.trans (hx.mono (by omega))
     have e0 := (hx.cell (p := ⟨w.heap.size, 0, none⟩) (by show w.heap.size < _; omega)).trans (cell_of_row _ _ 0 _ _ (0, 0) X0.out)
     have e1 := (hx.cell (p := ⟨w.heap.size, 1, none⟩) (by show w.heap.size < _; omega)).trans (cell_of_row _ _ 1 _ _ (0, 0) X0.out)
     have e2 := (hx.cell (p := ⟨w.heap.size, 2, none⟩) (by show w.heap.size < _; omega)).trans (cell_of_row _ _ 2 _ _ (0, 0) X0.out)
     have e3 := (hx.cell (p := ⟨w.heap.size, 3, none⟩) (by show w.heap.size < _; omega)).trans (cell_of_row _ _ 3 _ _ (0, 0) X0.out)
     have e4 := (hx.cell (p := ⟨w.heap.size, 4, none⟩) (by show w.heap.size < _; omega)).trans (cell_of_row _ _ 4 _ _ (0, 0) X0.out)
     obtain ⟨v1, m1, m2, m3, m4, m5⟩ : w'.cell? ⟨b, o + j * 5, none⟩ = some (.int .i64 k1) ∧ w'.cell? ⟨b, o + j * 5 + 1, none⟩ = some (.int .i64 n1) ∧ w'.cell? ⟨b, o + j * 5 + 2, none⟩ = some (.int .i64 a1) ∧ w'.cell? ⟨b, o + j * 5 + 3, none⟩ = some (.slice A1 p1 c1) ∧ w'.cell? ⟨b, o + j * 5 + 4, none⟩ = some (.slice A2 p2 c2) ∧ True := by
      have hbb : b < wr.heap.size := by have := hbw.size; omega
      have hk : ∀ i, w'.cell? ⟨b, i, none⟩ = wr.cell? ⟨b, i, none⟩ := fun i => (hbx.cell (p := ⟨b, i, none⟩) hbB).trans (hbw.cell (p := ⟨b, i, none⟩) hbB).symm
      exact ⟨(hk _).trans d0, (hk _).trans d1, (hk _).trans d2, (hk _).trans d3, (hk _).trans d4, trivial⟩
     exact ⟨e0, e1, e2, e3, e4, v1, m1, m2, m3, m4⟩
    have HSR : Hid (∀ w', Below wr.heap.size wr w' → (fun w' => w'.cell? ⟨w.heap.size, 0, none⟩ = some (.int .i64 k) ∧ w'.cell? ⟨w.heap.size, 1, none⟩ = some (.int .i64 n) ∧ w'.cell? ⟨w.heap.size, 2, none⟩ = some (.int .i64 a) ∧ w'.cell? ⟨w.heap.size, 3, none⟩ = some (.slice Al pl cl) ∧ w'.cell? ⟨w.heap.size, 4, none⟩ = some (.slice (some ⟨b, o, none⟩) pk ck) ∧ w'.cell? ⟨b, o + j * 5, none⟩ = some (.int .i64 k1) ∧ w'.cell? ⟨b, o + j * 5 + 1, none⟩ = some (.int .i64 n1) ∧ w'.cell? ⟨b, o + j * 5 + 2, none⟩ = some (.int .i64 a1) ∧ w'.cell? ⟨b, o + j * 5 + 3, none⟩ = some (.slice A1 p1 c1) ∧ w'.cell? ⟨b, o + j * 5 + 4, none⟩ = some (.slice A2 p2 c2)) w') := fun w' hx => HS.out w' (HB.out.trans (hx.mono hbz))
    have HD : Hid (Below wr.heap.size wr wr.drew) := (Below.refl _ _).drew
    have ij0 : (0 : Int) ≤ (j : Int) := by omega
    have ij1 : (j : Int) < (pk : Int) := by omega
    have hnn : j ≤ 1048576 := by omega
    obtain ⟨s0, s1, s2, s3, s4, s5, s6, s7, s8, s9⟩ := HSR.out wr (Below.refl _ _)
    clear hb hrow hfl hu ht hv hm hund hbw d0 d1 d2 d3 d4 b4 hbB
    go_upto_region 7 with (fail)
    go_region_held3 (fun w' => w'.cell? ⟨w.heap.size, 0, none⟩ = some (.int .i64 k) ∧ w'.cell? ⟨w.heap.size, 1, none⟩ = some (.int .i64 n) ∧ w'.cell? ⟨w.heap.size, 2, none⟩ = some (.int .i64 a) ∧ w'.cell? ⟨w.heap.size, 3, none⟩ = some (.slice Al pl cl) ∧ w'.cell? ⟨w.heap.size, 4, none⟩ = some (.slice (some ⟨b, o, none⟩) pk ck) ∧ w'.cell? ⟨b, o + j * 5, none⟩ = some (.int .i64 k1) ∧ w'.cell? ⟨b, o + j * 5 + 1, none⟩ = some (.int .i64 n1) ∧ w'.cell? ⟨b, o + j * 5 + 2, none⟩ = some (.int .i64 a1) ∧ w'.cell? ⟨b, o + j * 5 + 3, none⟩ = some (.slice A1 p1 c1) ∧ w'.cell? ⟨b, o + j * 5 + 4, none⟩ = some (.slice A2 p2 c2))
     (first
       | exact HSR.out _ HD.out
       | (apply HSR.out; assumption)
       | (apply HSR.out; apply Below.alloc; assumption; apply Below.size; assumption)
       | (apply HS.out; exact (HB.out.trans ((Below.alloc hx2 hx2.size _).mono hbz)).grown hgrow (by have := hx2.size; simp; omega) (fun b e => (HR.out.lt b e).1)))
     (first
       | (go_at_call 55; refine (CB.out _ ?_).mono ?_; exact HD.out; rintro e wB ⟨rfl, hx1⟩)
       | (go_at_call 54; refine (CL.out _ ?_).mono ?_; exact hx1; rintro e wL ⟨k9, n9, a9, A9, p9, c9, B9, q9, d9, rfl, hl9, hx2⟩)
       | (refine step_append_lies _ (by rfl) _ _ 24 (by rfl) w2.heap.size 26 i0 (.agg #[.int .i64 0, .int .i64 0, .int .i64 0, .slice none 0 0, .slice none 0 0]) 5 72 Tryz.underlying24 hi hz0 hz1 hz2 rfl (by omega) (.slice Av nv cv) j ys (by rfl) (own_below (own_below HR.out hx2) ((Below.refl _ _).alloc (Nat.le_refl _) _)) ⟨wL.heap.size, 0, none⟩ 1 1 [.int .i64 k9, .int .i64 n9, .int .i64 a9, .slice A9 p9 c9, .slice B9 q9 d9] (by rfl) (by rfl) (World.news_of_block (cs := #[.int .i64 k9, .int .i64 n9, .int .i64 a9, .slice A9 p9 c9, .slice B9 q9 d9]) (t := 26) (fr := (0, 0)) (heap_alloc_new wL _)) (by simp [Value.oneCell']) (by omega) (by unfold maxLen; omega) (by omega) (by have := hx2.size; simp; omega) (wL.heap.size + 1) (by simp) ?_; intro gg cap w8 hown hgrow hat hlt8))
    have hxz := hx2.size
    have hx3 : Below wr.heap.size wr (wL.alloc (.cells #[.int .i64 k9, .int .i64 n9, .int .i64 a9, .slice A9 p9 c9, .slice B9 q9 d9] 26)) := hx2.alloc hxz _
    have HB8 : Hid (Below w2.heap.size w2 w8) := (HB.out.trans (hx3.mono hbz)).grown hgrow (by simp; omega) (fun b e => (HR.out.lt b e).1)
    have HR8 := Lib.hid hown
    have HF8 : Hid (TmF (Cut w2.heap.size (some gg) w8) w8.heap.size (us.take (j + 1)) (ys ++ [.int .i64 k9, .int .i64 n9, .int .i64 a9, .slice A9 p9 c9, .slice B9 q9 d9])) := by
     rw [take_snoc_2 HU.out]
     refine HFL.out.more (TmAt.mono (by simp) (Cut.to fun b h1 h2 h3 => ⟨h2, h3, ?_⟩) hl9) hbz hx3 hgrow (fun b e => (HR.out.lt b e).2) (hat.elim (fun e => Or.inl e.symm) (fun e => Or.inr (by rw [e]; simp)))
     exact ((Below.refl wL.heap.size wL).alloc (Nat.le_refl _) _).block b h1
    clear hown hgrow hat hl9 hx1 hx2 hx3 HFL HR HB s0 s1 s2 s3 s4 s5 s6 s7 s8 s9
    go_wp2
    go_roundw
    case rel => exact ⟨j + 1, _, by omega, by go_num, HB8.out, HR8.out, HF8.out⟩
    case measure => simp [intOf]; omega
   ·have ej : j = pk := by omega
    subst ej
    have hq : us.take j = us := List.take_of_length_le (by rw [HUL.out]; omega)
    rw [hq] at hfl
    obtain ⟨em, htm⟩ := TmF.row hrow HUL.out (TmF.mono (Nat.le_refl _) (Cut.to fun b _ h2 _ => ⟨h2, by simp, rfl⟩) hfl)
    subst em
    have hbw : Below w.heap.size w wr := HB2.out.trans (hb.mono (by omega))
    have HW := Lib.hid (rwith_any k n a lv Al pl cl (.slice Ak nv ck) Av nv cv wr HPL.out (by have := HP6.out.1; have := HPL.out; omega) HP6.out.2 ((HLV.out.below hbw).more hbw.size))
    have x0 := (hb.block w.heap.size (by omega)).trans X0.out
    have x1 := (hb.block (w.heap.size + 1) (by omega)).trans X1.out
    have z0 := cell_of_row _ _ 0 _ _ (0, 0) x0
    have z1 := cell_of_row _ _ 1 _ _ (0, 0) x0
    have z2 := cell_of_row _ _ 2 _ _ (0, 0) x0
    have z3 := cell_of_row _ _ 3 _ _ (0, 0) x0
    have z4 := cell_of_row _ _ 4 _ _ (0, 0) x0
    have X1R := Lib.hid x1
    have HTM := Lib.hid htm
    have HBW := Lib.hid hbw
    clear hb hrow hfl hq htm hbw x0 x1 HR HFL HB b4 c4 X0 X1
    go_wp2_with (fail)
    refine HW.out.mono ?_
    rintro e w3 ⟨A3, c3, rfl, hc3, hlv, hb3⟩
    have hs3 := hb3.size
    have q4 := (hb3.block (w.heap.size + 1) (by omega)).trans X1R.out
    have s0 := cell_of_row _ _ 0 _ _ (0, 0) q4
    have s1 := cell_of_row _ _ 1 _ _ (0, 0) q4
    have s2 := cell_of_row _ _ 2 _ _ (0, 0) q4
    have s3 := cell_of_row _ _ 3 _ _ (0, 0) q4
    have s4 := cell_of_row _ _ 4 _ _ (0, 0) q4
    have t0 := thawed q4 0
    have t1 := thawed q4 1
    have t2 := thawed q4 2
    have t3 := thawed q4 3
    have t4 := thawed q4 4
    obtain ⟨g9, s9, cur9, h9, _, hc9⟩ := store5_post q4 (o := 0) (by simp) (.int .i64 k) (.int .i64 n) (.int .i64 a) (.slice A3 pl c3) (.slice Av nv cv)
    have u0 := row_cell h9 hc9.1
    have u1 := row_cell h9 hc9.2.1
    have u2 := row_cell h9 hc9.2.2.1
    have u3 := row_cell h9 hc9.2.2.2.1
    have u4 := row_cell h9 hc9.2.2.2.2
    obtain ⟨w5, hw5⟩ : ∃ x, store5 w3 (w.heap.size + 1) 0 (.int .i64 k) (.int .i64 n) (.int .i64 a) (.slice A3 pl c3) (.slice Av nv cv) = x := ⟨_, rfl⟩
    have HFIN : Hid (RefP w ((Tm.mk k n a lv kids).walk (liftT m f) d) (.returned (.agg #[.int .i64 k, .int .i64 n, .int .i64 a, .slice A3 pl c3, .slice Av nv cv])) w5) := by
     rw [hw5] at g9 s9
     refine ⟨_, rfl, ?_, (HBW.out.trans (hb3.mono HBW.out.size)).grown g9 (by omega) (fun b e => by injection e with e; omega)⟩
     rw [HWK.out]
     have hl2 := Levs.mono (B' := w5.heap.size) hlv (by omega) (Cut.to (lo' := w.heap.size) (r' := none) (w' := w5) fun b h1 h2 _ => ⟨by omega, by simp, g9.block b (by omega) (by intro e; injection e with e; omega)⟩)
     have ht2 := Tms.mono (B' := w5.heap.size) HTM.out (by omega) (Cut.to (lo' := w.heap.size) (r' := none) (w' := w5) fun b h1 h2 _ => ⟨by omega, by simp, (g9.block b (by omega) (by intro e; injection e with e; omega)).trans (hb3.block b h1)⟩)
     have h := TmAt.make (k := k) (n := n) (a := a) hc3 hl2 ht2
     rwa [HPL.out, HUL.out] at h
    unfold store5 at hw5 u0 u1 u2 u3 u4
    clear g9 s9 h9 hc9 q4 hb3 hlv hc3 HW z0 z1 z2 z3 z4
    go_wp2
    rw [hw5] at u0 u1 u2 u3 u4
    exact bodyPost_ret (v := .agg #[.int .i64 k, .int .i64 n, .int .i64 a, .slice A3 pl c3, .slice Av nv cv]) (by simp [results, Tryz.results54, go_sem, u0, u1, u2, u3, u4]) rfl HFIN.out
 have hk2 : (k == 1) = true := by simp; exact hk1
 by_cases hdn : (d : Int) ≤ n
 rotate_left
 ·have hno : ¬ (k = 1 ∧ (d : Int) ≤ n ∧ f ≤ n - d) := by omega
  have HWK : Hid ((Tm.mk k n a lv kids).walk (liftT m f) d = .mk k n a lv us) := HWK0 n (by unfold liftN outer; rw [if_neg (by simpa using hno)])
  clear ws hk1
  obtain ⟨w2, hw2⟩ : ∃ x, x = w1 := ⟨_, rfl⟩
  have HS2 : Hid (w2.heap.size = w.heap.size + 2) := by rw [hw2]; exact hs1
  have HB2 : Hid (Below w.heap.size w w2) := by rw [hw2]; exact hb1
  rw [← hw2] at x0 x1 hw1 g0 g1
  clear hw2 hb1 hs1 hno HWK0
  go_enter Tryz.func54, Tryz.ntmps54
  have hs2 : w2.heap.size = w.heap.size + 2 := HS2.out
  have X0 := Lib.hid x0
  have X1 := Lib.hid x1
  have c4 := cell_of_row _ _ 4 _ _ (0, 0) x0
  clear x0 x1
  go_wp2
  go_loopw [9, 10] (fun lv i wr => ∃ (j : Nat) (ys : List Value), j ≤ pk ∧ i = .int .i64 (j : Int) ∧ Below w2.heap.size w2 wr ∧ wr.ownsRow w2.heap.size 26 5 lv j ys ∧ TmF (Cut w2.heap.size lv.ownBlock wr) wr.heap.size (us.take j) ys) (fun _ i _ => pk - (intOf i).toNat)
  case atStart => exact ⟨0, [], Nat.zero_le _, rfl, Below.refl _ _, own_nil _ _ _ _, by rw [List.take_zero]; rfl⟩
  case round =>
   obtain ⟨j, ys, hj, rfl, hb, hrow, hfl⟩ := hrel
   obtain ⟨Av, nv, cv, rfl⟩ := own_slice hrow
   have hbz := hb.size
   have b4 := (hb.cell (p := ⟨w.heap.size, 4, none⟩) (by show w.heap.size < _; omega)).trans c4
   have HB := Lib.hid hb
   have HR := Lib.hid hrow
   have HFL := Lib.hid hfl
   by_cases hlt : j < pk
   ·obtain ⟨t, ht⟩ : ∃ t, kids[j]? = some t := ⟨_, List.getElem?_eq_getElem (by rw [HPK.out]; exact hlt)⟩
    have hbw : Below w.heap.size w wr := HB2.out.trans (hb.mono (by omega))
    obtain ⟨b, o, k1, n1, a1, A1, p1, c1, A2, p2, c2, e, hbB, hv, d0, d1, d2, d3, d4⟩ := HKI.out.at hbw ht
    subst e
    obtain ⟨u, hu⟩ : ∃ u, us[j]? = some u := ⟨_, List.getElem?_eq_getElem (by rw [HUL.out]; exact hlt)⟩
    have HU := Lib.hid hu
    have hsz := HSZ.out
    have hm := Tm.sizeL_mem (List.mem_of_getElem? ht)
    have hund : under k j ≤ 1 := by unfold under; split <;> omega
    have CB : Hid (∀ wq, Below wr.heap.size wr wq → Calls Tryz.prog 55 #[.agg #[.int .i64 k, .int .i64 n, .int .i64 a, .slice Al pl cl, .slice (some ⟨b, o, none⟩) pk ck], .int .i64 (j : Int), .int .i64 (d : Int)] wq (fun e w' => e = .returned (.int .i64 ((d + under k j : Nat) : Int)) ∧ Below wr.heap.size wr w')) := fun wq hx => (rbelow_any k _ a _ _ j d wq (by omega)).mono fun _ _ h => ⟨h.1, hx.trans (h.2.mono hx.size)⟩
    have CL : Hid (∀ wq, Below wr.heap.size wr wq → Calls Tryz.prog 54 #[.agg #[.int .i64 k1, .int .i64 n1, .int .i64 a1, .slice A1 p1 c1, .slice A2 p2 c2], .int .i64 m, .int .i64 f, .int .i64 ((d + under k j : Nat) : Int)] wq (fun e w' => ∃ (k9 n9 a9 : Int) (A9 : Option Addr) (p9 c9 : Nat) (B9 : Option Addr) (q9 d9 : Nat), e = .returned (.agg #[.int .i64 k9, .int .i64 n9, .int .i64 a9, .slice A9 p9 c9, .slice B9 q9 d9]) ∧ TmAt (Cut wr.heap.size none w') w'.heap.size u (.agg #[.int .i64 k9, .int .i64 n9, .int .i64 a9, .slice A9 p9 c9, .slice B9 q9 d9]) ∧ Below wr.heap.size wr w')) := fun wq hx => by
     have hxw : Below w.heap.size w wq := hbw.trans (hx.mono hbw.size)
     have hue : u = t.walk (liftT m f) (d + under k j) := by
      have h := HUS.out j
      rw [hu, ht] at h
      injection h
     have hcall : Calls Tryz.prog 54 #[.agg #[.int .i64 k1, .int .i64 n1, .int .i64 a1, .slice A1 p1 c1, .slice A2 p2 c2], .int .i64 m, .int .i64 f, .int .i64 ((d + under k j : Nat) : Int)] wq (RefP wq u) := by
      rw [hue]
      exact IH.out t (List.mem_of_getElem? ht) m f (d + under k j) _ wq (HFK.out t (List.mem_of_getElem? ht)) (by omega) (hv.below hxw hxw.size)
     refine hcall.mono ?_
     rintro e w' ⟨v9, h1, h2, h3⟩
     obtain ⟨k9, n9, a9, A9, p9, c9, B9, q9, d9, rfl, h4⟩ := RefV.of h2
     exact ⟨k9, n9, a9, A9, p9, c9, B9, q9, d9, h1, TmAt.mono (Nat.le_refl _) (Cut.to fun b _ q1 q2 => ⟨Nat.le_trans hx.size q1, q2, rfl⟩) h4, hx.trans (h3.mono hx.size)⟩
    have HS : Hid (∀ w', Below w2.heap.size w2 w' → (fun w' => w'.cell? ⟨w.heap.size, 0, none⟩ = some (.int .i64 k) ∧ w'.cell? ⟨w.heap.size, 1, none⟩ = some (.int .i64 n) ∧ w'.cell? ⟨w.heap.size, 2, none⟩ = some (.int .i64 a) ∧ w'.cell? ⟨w.heap.size, 3, none⟩ = some (.slice Al pl cl) ∧ w'.cell? ⟨w.heap.size, 4, none⟩ = some (.slice (some ⟨b, o, none⟩) pk ck) ∧ w'.cell? ⟨b, o + j * 5, none⟩ = some (.int .i64 k1) ∧ w'.cell? ⟨b, o + j * 5 + 1, none⟩ = some (.int .i64 n1) ∧ w'.cell? ⟨b, o + j * 5 + 2, none⟩ = some (.int .i64 a1) ∧ w'.cell? ⟨b, o + j * 5 + 3, none⟩ = some (.slice A1 p1 c1) ∧ w'.cell? ⟨b, o + j * 5 + 4, none⟩ = some (.slice A2 p2 c2)) w') := fun w' hx => by
     have hbx : Below w.heap.size w w' := HB2.out.trans (hx.mono (by omega))
     have e0 := (hx.cell (p := ⟨w.heap.size, 0, none⟩) (by show w.heap.size < _; omega)).trans (cell_of_row _ _ 0 _ _ (0, 0) X0.out)
     have e1 := (hx.cell (p := ⟨w.heap.size, 1, none⟩) (by show w.heap.size < _; omega)).trans (cell_of_row _ _ 1 _ _ (0, 0) X0.out)
     have e2 := (hx.cell (p := ⟨w.heap.size, 2, none⟩) (by show w.heap.size < _; omega)).trans (cell_of_row _ _ 2 _ _ (0, 0) X0.out)
     have e3 := (hx.cell (p := ⟨w.heap.size, 3, none⟩) (by show w.heap.size < _; omega)).trans (cell_of_row _ _ 3 _ _ (0, 0) X0.out)
     have e4 := (hx.cell (p := ⟨w.heap.size, 4, none⟩) (by show w.heap.size < _; omega)).trans (cell_of_row _ _ 4 _ _ (0, 0) X0.out)
     obtain ⟨v1, m1, m2, m3, m4, m5⟩ : w'.cell? ⟨b, o + j * 5, none⟩ = some (.int .i64 k1) ∧ w'.cell? ⟨b, o + j * 5 + 1, none⟩ = some (.int .i64 n1) ∧ w'.cell? ⟨b, o + j * 5 + 2, none⟩ = some (.int .i64 a1) ∧ w'.cell? ⟨b, o + j * 5 + 3, none⟩ = some (.slice A1 p1 c1) ∧ w'.cell? ⟨b, o + j * 5 + 4, none⟩ = some (.slice A2 p2 c2) ∧ True := by
      have hbb : b < wr.heap.size := by have := hbw.size; omega
      have hk : ∀ i, w'.cell? ⟨b, i, none⟩ = wr.cell? ⟨b, i, none⟩ := fun i => (hbx.cell (p := ⟨b, i, none⟩) hbB).trans (hbw.cell (p := ⟨b, i, none⟩) hbB).symm
      exact ⟨(hk _).trans d0, (hk _).trans d1, (hk _).trans d2, (hk _).trans d3, (hk _).trans d4, trivial⟩
     exact ⟨e0, e1, e2, e3, e4, v1, m1, m2, m3, m4⟩
    have HSR : Hid (∀ w', Below wr.heap.size wr w' → (fun w' => w'.cell? ⟨w.heap.size, 0, none⟩ = some (.int .i64 k) ∧ w'.cell? ⟨w.heap.size, 1, none⟩ = some (.int .i64 n) ∧ w'.cell? ⟨w.heap.size, 2, none⟩ = some (.int .i64 a) ∧ w'.cell? ⟨w.heap.size, 3, none⟩ = some (.slice Al pl cl) ∧ w'.cell? ⟨w.heap.size, 4, none⟩ = some (.slice (some ⟨b, o, none⟩) pk ck) ∧ w'.cell? ⟨b, o + j * 5, none⟩ = some (.int .i64 k1) ∧ w'.cell? ⟨b, o + j * 5 + 1, none⟩ = some (.int .i64 n1) ∧ w'.cell? ⟨b, o + j * 5 + 2, none⟩ = some (.int .i64 a1) ∧ w'.cell? ⟨b, o + j * 5 + 3, none⟩ = some (.slice A1 p1 c1) ∧ w'.cell? ⟨b, o + j * 5 + 4, none⟩ = some (.slice A2 p2 c2)) w') := fun w' hx => HS.out w' (HB.out.trans (hx.mono hbz))
    have HD : Hid (Below wr.heap.size wr wr.drew) := (Below.refl _ _).drew
    have ij0 : (0 : Int) ≤ (j : Int) := by omega
    have ij1 : (j : Int) < (pk : Int) := by omega
    have hnn : j ≤ 1048576 := by omega
    obtain ⟨s0, s1, s2, s3, s4, s5, s6, s7, s8, s9⟩ := HSR.out wr (Below.refl _ _)
    clear hb hrow hfl hu ht hv hm hund hbw d0 d1 d2 d3 d4 b4 hbB
    go_upto_region 7 with (fail)
    go_region_held3 (fun w' => w'.cell? ⟨w.heap.size, 0, none⟩ = some (.int .i64 k) ∧ w'.cell? ⟨w.heap.size, 1, none⟩ = some (.int .i64 n) ∧ w'.cell? ⟨w.heap.size, 2, none⟩ = some (.int .i64 a) ∧ w'.cell? ⟨w.heap.size, 3, none⟩ = some (.slice Al pl cl) ∧ w'.cell? ⟨w.heap.size, 4, none⟩ = some (.slice (some ⟨b, o, none⟩) pk ck) ∧ w'.cell? ⟨b, o + j * 5, none⟩ = some (.int .i64 k1) ∧ w'.cell? ⟨b, o + j * 5 + 1, none⟩ = some (.int .i64 n1) ∧ w'.cell? ⟨b, o + j * 5 + 2, none⟩ = some (.int .i64 a1) ∧ w'.cell? ⟨b, o + j * 5 + 3, none⟩ = some (.slice A1 p1 c1) ∧ w'.cell? ⟨b, o + j * 5 + 4, none⟩ = some (.slice A2 p2 c2))
     (first
       | exact HSR.out _ HD.out
       | (apply HSR.out; assumption)
       | (apply HSR.out; apply Below.alloc; assumption; apply Below.size; assumption)
       | (apply HS.out; exact (HB.out.trans ((Below.alloc hx2 hx2.size _).mono hbz)).grown hgrow (by have := hx2.size; simp; omega) (fun b e => (HR.out.lt b e).1)))
     (first
       | (go_at_call 55; refine (CB.out _ ?_).mono ?_; exact HD.out; rintro e wB ⟨rfl, hx1⟩)
       | (go_at_call 54; refine (CL.out _ ?_).mono ?_; exact hx1; rintro e wL ⟨k9, n9, a9, A9, p9, c9, B9, q9, d9, rfl, hl9, hx2⟩)
       | (refine step_append_lies _ (by rfl) _ _ 24 (by rfl) w2.heap.size 26 i0 (.agg #[.int .i64 0, .int .i64 0, .int .i64 0, .slice none 0 0, .slice none 0 0]) 5 72 Tryz.underlying24 hi hz0 hz1 hz2 rfl (by omega) (.slice Av nv cv) j ys (by rfl) (own_below (own_below HR.out hx2) ((Below.refl _ _).alloc (Nat.le_refl _) _)) ⟨wL.heap.size, 0, none⟩ 1 1 [.int .i64 k9, .int .i64 n9, .int .i64 a9, .slice A9 p9 c9, .slice B9 q9 d9] (by rfl) (by rfl) (World.news_of_block (cs := #[.int .i64 k9, .int .i64 n9, .int .i64 a9, .slice A9 p9 c9, .slice B9 q9 d9]) (t := 26) (fr := (0, 0)) (heap_alloc_new wL _)) (by simp [Value.oneCell']) (by omega) (by unfold maxLen; omega) (by omega) (by have := hx2.size; simp; omega) (wL.heap.size + 1) (by simp) ?_; intro gg cap w8 hown hgrow hat hlt8))
    have hxz := hx2.size
    have hx3 : Below wr.heap.size wr (wL.alloc (.cells #[.int .i64 k9, .int .i64 n9, .int .i64 a9, .slice A9 p9 c9, .slice B9 q9 d9] 26)) := hx2.alloc hxz _
    have HB8 : Hid (Below w2.heap.size w2 w8) := (HB.out.trans (hx3.mono hbz)).grown hgrow (by simp; omega) (fun b e => (HR.out.lt b e).1)
    have HR8 := Lib.hid hown
    have HF8 : Hid (TmF (Cut w2.heap.size (some gg) w8) w8.heap.size (us.take (j + 1)) (ys ++ [.int .i64 k9, .int .i64 n9, .int .i64 a9, .slice A9 p9 c9, .slice B9 q9 d9])) := by
     rw [take_snoc_2 HU.out]
     refine HFL.out.more (TmAt.mono (by simp) (Cut.to fun b h1 h2 h3 => ⟨h2, h3, ?_⟩) hl9) hbz hx3 hgrow (fun b e => (HR.out.lt b e).2) (hat.elim (fun e => Or.inl e.symm) (fun e => Or.inr (by rw [e]; simp)))
     exact ((Below.refl wL.heap.size wL).alloc (Nat.le_refl _) _).block b h1
    clear hown hgrow hat hl9 hx1 hx2 hx3 HFL HR HB s0 s1 s2 s3 s4 s5 s6 s7 s8 s9
    go_wp2
    go_roundw
    case rel => exact ⟨j + 1, _, by omega, by go_num, HB8.out, HR8.out, HF8.out⟩
    case measure => simp [intOf]; omega
   ·have ej : j = pk := by omega
    subst ej
    have hq : us.take j = us := List.take_of_length_le (by rw [HUL.out]; omega)
    rw [hq] at hfl
    obtain ⟨em, htm⟩ := TmF.row hrow HUL.out (TmF.mono (Nat.le_refl _) (Cut.to fun b _ h2 _ => ⟨h2, by simp, rfl⟩) hfl)
    subst em
    have hbw : Below w.heap.size w wr := HB2.out.trans (hb.mono (by omega))
    have HW := Lib.hid (rwith_any k n a lv Al pl cl (.slice Ak nv ck) Av nv cv wr HPL.out (by have := HP6.out.1; have := HPL.out; omega) HP6.out.2 ((HLV.out.below hbw).more hbw.size))
    have x0 := (hb.block w.heap.size (by omega)).trans X0.out
    have x1 := (hb.block (w.heap.size + 1) (by omega)).trans X1.out
    have z0 := cell_of_row _ _ 0 _ _ (0, 0) x0
    have z1 := cell_of_row _ _ 1 _ _ (0, 0) x0
    have z2 := cell_of_row _ _ 2 _ _ (0, 0) x0
    have z3 := cell_of_row _ _ 3 _ _ (0, 0) x0
    have z4 := cell_of_row _ _ 4 _ _ (0, 0) x0
    have X1R := Lib.hid x1
    have HTM := Lib.hid htm
    have HBW := Lib.hid hbw
    clear hb hrow hfl hq htm hbw x0 x1 HR HFL HB b4 c4 X0 X1
    go_wp2_with (fail)
    refine HW.out.mono ?_
    rintro e w3 ⟨A3, c3, rfl, hc3, hlv, hb3⟩
    have hs3 := hb3.size
    have q4 := (hb3.block (w.heap.size + 1) (by omega)).trans X1R.out
    have s0 := cell_of_row _ _ 0 _ _ (0, 0) q4
    have s1 := cell_of_row _ _ 1 _ _ (0, 0) q4
    have s2 := cell_of_row _ _ 2 _ _ (0, 0) q4
    have s3 := cell_of_row _ _ 3 _ _ (0, 0) q4
    have s4 := cell_of_row _ _ 4 _ _ (0, 0) q4
    have t0 := thawed q4 0
    have t1 := thawed q4 1
    have t2 := thawed q4 2
    have t3 := thawed q4 3
    have t4 := thawed q4 4
    obtain ⟨g9, s9, cur9, h9, _, hc9⟩ := store5_post q4 (o := 0) (by simp) (.int .i64 k) (.int .i64 n) (.int .i64 a) (.slice A3 pl c3) (.slice Av nv cv)
    have u0 := row_cell h9 hc9.1
    have u1 := row_cell h9 hc9.2.1
    have u2 := row_cell h9 hc9.2.2.1
    have u3 := row_cell h9 hc9.2.2.2.1
    have u4 := row_cell h9 hc9.2.2.2.2
    obtain ⟨w5, hw5⟩ : ∃ x, store5 w3 (w.heap.size + 1) 0 (.int .i64 k) (.int .i64 n) (.int .i64 a) (.slice A3 pl c3) (.slice Av nv cv) = x := ⟨_, rfl⟩
    have HFIN : Hid (RefP w ((Tm.mk k n a lv kids).walk (liftT m f) d) (.returned (.agg #[.int .i64 k, .int .i64 n, .int .i64 a, .slice A3 pl c3, .slice Av nv cv])) w5) := by
     rw [hw5] at g9 s9
     refine ⟨_, rfl, ?_, (HBW.out.trans (hb3.mono HBW.out.size)).grown g9 (by omega) (fun b e => by injection e with e; omega)⟩
     rw [HWK.out]
     have hl2 := Levs.mono (B' := w5.heap.size) hlv (by omega) (Cut.to (lo' := w.heap.size) (r' := none) (w' := w5) fun b h1 h2 _ => ⟨by omega, by simp, g9.block b (by omega) (by intro e; injection e with e; omega)⟩)
     have ht2 := Tms.mono (B' := w5.heap.size) HTM.out (by omega) (Cut.to (lo' := w.heap.size) (r' := none) (w' := w5) fun b h1 h2 _ => ⟨by omega, by simp, (g9.block b (by omega) (by intro e; injection e with e; omega)).trans (hb3.block b h1)⟩)
     have h := TmAt.make (k := k) (n := n) (a := a) hc3 hl2 ht2
     rwa [HPL.out, HUL.out] at h
    unfold store5 at hw5 u0 u1 u2 u3 u4
    clear g9 s9 h9 hc9 q4 hb3 hlv hc3 HW z0 z1 z2 z3 z4
    go_wp2
    rw [hw5] at u0 u1 u2 u3 u4
    exact bodyPost_ret (v := .agg #[.int .i64 k, .int .i64 n, .int .i64 a, .slice A3 pl c3, .slice Av nv cv]) (by simp [results, Tryz.results54, go_sem, u0, u1, u2, u3, u4]) rfl HFIN.out
 have ws2 := ws (by omega)
 clear ws
 by_cases hfn : f ≤ n - (d : Int)
 rotate_left
 ·have hno : ¬ (k = 1 ∧ (d : Int) ≤ n ∧ f ≤ n - d) := by omega
  have HWK : Hid ((Tm.mk k n a lv kids).walk (liftT m f) d = .mk k n a lv us) := HWK0 n (by unfold liftN outer; rw [if_neg (by simpa using hno)])
  clear hk1
  obtain ⟨w2, hw2⟩ : ∃ x, x = w1 := ⟨_, rfl⟩
  have HS2 : Hid (w2.heap.size = w.heap.size + 2) := by rw [hw2]; exact hs1
  have HB2 : Hid (Below w.heap.size w w2) := by rw [hw2]; exact hb1
  rw [← hw2] at x0 x1 hw1 g0 g1
  clear hw2 hb1 hs1 hno HWK0
  go_enter Tryz.func54, Tryz.ntmps54
  have hs2 : w2.heap.size = w.heap.size + 2 := HS2.out
  have X0 := Lib.hid x0
  have X1 := Lib.hid x1
  have c4 := cell_of_row _ _ 4 _ _ (0, 0) x0
  clear x0 x1
  go_wp2
  go_loopw [9, 10] (fun lv i wr => ∃ (j : Nat) (ys : List Value), j ≤ pk ∧ i = .int .i64 (j : Int) ∧ Below w2.heap.size w2 wr ∧ wr.ownsRow w2.heap.size 26 5 lv j ys ∧ TmF (Cut w2.heap.size lv.ownBlock wr) wr.heap.size (us.take j) ys) (fun _ i _ => pk - (intOf i).toNat)
  case atStart => exact ⟨0, [], Nat.zero_le _, rfl, Below.refl _ _, own_nil _ _ _ _, by rw [List.take_zero]; rfl⟩
  case round =>
   obtain ⟨j, ys, hj, rfl, hb, hrow, hfl⟩ := hrel
   obtain ⟨Av, nv, cv, rfl⟩ := own_slice hrow
   have hbz := hb.size
   have b4 := (hb.cell (p := ⟨w.heap.size, 4, none⟩) (by show w.heap.size < _; omega)).trans c4
   have HB := Lib.hid hb
   have HR := Lib.hid hrow
   have HFL := Lib.hid hfl
   by_cases hlt : j < pk
   ·obtain ⟨t, ht⟩ : ∃ t, kids[j]? = some t := ⟨_, List.getElem?_eq_getElem (by rw [HPK.out]; exact hlt)⟩
    have hbw : Below w.heap.size w wr := HB2.out.trans (hb.mono (by omega))
    obtain ⟨b, o, k1, n1, a1, A1, p1, c1, A2, p2, c2, e, hbB, hv, d0, d1, d2, d3, d4⟩ := HKI.out.at hbw ht
    subst e
    obtain ⟨u, hu⟩ : ∃ u, us[j]? = some u := ⟨_, List.getElem?_eq_getElem (by rw [HUL.out]; exact hlt)⟩
    have HU := Lib.hid hu
    have hsz := HSZ.out
    have hm := Tm.sizeL_mem (List.mem_of_getElem? ht)
    have hund : under k j ≤ 1 := by unfold under; split <;> omega
    have CB : Hid (∀ wq, Below wr.heap.size wr wq → Calls Tryz.prog 55 #[.agg #[.int .i64 k, .int .i64 n, .int .i64 a, .slice Al pl cl, .slice (some ⟨b, o, none⟩) pk ck], .int .i64 (j : Int), .int .i64 (d : Int)] wq (fun e w' => e = .returned (.int .i64 ((d + under k j : Nat) : Int)) ∧ Below wr.heap.size wr w')) := fun wq hx => (rbelow_any k _ a _ _ j d wq (by omega)).mono fun _ _ h => ⟨h.1, hx.trans (h.2.mono hx.size)⟩
    have CL : Hid (∀ wq, Below wr.heap.size wr wq → Calls Tryz.prog 54 #[.agg #[.int .i64 k1, .int .i64 n1, .int .i64 a1, .slice A1 p1 c1, .slice A2 p2 c2], .int .i64 m, .int .i64 f, .int .i64 ((d + under k j : Nat) : Int)] wq (fun e w' => ∃ (k9 n9 a9 : Int) (A9 : Option Addr) (p9 c9 : Nat) (B9 : Option Addr) (q9 d9 : Nat), e = .returned (.agg #[.int .i64 k9, .int .i64 n9, .int .i64 a9, .slice A9 p9 c9, .slice B9 q9 d9]) ∧ TmAt (Cut wr.heap.size none w') w'.heap.size u (.agg #[.int .i64 k9, .int .i64 n9, .int .i64 a9, .slice A9 p9 c9, .slice B9 q9 d9]) ∧ Below wr.heap.size wr w')) := fun wq hx => by
     have hxw : Below w.heap.size w wq := hbw.trans (hx.mono hbw.size)
     have hue : u = t.walk (liftT m f) (d + under k j) := by
      have h := HUS.out j
      rw [hu, ht] at h
      injection h
     have hcall : Calls Tryz.prog 54 #[.agg #[.int .i64 k1, .int .i64 n1, .int .i64 a1, .slice A1 p1 c1, .slice A2 p2 c2], .int .i64 m, .int .i64 f, .int .i64 ((d + under k j : Nat) : Int)] wq (RefP wq u) := by
      rw [hue]
      exact IH.out t (List.mem_of_getElem? ht) m f (d + under k j) _ wq (HFK.out t (List.mem_of_getElem? ht)) (by omega) (hv.below hxw hxw.size)
     refine hcall.mono ?_
     rintro e w' ⟨v9, h1, h2, h3⟩
     obtain ⟨k9, n9, a9, A9, p9, c9, B9, q9, d9, rfl, h4⟩ := RefV.of h2
     exact ⟨k9, n9, a9, A9, p9, c9, B9, q9, d9, h1, TmAt.mono (Nat.le_refl _) (Cut.to fun b _ q1 q2 => ⟨Nat.le_trans hx.size q1, q2, rfl⟩) h4, hx.trans (h3.mono hx.size)⟩
    have HS : Hid (∀ w', Below w2.heap.size w2 w' → (fun w' => w'.cell? ⟨w.heap.size, 0, none⟩ = some (.int .i64 k) ∧ w'.cell? ⟨w.heap.size, 1, none⟩ = some (.int .i64 n) ∧ w'.cell? ⟨w.heap.size, 2, none⟩ = some (.int .i64 a) ∧ w'.cell? ⟨w.heap.size, 3, none⟩ = some (.slice Al pl cl) ∧ w'.cell? ⟨w.heap.size, 4, none⟩ = some (.slice (some ⟨b, o, none⟩) pk ck) ∧ w'.cell? ⟨b, o + j * 5, none⟩ = some (.int .i64 k1) ∧ w'.cell? ⟨b, o + j * 5 + 1, none⟩ = some (.int .i64 n1) ∧ w'.cell? ⟨b, o + j * 5 + 2, none⟩ = some (.int .i64 a1) ∧ w'.cell? ⟨b, o + j * 5 + 3, none⟩ = some (.slice A1 p1 c1) ∧ w'.cell? ⟨b, o + j * 5 + 4, none⟩ = some (.slice A2 p2 c2)) w') := fun w' hx => by
     have hbx : Below w.heap.size w w' := HB2.out.trans (hx.mono (by omega))
     have e0 := (hx.cell (p := ⟨w.heap.size, 0, none⟩) (by show w.heap.size < _; omega)).trans (cell_of_row _ _ 0 _ _ (0, 0) X0.out)
     have e1 := (hx.cell (p := ⟨w.heap.size, 1, none⟩) (by show w.heap.size < _; omega)).trans (cell_of_row _ _ 1 _ _ (0, 0) X0.out)
     have e2 := (hx.cell (p := ⟨w.heap.size, 2, none⟩) (by show w.heap.size < _; omega)).trans (cell_of_row _ _ 2 _ _ (0, 0) X0.out)
     have e3 := (hx.cell (p := ⟨w.heap.size, 3, none⟩) (by show w.heap.size < _; omega)).trans (cell_of_row _ _ 3 _ _ (0, 0) X0.out)
     have e4 := (hx.cell (p := ⟨w.heap.size, 4, none⟩) (by show w.heap.size < _; omega)).trans (cell_of_row _ _ 4 _ _ (0, 0) X0.out)
     obtain ⟨v1, m1, m2, m3, m4, m5⟩ : w'.cell? ⟨b, o + j * 5, none⟩ = some (.int .i64 k1) ∧ w'.cell? ⟨b, o + j * 5 + 1, none⟩ = some (.int .i64 n1) ∧ w'.cell? ⟨b, o + j * 5 + 2, none⟩ = some (.int .i64 a1) ∧ w'.cell? ⟨b, o + j * 5 + 3, none⟩ = some (.slice A1 p1 c1) ∧ w'.cell? ⟨b, o + j * 5 + 4, none⟩ = some (.slice A2 p2 c2) ∧ True := by
      have hbb : b < wr.heap.size := by have := hbw.size; omega
      have hk : ∀ i, w'.cell? ⟨b, i, none⟩ = wr.cell? ⟨b, i, none⟩ := fun i => (hbx.cell (p := ⟨b, i, none⟩) hbB).trans (hbw.cell (p := ⟨b, i, none⟩) hbB).symm
      exact ⟨(hk _).trans d0, (hk _).trans d1, (hk _).trans d2, (hk _).trans d3, (hk _).trans d4, trivial⟩
     exact ⟨e0, e1, e2, e3, e4, v1, m1, m2, m3, m4⟩
    have HSR : Hid (∀ w', Below wr.heap.size wr w' → (fun w' => w'.cell? ⟨w.heap.size, 0, none⟩ = some (.int .i64 k) ∧ w'.cell? ⟨w.heap.size, 1, none⟩ = some (.int .i64 n) ∧ w'.cell? ⟨w.heap.size, 2, none⟩ = some (.int .i64 a) ∧ w'.cell? ⟨w.heap.size, 3, none⟩ = some (.slice Al pl cl) ∧ w'.cell? ⟨w.heap.size, 4, none⟩ = some (.slice (some ⟨b, o, none⟩) pk ck) ∧ w'.cell? ⟨b, o + j * 5, none⟩ = some (.int .i64 k1) ∧ w'.cell? ⟨b, o + j * 5 + 1, none⟩ = some (.int .i64 n1) ∧ w'.cell? ⟨b, o + j * 5 + 2, none⟩ = some (.int .i64 a1) ∧ w'.cell? ⟨b, o + j * 5 + 3, none⟩ = some (.slice A1 p1 c1) ∧ w'.cell? ⟨b, o + j * 5 + 4, none⟩ = some (.slice A2 p2 c2)) w') := fun w' hx => HS.out w' (HB.out.trans (hx.mono hbz))
    have HD : Hid (Below wr.heap.size wr wr.drew) := (Below.refl _ _).drew
    have ij0 : (0 : Int) ≤ (j : Int) := by omega
    have ij1 : (j : Int) < (pk : Int) := by omega
    have hnn : j ≤ 1048576 := by omega
    obtain ⟨s0, s1, s2, s3, s4, s5, s6, s7, s8, s9⟩ := HSR.out wr (Below.refl _ _)
    clear hb hrow hfl hu ht hv hm hund hbw d0 d1 d2 d3 d4 b4 hbB
    go_upto_region 7 with (fail)
    go_region_held3 (fun w' => w'.cell? ⟨w.heap.size, 0, none⟩ = some (.int .i64 k) ∧ w'.cell? ⟨w.heap.size, 1, none⟩ = some (.int .i64 n) ∧ w'.cell? ⟨w.heap.size, 2, none⟩ = some (.int .i64 a) ∧ w'.cell? ⟨w.heap.size, 3, none⟩ = some (.slice Al pl cl) ∧ w'.cell? ⟨w.heap.size, 4, none⟩ = some (.slice (some ⟨b, o, none⟩) pk ck) ∧ w'.cell? ⟨b, o + j * 5, none⟩ = some (.int .i64 k1) ∧ w'.cell? ⟨b, o + j * 5 + 1, none⟩ = some (.int .i64 n1) ∧ w'.cell? ⟨b, o + j * 5 + 2, none⟩ = some (.int .i64 a1) ∧ w'.cell? ⟨b, o + j * 5 + 3, none⟩ = some (.slice A1 p1 c1) ∧ w'.cell? ⟨b, o + j * 5 + 4, none⟩ = some (.slice A2 p2 c2))
     (first
       | exact HSR.out _ HD.out
       | (apply HSR.out; assumption)
       | (apply HSR.out; apply Below.alloc; assumption; apply Below.size; assumption)
       | (apply HS.out; exact (HB.out.trans ((Below.alloc hx2 hx2.size _).mono hbz)).grown hgrow (by have := hx2.size; simp; omega) (fun b e => (HR.out.lt b e).1)))
     (first
       | (go_at_call 55; refine (CB.out _ ?_).mono ?_; exact HD.out; rintro e wB ⟨rfl, hx1⟩)
       | (go_at_call 54; refine (CL.out _ ?_).mono ?_; exact hx1; rintro e wL ⟨k9, n9, a9, A9, p9, c9, B9, q9, d9, rfl, hl9, hx2⟩)
       | (refine step_append_lies _ (by rfl) _ _ 24 (by rfl) w2.heap.size 26 i0 (.agg #[.int .i64 0, .int .i64 0, .int .i64 0, .slice none 0 0, .slice none 0 0]) 5 72 Tryz.underlying24 hi hz0 hz1 hz2 rfl (by omega) (.slice Av nv cv) j ys (by rfl) (own_below (own_below HR.out hx2) ((Below.refl _ _).alloc (Nat.le_refl _) _)) ⟨wL.heap.size, 0, none⟩ 1 1 [.int .i64 k9, .int .i64 n9, .int .i64 a9, .slice A9 p9 c9, .slice B9 q9 d9] (by rfl) (by rfl) (World.news_of_block (cs := #[.int .i64 k9, .int .i64 n9, .int .i64 a9, .slice A9 p9 c9, .slice B9 q9 d9]) (t := 26) (fr := (0, 0)) (heap_alloc_new wL _)) (by simp [Value.oneCell']) (by omega) (by unfold maxLen; omega) (by omega) (by have := hx2.size; simp; omega) (wL.heap.size + 1) (by simp) ?_; intro gg cap w8 hown hgrow hat hlt8))
    have hxz := hx2.size
    have hx3 : Below wr.heap.size wr (wL.alloc (.cells #[.int .i64 k9, .int .i64 n9, .int .i64 a9, .slice A9 p9 c9, .slice B9 q9 d9] 26)) := hx2.alloc hxz _
    have HB8 : Hid (Below w2.heap.size w2 w8) := (HB.out.trans (hx3.mono hbz)).grown hgrow (by simp; omega) (fun b e => (HR.out.lt b e).1)
    have HR8 := Lib.hid hown
    have HF8 : Hid (TmF (Cut w2.heap.size (some gg) w8) w8.heap.size (us.take (j + 1)) (ys ++ [.int .i64 k9, .int .i64 n9, .int .i64 a9, .slice A9 p9 c9, .slice B9 q9 d9])) := by
     rw [take_snoc_2 HU.out]
     refine HFL.out.more (TmAt.mono (by simp) (Cut.to fun b h1 h2 h3 => ⟨h2, h3, ?_⟩) hl9) hbz hx3 hgrow (fun b e => (HR.out.lt b e).2) (hat.elim (fun e => Or.inl e.symm) (fun e => Or.inr (by rw [e]; simp)))
     exact ((Below.refl wL.heap.size wL).alloc (Nat.le_refl _) _).block b h1
    clear hown hgrow hat hl9 hx1 hx2 hx3 HFL HR HB s0 s1 s2 s3 s4 s5 s6 s7 s8 s9
    go_wp2
    go_roundw
    case rel => exact ⟨j + 1, _, by omega, by go_num, HB8.out, HR8.out, HF8.out⟩
    case measure => simp [intOf]; omega
   ·have ej : j = pk := by omega
    subst ej
    have hq : us.take j = us := List.take_of_length_le (by rw [HUL.out]; omega)
    rw [hq] at hfl
    obtain ⟨em, htm⟩ := TmF.row hrow HUL.out (TmF.mono (Nat.le_refl _) (Cut.to fun b _ h2 _ => ⟨h2, by simp, rfl⟩) hfl)
    subst em
    have hbw : Below w.heap.size w wr := HB2.out.trans (hb.mono (by omega))
    have HW := Lib.hid (rwith_any k n a lv Al pl cl (.slice Ak nv ck) Av nv cv wr HPL.out (by have := HP6.out.1; have := HPL.out; omega) HP6.out.2 ((HLV.out.below hbw).more hbw.size))
    have x0 := (hb.block w.heap.size (by omega)).trans X0.out
    have x1 := (hb.block (w.heap.size + 1) (by omega)).trans X1.out
    have z0 := cell_of_row _ _ 0 _ _ (0, 0) x0
    have z1 := cell_of_row _ _ 1 _ _ (0, 0) x0
    have z2 := cell_of_row _ _ 2 _ _ (0, 0) x0
    have z3 := cell_of_row _ _ 3 _ _ (0, 0) x0
    have z4 := cell_of_row _ _ 4 _ _ (0, 0) x0
    have X1R := Lib.hid x1
    have HTM := Lib.hid htm
    have HBW := Lib.hid hbw
    clear hb hrow hfl hq htm hbw x0 x1 HR HFL HB b4 c4 X0 X1
    go_wp2_with (fail)
    refine HW.out.mono ?_
    rintro e w3 ⟨A3, c3, rfl, hc3, hlv, hb3⟩
    have hs3 := hb3.size
    have q4 := (hb3.block (w.heap.size + 1) (by omega)).trans X1R.out
    have s0 := cell_of_row _ _ 0 _ _ (0, 0) q4
    have s1 := cell_of_row _ _ 1 _ _ (0, 0) q4
    have s2 := cell_of_row _ _ 2 _ _ (0, 0) q4
    have s3 := cell_of_row _ _ 3 _ _ (0, 0) q4
    have s4 := cell_of_row _ _ 4 _ _ (0, 0) q4
    have t0 := thawed q4 0
    have t1 := thawed q4 1
    have t2 := thawed q4 2
    have t3 := thawed q4 3
    have t4 := thawed q4 4
    obtain ⟨g9, s9, cur9, h9, _, hc9⟩ := store5_post q4 (o := 0) (by simp) (.int .i64 k) (.int .i64 n) (.int .i64 a) (.slice A3 pl c3) (.slice Av nv cv)
    have u0 := row_cell h9 hc9.1
    have u1 := row_cell h9 hc9.2.1
    have u2 := row_cell h9 hc9.2.2.1
    have u3 := row_cell h9 hc9.2.2.2.1
    have u4 := row_cell h9 hc9.2.2.2.2
    obtain ⟨w5, hw5⟩ : ∃ x, store5 w3 (w.heap.size + 1) 0 (.int .i64 k) (.int .i64 n) (.int .i64 a) (.slice A3 pl c3) (.slice Av nv cv) = x := ⟨_, rfl⟩
    have HFIN : Hid (RefP w ((Tm.mk k n a lv kids).walk (liftT m f) d) (.returned (.agg #[.int .i64 k, .int .i64 n, .int .i64 a, .slice A3 pl c3, .slice Av nv cv])) w5) := by
     rw [hw5] at g9 s9
     refine ⟨_, rfl, ?_, (HBW.out.trans (hb3.mono HBW.out.size)).grown g9 (by omega) (fun b e => by injection e with e; omega)⟩
     rw [HWK.out]
     have hl2 := Levs.mono (B' := w5.heap.size) hlv (by omega) (Cut.to (lo' := w.heap.size) (r' := none) (w' := w5) fun b h1 h2 _ => ⟨by omega, by simp, g9.block b (by omega) (by intro e; injection e with e; omega)⟩)
     have ht2 := Tms.mono (B' := w5.heap.size) HTM.out (by omega) (Cut.to (lo' := w.heap.size) (r' := none) (w' := w5) fun b h1 h2 _ => ⟨by omega, by simp, (g9.block b (by omega) (by intro e; injection e with e; omega)).trans (hb3.block b h1)⟩)
     have h := TmAt.make (k := k) (n := n) (a := a) hc3 hl2 ht2
     rwa [HPL.out, HUL.out] at h
    unfold store5 at hw5 u0 u1 u2 u3 u4
    clear g9 s9 h9 hc9 q4 hb3 hlv hc3 HW z0 z1 z2 z3 z4
    go_wp2
    rw [hw5] at u0 u1 u2 u3 u4
    exact bodyPost_ret (v := .agg #[.int .i64 k, .int .i64 n, .int .i64 a, .slice A3 pl c3, .slice Av nv cv]) (by simp [results, Tryz.results54, go_sem, u0, u1, u2, u3, u4]) rfl HFIN.out
 obtain ⟨n', hn'⟩ : ∃ x, IntKind.i64.wrap (n + m) = x := ⟨_, rfl⟩
 have HWK : Hid ((Tm.mk k n a lv kids).walk (liftT m f) d = .mk k n' a lv us) := HWK0 n' (by unfold liftN outer; rw [if_pos (by simp; omega)]; exact hn')
 have r1 := thawed x0 1
 have e2 := set_same x0 1 (.int .i64 n')
 obtain ⟨w2, hw2⟩ : ∃ x, w1.setCell ⟨w.heap.size, 1, none⟩ (.int .i64 n') = x := ⟨_, rfl⟩
 have hg2 : w1.grownBy w2 (some w.heap.size) := by rw [← hw2]; exact setCell_grown _ _ _ _
 have HS2 : Hid (w2.heap.size = w.heap.size + 2) := by rw [← hw2]; simp [World.setCell]; exact hs1
 rw [hw2] at e2
 have q2 := (hg2.block (w.heap.size + 1) (by omega) (by simp)).trans x1
 have HB2 : Hid (Below w.heap.size w w2) := hb1.grown hg2 (by omega) (fun b e => by injection e with e; omega)
 clear x0 x1
 have x0 : w2.heap[w.heap.size]? = some (.cells #[.int .i64 k, .int .i64 n', .int .i64 a, .slice Al pl cl, .slice Ak pk ck] 26 (0, 0)) := e2
 have x1 := q2
 clear e2 q2 hg2 hb1 hs1 HWK0 hk1
 go_enter Tryz.func54, Tryz.ntmps54
 have hs2 : w2.heap.size = w.heap.size + 2 := HS2.out
 have X0 := Lib.hid x0
 have X1 := Lib.hid x1
 have c4 := cell_of_row _ _ 4 _ _ (0, 0) x0
 clear x0 x1
 go_wp2
 go_loopw [9, 10] (fun lv i wr => ∃ (j : Nat) (ys : List Value), j ≤ pk ∧ i = .int .i64 (j : Int) ∧ Below w2.heap.size w2 wr ∧ wr.ownsRow w2.heap.size 26 5 lv j ys ∧ TmF (Cut w2.heap.size lv.ownBlock wr) wr.heap.size (us.take j) ys) (fun _ i _ => pk - (intOf i).toNat)
 case atStart => exact ⟨0, [], Nat.zero_le _, rfl, Below.refl _ _, own_nil _ _ _ _, by rw [List.take_zero]; rfl⟩
 case round =>
  obtain ⟨j, ys, hj, rfl, hb, hrow, hfl⟩ := hrel
  obtain ⟨Av, nv, cv, rfl⟩ := own_slice hrow
  have hbz := hb.size
  have b4 := (hb.cell (p := ⟨w.heap.size, 4, none⟩) (by show w.heap.size < _; omega)).trans c4
  have HB := Lib.hid hb
  have HR := Lib.hid hrow
  have HFL := Lib.hid hfl
  by_cases hlt : j < pk
  ·obtain ⟨t, ht⟩ : ∃ t, kids[j]? = some t := ⟨_, List.getElem?_eq_getElem (by rw [HPK.out]; exact hlt)⟩
   have hbw : Below w.heap.size w wr := HB2.out.trans (hb.mono (by omega))
   obtain ⟨b, o, k1, n1, a1, A1, p1, c1, A2, p2, c2, e, hbB, hv, d0, d1, d2, d3, d4⟩ := HKI.out.at hbw ht
   subst e
   obtain ⟨u, hu⟩ : ∃ u, us[j]? = some u := ⟨_, List.getElem?_eq_getElem (by rw [HUL.out]; exact hlt)⟩
   have HU := Lib.hid hu
   have hsz := HSZ.out
   have hm := Tm.sizeL_mem (List.mem_of_getElem? ht)
   have hund : under k j ≤ 1 := by unfold under; split <;> omega
   have CB : Hid (∀ wq, Below wr.heap.size wr wq → Calls Tryz.prog 55 #[.agg #[.int .i64 k, .int .i64 n', .int .i64 a, .slice Al pl cl, .slice (some ⟨b, o, none⟩) pk ck], .int .i64 (j : Int), .int .i64 (d : Int)] wq (fun e w' => e = .returned (.int .i64 ((d + under k j : Nat) : Int)) ∧ Below wr.heap.size wr w')) := fun wq hx => (rbelow_any k _ a _ _ j d wq (by omega)).mono fun _ _ h => ⟨h.1, hx.trans (h.2.mono hx.size)⟩
   have CL : Hid (∀ wq, Below wr.heap.size wr wq → Calls Tryz.prog 54 #[.agg #[.int .i64 k1, .int .i64 n1, .int .i64 a1, .slice A1 p1 c1, .slice A2 p2 c2], .int .i64 m, .int .i64 f, .int .i64 ((d + under k j : Nat) : Int)] wq (fun e w' => ∃ (k9 n9 a9 : Int) (A9 : Option Addr) (p9 c9 : Nat) (B9 : Option Addr) (q9 d9 : Nat), e = .returned (.agg #[.int .i64 k9, .int .i64 n9, .int .i64 a9, .slice A9 p9 c9, .slice B9 q9 d9]) ∧ TmAt (Cut wr.heap.size none w') w'.heap.size u (.agg #[.int .i64 k9, .int .i64 n9, .int .i64 a9, .slice A9 p9 c9, .slice B9 q9 d9]) ∧ Below wr.heap.size wr w')) := fun wq hx => by
    have hxw : Below w.heap.size w wq := hbw.trans (hx.mono hbw.size)
    have hue : u = t.walk (liftT m f) (d + under k j) := by
     have h := HUS.out j
     rw [hu, ht] at h
     injection h
    have hcall : Calls Tryz.prog 54 #[.agg #[.int .i64 k1, .int .i64 n1, .int .i64 a1, .slice A1 p1 c1, .slice A2 p2 c2], .int .i64 m, .int .i64 f, .int .i64 ((d + under k j : Nat) : Int)] wq (RefP wq u) := by
     rw [hue]
     exact IH.out t (List.mem_of_getElem? ht) m f (d + under k j) _ wq (HFK.out t (List.mem_of_getElem? ht)) (by omega) (hv.below hxw hxw.size)
    refine hcall.mono ?_
    rintro e w' ⟨v9, h1, h2, h3⟩
    obtain ⟨k9, n9, a9, A9, p9, c9, B9, q9, d9, rfl, h4⟩ := RefV.of h2
    exact ⟨k9, n9, a9, A9, p9, c9, B9, q9, d9, h1, TmAt.mono (Nat.le_refl _) (Cut.to fun b _ q1 q2 => ⟨Nat.le_trans hx.size q1, q2, rfl⟩) h4, hx.trans (h3.mono hx.size)⟩
   have HS : Hid (∀ w', Below w2.heap.size w2 w' → (fun w' => w'.cell? ⟨w.heap.size, 0, none⟩ = some (.int .i64 k) ∧ w'.cell? ⟨w.heap.size, 1, none⟩ = some (.int .i64 n') ∧ w'.cell? ⟨w.heap.size, 2, none⟩ = some (.int .i64 a) ∧ w'.cell? ⟨w.heap.size, 3, none⟩ = some (.slice Al pl cl) ∧ w'.cell? ⟨w.heap.size, 4, none⟩ = some (.slice (some ⟨b, o, none⟩) pk ck) ∧ w'.cell? ⟨b, o + j * 5, none⟩ = some (.int .i64 k1) ∧ w'.cell? ⟨b, o + j * 5 + 1, none⟩ = some (.int .i64 n1) ∧ w'.cell? ⟨b, o + j * 5 + 2, none⟩ = some (.int .i64 a1) ∧ w'.cell? ⟨b, o + j * 5 + 3, none⟩ = some (.slice A1 p1 c1) ∧ w'.cell? ⟨b, o + j * 5 + 4, none⟩ = some (.slice A2 p2 c2)) w') := fun w' hx => by
    have hbx : Below w.heap.size w w' := HB2.out.trans (hx.mono (by omega))
    have e0 := (hx.cell (p := ⟨w.heap.size, 0, none⟩) (by show w.heap.size < _; omega)).trans (cell_of_row _ _ 0 _ _ (0, 0) X0.out)
    have e1 := (hx.cell (p := ⟨w.heap.size, 1, none⟩) (by show w.heap.size < _; omega)).trans (cell_of_row _ _ 1 _ _ (0, 0) X0.out)
    have e2 := (hx.cell (p := ⟨w.heap.size, 2, none⟩) (by show w.heap.size < _; omega)).trans (cell_of_row _ _ 2 _ _ (0, 0) X0.out)
    have e3 := (hx.cell (p := ⟨w.heap.size, 3, none⟩) (by show w.heap.size < _; omega)).trans (cell_of_row _ _ 3 _ _ (0, 0) X0.out)
    have e4 := (hx.cell (p := ⟨w.heap.size, 4, none⟩) (by show w.heap.size < _; omega)).trans (cell_of_row _ _ 4 _ _ (0, 0) X0.out)
    obtain ⟨v1, m1, m2, m3, m4, m5⟩ : w'.cell? ⟨b, o + j * 5, none⟩ = some (.int .i64 k1) ∧ w'.cell? ⟨b, o + j * 5 + 1, none⟩ = some (.int .i64 n1) ∧ w'.cell? ⟨b, o + j * 5 + 2, none⟩ = some (.int .i64 a1) ∧ w'.cell? ⟨b, o + j * 5 + 3, none⟩ = some (.slice A1 p1 c1) ∧ w'.cell? ⟨b, o + j * 5 + 4, none⟩ = some (.slice A2 p2 c2) ∧ True := by
     have hbb : b < wr.heap.size := by have := hbw.size; omega
     have hk : ∀ i, w'.cell? ⟨b, i, none⟩ = wr.cell? ⟨b, i, none⟩ := fun i => (hbx.cell (p := ⟨b, i, none⟩) hbB).trans (hbw.cell (p := ⟨b, i, none⟩) hbB).symm
     exact ⟨(hk _).trans d0, (hk _).trans d1, (hk _).trans d2, (hk _).trans d3, (hk _).trans d4, trivial⟩
    exact ⟨e0, e1, e2, e3, e4, v1, m1, m2, m3, m4⟩
   have HSR : Hid (∀ w', Below wr.heap.size wr w' → (fun w' => w'.cell? ⟨w.heap.size, 0, none⟩ = some (.int .i64 k) ∧ w'.cell? ⟨w.heap.size, 1, none⟩ = some (.int .i64 n') ∧ w'.cell? ⟨w.heap.size, 2, none⟩ = some (.int .i64 a) ∧ w'.cell? ⟨w.heap.size, 3, none⟩ = some (.slice Al pl cl) ∧ w'.cell? ⟨w.heap.size, 4, none⟩ = some (.slice (some ⟨b, o, none⟩) pk ck) ∧ w'.cell? ⟨b, o + j * 5, none⟩ = some (.int .i64 k1) ∧ w'.cell? ⟨b, o + j * 5 + 1, none⟩ = some (.int .i64 n1) ∧ w'.cell? ⟨b, o + j * 5 + 2, none⟩ = some (.int .i64 a1) ∧ w'.cell? ⟨b, o + j * 5 + 3, none⟩ = some (.slice A1 p1 c1) ∧ w'.cell? ⟨b, o + j * 5 + 4, none⟩ = some (.slice A2 p2 c2)) w') := fun w' hx => HS.out w' (HB.out.trans (hx.mono hbz))
   have HD : Hid (Below wr.heap.size wr wr.drew) := (Below.refl _ _).drew
   have ij0 : (0 : Int) ≤ (j : Int) := by omega
   have ij1 : (j : Int) < (pk : Int) := by omega
   have hnn : j ≤ 1048576 := by omega
   obtain ⟨s0, s1, s2, s3, s4, s5, s6, s7, s8, s9⟩ := HSR.out wr (Below.refl _ _)
   clear hb hrow hfl hu ht hv hm hund hbw d0 d1 d2 d3 d4 b4 hbB
   go_upto_region 7 with (fail)
   go_region_held3 (fun w' => w'.cell? ⟨w.heap.size, 0, none⟩ = some (.int .i64 k) ∧ w'.cell? ⟨w.heap.size, 1, none⟩ = some (.int .i64 n') ∧ w'.cell? ⟨w.heap.size, 2, none⟩ = some (.int .i64 a) ∧ w'.cell? ⟨w.heap.size, 3, none⟩ = some (.slice Al pl cl) ∧ w'.cell? ⟨w.heap.size, 4, none⟩ = some (.slice (some ⟨b, o, none⟩) pk ck) ∧ w'.cell? ⟨b, o + j * 5, none⟩ = some (.int .i64 k1) ∧ w'.cell? ⟨b, o + j * 5 + 1, none⟩ = some (.int .i64 n1) ∧ w'.cell? ⟨b, o + j * 5 + 2, none⟩ = some (.int .i64 a1) ∧ w'.cell? ⟨b, o + j * 5 + 3, none⟩ = some (.slice A1 p1 c1) ∧ w'.cell? ⟨b, o + j * 5 + 4, none⟩ = some (.slice A2 p2 c2))
    (first
      | exact HSR.out _ HD.out
      | (apply HSR.out; assumption)
      | (apply HSR.out; apply Below.alloc; assumption; apply Below.size; assumption)
      | (apply HS.out; exact (HB.out.trans ((Below.alloc hx2 hx2.size _).mono hbz)).grown hgrow (by have := hx2.size; simp; omega) (fun b e => (HR.out.lt b e).1)))
    (first
      | (go_at_call 55; refine (CB.out _ ?_).mono ?_; exact HD.out; rintro e wB ⟨rfl, hx1⟩)
      | (go_at_call 54; refine (CL.out _ ?_).mono ?_; exact hx1; rintro e wL ⟨k9, n9, a9, A9, p9, c9, B9, q9, d9, rfl, hl9, hx2⟩)
      | (refine step_append_lies _ (by rfl) _ _ 24 (by rfl) w2.heap.size 26 i0 (.agg #[.int .i64 0, .int .i64 0, .int .i64 0, .slice none 0 0, .slice none 0 0]) 5 72 Tryz.underlying24 hi hz0 hz1 hz2 rfl (by omega) (.slice Av nv cv) j ys (by rfl) (own_below (own_below HR.out hx2) ((Below.refl _ _).alloc (Nat.le_refl _) _)) ⟨wL.heap.size, 0, none⟩ 1 1 [.int .i64 k9, .int .i64 n9, .int .i64 a9, .slice A9 p9 c9, .slice B9 q9 d9] (by rfl) (by rfl) (World.news_of_block (cs := #[.int .i64 k9, .int .i64 n9, .int .i64 a9, .slice A9 p9 c9, .slice B9 q9 d9]) (t := 26) (fr := (0, 0)) (heap_alloc_new wL _)) (by simp [Value.oneCell']) (by omega) (by unfold maxLen; omega) (by omega) (by have := hx2.size; simp; omega) (wL.heap.size + 1) (by simp) ?_; intro gg cap w8 hown hgrow hat hlt8))
   have hxz := hx2.size
   have hx3 : Below wr.heap.size wr (wL.alloc (.cells #[.int .i64 k9, .int .i64 n9, .int .i64 a9, .slice A9 p9 c9, .slice B9 q9 d9] 26)) := hx2.alloc hxz _
   have HB8 : Hid (Below w2.heap.size w2 w8) := (HB.out.trans (hx3.mono hbz)).grown hgrow (by simp; omega) (fun b e => (HR.out.lt b e).1)
   have HR8 := Lib.hid hown
   have HF8 : Hid (TmF (Cut w2.heap.size (some gg) w8) w8.heap.size (us.take (j + 1)) (ys ++ [.int .i64 k9, .int .i64 n9, .int .i64 a9, .slice A9 p9 c9, .slice B9 q9 d9])) := by
    rw [take_snoc_2 HU.out]
    refine HFL.out.more (TmAt.mono (by simp) (Cut.to fun b h1 h2 h3 => ⟨h2, h3, ?_⟩) hl9) hbz hx3 hgrow (fun b e => (HR.out.lt b e).2) (hat.elim (fun e => Or.inl e.symm) (fun e => Or.inr (by rw [e]; simp)))
    exact ((Below.refl wL.heap.size wL).alloc (Nat.le_refl _) _).block b h1
   clear hown hgrow hat hl9 hx1 hx2 hx3 HFL HR HB s0 s1 s2 s3 s4 s5 s6 s7 s8 s9
   go_wp2
   go_roundw
   case rel => exact ⟨j + 1, _, by omega, by go_num, HB8.out, HR8.out, HF8.out⟩
   case measure => simp [intOf]; omega
  ·have ej : j = pk := by omega
   subst ej
   have hq : us.take j = us := List.take_of_length_le (by rw [HUL.out]; omega)
   rw [hq] at hfl
   obtain ⟨em, htm⟩ := TmF.row hrow HUL.out (TmF.mono (Nat.le_refl _) (Cut.to fun b _ h2 _ => ⟨h2, by simp, rfl⟩) hfl)
   subst em
   have hbw : Below w.heap.size w wr := HB2.out.trans (hb.mono (by omega))
   have HW := Lib.hid (rwith_any k n' a lv Al pl cl (.slice Ak nv ck) Av nv cv wr HPL.out (by have := HP6.out.1; have := HPL.out; omega) HP6.out.2 ((HLV.out.below hbw).more hbw.size))
   have x0 := (hb.block w.heap.size (by omega)).trans X0.out
   have x1 := (hb.block (w.heap.size + 1) (by omega)).trans X1.out
   have z0 := cell_of_row _ _ 0 _ _ (0, 0) x0
   have z1 := cell_of_row _ _ 1 _ _ (0, 0) x0
   have z2 := cell_of_row _ _ 2 _ _ (0, 0) x0
   have z3 := cell_of_row _ _ 3 _ _ (0, 0) x0
   have z4 := cell_of_row _ _ 4 _ _ (0, 0) x0
   have X1R := Lib.hid x1
   have HTM := Lib.hid htm
   have HBW := Lib.hid hbw
   clear hb hrow hfl hq htm hbw x0 x1 HR HFL HB b4 c4 X0 X1
   go_wp2_with (fail)
   refine HW.out.mono ?_
   rintro e w3 ⟨A3, c3, rfl, hc3, hlv, hb3⟩
   have hs3 := hb3.size
   have q4 := (hb3.block (w.heap.size + 1) (by omega)).trans X1R.out
   have s0 := cell_of_row _ _ 0 _ _ (0, 0) q4
   have s1 := cell_of_row _ _ 1 _ _ (0, 0) q4
   have s2 := cell_of_row _ _ 2 _ _ (0, 0) q4
   have s3 := cell_of_row _ _ 3 _ _ (0, 0) q4
   have s4 := cell_of_row _ _ 4 _ _ (0, 0) q4
   have t0 := thawed q4 0
   have t1 := thawed q4 1
   have t2 := thawed q4 2
   have t3 := thawed q4 3
   have t4 := thawed q4 4
   obtain ⟨g9, s9, cur9, h9, _, hc9⟩ := store5_post q4 (o := 0) (by simp) (.int .i64 k) (.int .i64 n') (.int .i64 a) (.slice A3 pl c3) (.slice Av nv cv)
   have u0 := row_cell h9 hc9.1
   have u1 := row_cell h9 hc9.2.1
   have u2 := row_cell h9 hc9.2.2.1
   have u3 := row_cell h9 hc9.2.2.2.1
   have u4 := row_cell h9 hc9.2.2.2.2
   obtain ⟨w5, hw5⟩ : ∃ x, store5 w3 (w.heap.size + 1) 0 (.int .i64 k) (.int .i64 n') (.int .i64 a) (.slice A3 pl c3) (.slice Av nv cv) = x := ⟨_, rfl⟩
   have HFIN : Hid (RefP w ((Tm.mk k n a lv kids).walk (liftT m f) d) (.returned (.agg #[.int .i64 k, .int .i64 n', .int .i64 a, .slice A3 pl c3, .slice Av nv cv])) w5) := by
    rw [hw5] at g9 s9
    refine ⟨_, rfl, ?_, (HBW.out.trans (hb3.mono HBW.out.size)).grown g9 (by omega) (fun b e => by injection e with e; omega)⟩
    rw [HWK.out]
    have hl2 := Levs.mono (B' := w5.heap.size) hlv (by omega) (Cut.to (lo' := w.heap.size) (r' := none) (w' := w5) fun b h1 h2 _ => ⟨by omega, by simp, g9.block b (by omega) (by intro e; injection e with e; omega)⟩)
    have ht2 := Tms.mono (B' := w5.heap.size) HTM.out (by omega) (Cut.to (lo' := w.heap.size) (r' := none) (w' := w5) fun b h1 h2 _ => ⟨by omega, by simp, (g9.block b (by omega) (by intro e; injection e with e; omega)).trans (hb3.block b h1)⟩)
    have h := TmAt.make (k := k) (n := n') (a := a) hc3 hl2 ht2
    rwa [HPL.out, HUL.out] at h
   unfold store5 at hw5 u0 u1 u2 u3 u4
   clear g9 s9 h9 hc9 q4 hb3 hlv hc3 HW z0 z1 z2 z3 z4
   go_wp2
   rw [hw5] at u0 u1 u2 u3 u4
   exact bodyPost_ret (v := .agg #[.int .i64 k, .int .i64 n', .int .i64 a, .slice A3 pl c3, .slice Av nv cv]) (by simp [results, Tryz.results54, go_sem, u0, u1, u2, u3, u4]) rfl HFIN.out
theorem rlift_any : ∀ t : Tm, RLift t := by
 intro t
 induction t using Tm.ind with
 | h k n a lv kids ih => exact rlift_of2 k n a lv kids ih
def RPut (by' : List Tm) (t : Tm) : Prop := ∀ (Ab : Option Addr) (nb cb d : Nat) (v : Value) (w : World), t.fit → d + t.size ≤ 1073741824 → TmAt w w.heap.size t v → by'.length = nb → nb ≤ 1048576 → Tms w w.heap.size Ab cb by' → (∀ b ∈ by', b.fit ∧ b.size ≤ 1073741824) → Calls Tryz.prog 39 #[v, .slice Ab nb cb, .int .i64 (d : Int)] w (RefP w (t.walk (putT by') d))
set_option maxHeartbeats 8000000 in
theorem rput_of2 (by' : List Tm) (k n a : Int) (lv : List (List (Int × Int))) (kids : List Tm) (ih : ∀ t ∈ kids, RPut by' t) : RPut by' (.mk k n a lv kids) := by
 intro Ab nb cb d v w hf hd hv hnb hnb6 hby hbf
 obtain ⟨i0, hi, hz0, hz1, hz2⟩ := info_parts infoTm
 obtain ⟨Al, cl, Ak, ck, rfl, h2, h3, h4⟩ := hv.open
 have hf' := hf
 rw [Tm.fit_mk] at hf'
 have hd' := hd
 rw [Tm.size_mk] at hd'
 obtain ⟨us, hus⟩ : ∃ us, Tm.walkL (putT by') d k 0 kids = us := ⟨_, rfl⟩
 have HUS : Hid (∀ j : Nat, us[j]? = kids[j]?.map fun (t : Tm) => t.walk (putT by') (d + under k j)) := fun j => by
  rw [← hus, Tm.walkL_get, Nat.zero_add]
 have hul : us.length = kids.length := by rw [← hus]; exact Tm.walkL_length _ _ _ _ _
 obtain ⟨pl, hpl⟩ : ∃ p, lv.length = p := ⟨_, rfl⟩
 obtain ⟨pk, hpk⟩ : ∃ p, kids.length = p := ⟨_, rfl⟩
 rw [hpk] at hul
 rw [hpl, hpk]
 obtain ⟨w1, hw1⟩ : ∃ x, (w.alloc (.cells #[.int .i64 k, .int .i64 n, .int .i64 a, .slice Al pl cl, .slice Ak pk ck] 26)).alloc (.cells #[.int .i64 0, .int .i64 0, .int .i64 0, .slice none 0 0, .slice none 0 0] 26) = x := ⟨_, rfl⟩
 obtain ⟨x0, x1, _⟩ := two_allocs w (.cells #[.int .i64 k, .int .i64 n, .int .i64 a, .slice Al pl cl, .slice Ak pk ck] 26) (.cells #[.int .i64 0, .int .i64 0, .int .i64 0, .slice none 0 0, .slice none 0 0] 26)
 have hb1 : Below w.heap.size w w1 := by rw [← hw1]; exact ((Below.refl _ _).alloc (Nat.le_refl _) _).alloc (by simp) _
 rw [hw1] at x0 x1
 have hs1 : w1.heap.size = w.heap.size + 2 := by rw [← hw1]; simp
 have hpk6 : pk ≤ 1048576 := by have := hf'.2.2.1; omega
 have HPL := Lib.hid hpl
 have HPK := Lib.hid hpk
 have HUL := Lib.hid hul
 have HLV := Lib.hid h3
 have HKI := Lib.hid h4
 have HP6 := Lib.hid hf'.2.1
 have HSZ := Lib.hid hd'
 have HRN := Lib.hid hf'.1
 have HFK := Lib.hid ((Tm.fitL_iff kids).1 hf'.2.2.2)
 have IH := Lib.hid ih
 have g0 := cell_of_row _ _ 0 _ _ (0, 0) x0
 have g1 := cell_of_row _ _ 1 _ _ (0, 0) x0
 have HWK0 : ∀ n', putT by' d k n lv = .go n' lv → (Tm.mk k n a lv kids).walk (putT by') d = .mk k n' a lv us := fun n' h => by
  rw [Tm.walk_go (tr := putT by') (n' := n') (lv' := lv) h, hus]
 have HNB := Lib.hid hnb
 have HBY := Lib.hid hby
 have HBF := Lib.hid hbf
 have hrn := hf'.1
 unfold Rng at hrn
 have hd30 : d ≤ 1073741824 := by omega
 clear hv h2 h3 h4 hf hf' hd hd' hpl hpk hul hus ih hby hbf
 have hd0 : (0 : Int) ≤ (d : Int) := by omega
 have ws : 0 ≤ n → IntKind.i64.wrap (n - (d : Int)) = n - (d : Int) := fun h => IntWalk.i64_in _ (by omega)
 by_cases hk1 : k = 1
 rotate_left
 ·have hno : ¬ (k = 1 ∧ (d : Int) ≤ n ∧ 0 ≤ n - (d : Int)) := by omega
  have HWK : Hid ((Tm.mk k n a lv kids).walk (putT by') d = .mk k n a lv us) := HWK0 n (by unfold putT outer; rw [if_neg (by simpa using hno)])
  have hk2 : (k == 1) = false := by simp; exact hk1
  clear ws hk1 hnb
  obtain ⟨w2, hw2⟩ : ∃ x, x = w1 := ⟨_, rfl⟩
  have HS2 : Hid (w2.heap.size = w.heap.size + 2) := by rw [hw2]; exact hs1
  have HB2 : Hid (Below w.heap.size w w2) := by rw [hw2]; exact hb1
  rw [← hw2] at x0 x1 hw1 g0 g1
  clear hw2 hb1 hs1 hno HWK0
  go_enter Tryz.func39, Tryz.ntmps39
  have hs2 : w2.heap.size = w.heap.size + 2 := HS2.out
  have X0 := Lib.hid x0
  have X1 := Lib.hid x1
  have c4 := cell_of_row _ _ 4 _ _ (0, 0) x0
  clear x0 x1
  go_wp2
  go_loopw [9, 10] (fun lv i wr => ∃ (j : Nat) (ys : List Value), j ≤ pk ∧ i = .int .i64 (j : Int) ∧ Below w2.heap.size w2 wr ∧ wr.ownsRow w2.heap.size 26 5 lv j ys ∧ TmF (Cut w2.heap.size lv.ownBlock wr) wr.heap.size (us.take j) ys) (fun _ i _ => pk - (intOf i).toNat)
  case atStart => exact ⟨0, [], Nat.zero_le _, rfl, Below.refl _ _, own_nil _ _ _ _, by rw [List.take_zero]; rfl⟩
  case round =>
   obtain ⟨j, ys, hj, rfl, hb, hrow, hfl⟩ := hrel
   obtain ⟨Av, nv, cv, rfl⟩ := own_slice hrow
   have hbz := hb.size
   have b4 := (hb.cell (p := ⟨w.heap.size, 4, none⟩) (by show w.heap.size < _; omega)).trans c4
   have HB := Lib.hid hb
   have HR := Lib.hid hrow
   have HFL := Lib.hid hfl
   by_cases hlt : j < pk
   ·obtain ⟨t, ht⟩ : ∃ t, kids[j]? = some t := ⟨_, List.getElem?_eq_getElem (by rw [HPK.out]; exact hlt)⟩
    have hbw : Below w.heap.size w wr := HB2.out.trans (hb.mono (by omega))
    obtain ⟨b, o, k1, n1, a1, A1, p1, c1, A2, p2, c2, e, hbB, hv, d0, d1, d2, d3, d4⟩ := HKI.out.at hbw ht
    subst e
    obtain ⟨u, hu⟩ : ∃ u, us[j]? = some u := ⟨_, List.getElem?_eq_getElem (by rw [HUL.out]; exact hlt)⟩
    have HU := Lib.hid hu
    have hsz := HSZ.out
    have hm := Tm.sizeL_mem (List.mem_of_getElem? ht)
    have hund : under k j ≤ 1 := by unfold under; split <;> omega
    have CB : Hid (∀ wq, Below wr.heap.size wr wq → Calls Tryz.prog 55 #[.agg #[.int .i64 k, .int .i64 n, .int .i64 a, .slice Al pl cl, .slice (some ⟨b, o, none⟩) pk ck], .int .i64 (j : Int), .int .i64 (d : Int)] wq (fun e w' => e = .returned (.int .i64 ((d + under k j : Nat) : Int)) ∧ Below wr.heap.size wr w')) := fun wq hx => (rbelow_any k _ a _ _ j d wq (by omega)).mono fun _ _ h => ⟨h.1, hx.trans (h.2.mono hx.size)⟩
    have CL : Hid (∀ wq, Below wr.heap.size wr wq → Calls Tryz.prog 39 #[.agg #[.int .i64 k1, .int .i64 n1, .int .i64 a1, .slice A1 p1 c1, .slice A2 p2 c2], .slice Ab nb cb, .int .i64 ((d + under k j : Nat) : Int)] wq (fun e w' => ∃ (k9 n9 a9 : Int) (A9 : Option Addr) (p9 c9 : Nat) (B9 : Option Addr) (q9 d9 : Nat), e = .returned (.agg #[.int .i64 k9, .int .i64 n9, .int .i64 a9, .slice A9 p9 c9, .slice B9 q9 d9]) ∧ TmAt (Cut wr.heap.size none w') w'.heap.size u (.agg #[.int .i64 k9, .int .i64 n9, .int .i64 a9, .slice A9 p9 c9, .slice B9 q9 d9]) ∧ Below wr.heap.size wr w')) := fun wq hx => by
     have hxw : Below w.heap.size w wq := hbw.trans (hx.mono hbw.size)
     have hue : u = t.walk (putT by') (d + under k j) := by
      have h := HUS.out j
      rw [hu, ht] at h
      injection h
     have hcall : Calls Tryz.prog 39 #[.agg #[.int .i64 k1, .int .i64 n1, .int .i64 a1, .slice A1 p1 c1, .slice A2 p2 c2], .slice Ab nb cb, .int .i64 ((d + under k j : Nat) : Int)] wq (RefP wq u) := by
      rw [hue]
      exact IH.out t (List.mem_of_getElem? ht) Ab nb cb (d + under k j) _ wq (HFK.out t (List.mem_of_getElem? ht)) (by omega) (hv.below hxw hxw.size) HNB.out hnb6 (HBY.out.below hxw hxw.size) HBF.out
     refine hcall.mono ?_
     rintro e w' ⟨v9, h1, h2, h3⟩
     obtain ⟨k9, n9, a9, A9, p9, c9, B9, q9, d9, rfl, h4⟩ := RefV.of h2
     exact ⟨k9, n9, a9, A9, p9, c9, B9, q9, d9, h1, TmAt.mono (Nat.le_refl _) (Cut.to fun b _ q1 q2 => ⟨Nat.le_trans hx.size q1, q2, rfl⟩) h4, hx.trans (h3.mono hx.size)⟩
    have HS : Hid (∀ w', Below w2.heap.size w2 w' → (fun w' => w'.cell? ⟨w.heap.size, 0, none⟩ = some (.int .i64 k) ∧ w'.cell? ⟨w.heap.size, 1, none⟩ = some (.int .i64 n) ∧ w'.cell? ⟨w.heap.size, 2, none⟩ = some (.int .i64 a) ∧ w'.cell? ⟨w.heap.size, 3, none⟩ = some (.slice Al pl cl) ∧ w'.cell? ⟨w.heap.size, 4, none⟩ = some (.slice (some ⟨b, o, none⟩) pk ck) ∧ w'.cell? ⟨b, o + j * 5, none⟩ = some (.int .i64 k1) ∧ w'.cell? ⟨b, o + j * 5 + 1, none⟩ = some (.int .i64 n1) ∧ w'.cell? ⟨b, o + j * 5 + 2, none⟩ = some (.int .i64 a1) ∧ w'.cell? ⟨b, o + j * 5 + 3, none⟩ = some (.slice A1 p1 c1) ∧ w'.cell? ⟨b, o + j * 5 + 4, none⟩ = some (.slice A2 p2 c2)) w') := fun w' hx => by
     have hbx : Below w.heap.size w w' := HB2.out.trans (hx.mono (by omega))
     have e0 := (hx.cell (p := ⟨w.heap.size, 0, none⟩) (by show w.heap.size < _; omega)).trans (cell_of_row _ _ 0 _ _ (0, 0) X0.out)
     have e1 := (hx.cell (p := ⟨w.heap.size, 1, none⟩) (by show w.heap.size < _; omega)).trans (cell_of_row _ _ 1 _ _ (0, 0) X0.out)
     have e2 := (hx.cell (p := ⟨w.heap.size, 2, none⟩) (by show w.heap.size < _; omega)).trans (cell_of_row _ _ 2 _ _ (0, 0) X0.out)
     have e3 := (hx.cell (p := ⟨w.heap.size, 3, none⟩) (by show w.heap.size < _; omega)).trans (cell_of_row _ _ 3 _ _ (0, 0) X0.out)
     have e4 := (hx.cell (p := ⟨w.heap.size, 4, none⟩) (by show w.heap.size < _; omega)).trans (cell_of_row _ _ 4 _ _ (0, 0) X0.out)
     obtain ⟨v1, m1, m2, m3, m4, m5⟩ : w'.cell? ⟨b, o + j * 5, none⟩ = some (.int .i64 k1) ∧ w'.cell? ⟨b, o + j * 5 + 1, none⟩ = some (.int .i64 n1) ∧ w'.cell? ⟨b, o + j * 5 + 2, none⟩ = some (.int .i64 a1) ∧ w'.cell? ⟨b, o + j * 5 + 3, none⟩ = some (.slice A1 p1 c1) ∧ w'.cell? ⟨b, o + j * 5 + 4, none⟩ = some (.slice A2 p2 c2) ∧ True := by
      have hbb : b < wr.heap.size := by have := hbw.size; omega
      have hk : ∀ i, w'.cell? ⟨b, i, none⟩ = wr.cell? ⟨b, i, none⟩ := fun i => (hbx.cell (p := ⟨b, i, none⟩) hbB).trans (hbw.cell (p := ⟨b, i, none⟩) hbB).symm
      exact ⟨(hk _).trans d0, (hk _).trans d1, (hk _).trans d2, (hk _).trans d3, (hk _).trans d4, trivial⟩
     exact ⟨e0, e1, e2, e3, e4, v1, m1, m2, m3, m4⟩
    have HSR : Hid (∀ w', Below wr.heap.size wr w' → (fun w' => w'.cell? ⟨w.heap.size, 0, none⟩ = some (.int .i64 k) ∧ w'.cell? ⟨w.heap.size, 1, none⟩ = some (.int .i64 n) ∧ w'.cell? ⟨w.heap.size, 2, none⟩ = some (.int .i64 a) ∧ w'.cell? ⟨w.heap.size, 3, none⟩ = some (.slice Al pl cl) ∧ w'.cell? ⟨w.heap.size, 4, none⟩ = some (.slice (some ⟨b, o, none⟩) pk ck) ∧ w'.cell? ⟨b, o + j * 5, none⟩ = some (.int .i64 k1) ∧ w'.cell? ⟨b, o + j * 5 + 1, none⟩ = some (.int .i64 n1) ∧ w'.cell? ⟨b, o + j * 5 + 2, none⟩ = some (.int .i64 a1) ∧ w'.cell? ⟨b, o + j * 5 + 3, none⟩ = some (.slice A1 p1 c1) ∧ w'.cell? ⟨b, o + j * 5 + 4, none⟩ = some (.slice A2 p2 c2)) w') := fun w' hx => HS.out w' (HB.out.trans (hx.mono hbz))
    have HD : Hid (Below wr.heap.size wr wr.drew) := (Below.refl _ _).drew
    have ij0 : (0 : Int) ≤ (j : Int) := by omega
    have ij1 : (j : Int) < (pk : Int) := by omega
    have hnn : j ≤ 1048576 := by omega
    obtain ⟨s0, s1, s2, s3, s4, s5, s6, s7, s8, s9⟩ := HSR.out wr (Below.refl _ _)
    clear hb hrow hfl hu ht hv hm hund hbw d0 d1 d2 d3 d4 b4 hbB
    go_upto_region 11 with (fail)
    go_region_held3 (fun w' => w'.cell? ⟨w.heap.size, 0, none⟩ = some (.int .i64 k) ∧ w'.cell? ⟨w.heap.size, 1, none⟩ = some (.int .i64 n) ∧ w'.cell? ⟨w.heap.size, 2, none⟩ = some (.int .i64 a) ∧ w'.cell? ⟨w.heap.size, 3, none⟩ = some (.slice Al pl cl) ∧ w'.cell? ⟨w.heap.size, 4, none⟩ = some (.slice (some ⟨b, o, none⟩) pk ck) ∧ w'.cell? ⟨b, o + j * 5, none⟩ = some (.int .i64 k1) ∧ w'.cell? ⟨b, o + j * 5 + 1, none⟩ = some (.int .i64 n1) ∧ w'.cell? ⟨b, o + j * 5 + 2, none⟩ = some (.int .i64 a1) ∧ w'.cell? ⟨b, o + j * 5 + 3, none⟩ = some (.slice A1 p1 c1) ∧ w'.cell? ⟨b, o + j * 5 + 4, none⟩ = some (.slice A2 p2 c2))
     (first
       | exact HSR.out _ HD.out
       | (apply HSR.out; assumption)
       | (apply HSR.out; apply Below.alloc; assumption; apply Below.size; assumption)
       | (apply HS.out; exact (HB.out.trans ((Below.alloc hx2 hx2.size _).mono hbz)).grown hgrow (by have := hx2.size; simp; omega) (fun b e => (HR.out.lt b e).1)))
     (first
       | (go_at_call 55; refine (CB.out _ ?_).mono ?_; exact HD.out; rintro e wB ⟨rfl, hx1⟩)
       | (go_at_call 39; refine (CL.out _ ?_).mono ?_; exact hx1; rintro e wL ⟨k9, n9, a9, A9, p9, c9, B9, q9, d9, rfl, hl9, hx2⟩)
       | (refine step_append_lies _ (by rfl) _ _ 24 (by rfl) w2.heap.size 26 i0 (.agg #[.int .i64 0, .int .i64 0, .int .i64 0, .slice none 0 0, .slice none 0 0]) 5 72 Tryz.underlying24 hi hz0 hz1 hz2 rfl (by omega) (.slice Av nv cv) j ys (by rfl) (own_below (own_below HR.out hx2) ((Below.refl _ _).alloc (Nat.le_refl _) _)) ⟨wL.heap.size, 0, none⟩ 1 1 [.int .i64 k9, .int .i64 n9, .int .i64 a9, .slice A9 p9 c9, .slice B9 q9 d9] (by rfl) (by rfl) (World.news_of_block (cs := #[.int .i64 k9, .int .i64 n9, .int .i64 a9, .slice A9 p9 c9, .slice B9 q9 d9]) (t := 26) (fr := (0, 0)) (heap_alloc_new wL _)) (by simp [Value.oneCell']) (by omega) (by unfold maxLen; omega) (by omega) (by have := hx2.size; simp; omega) (wL.heap.size + 1) (by simp) ?_; intro gg cap w8 hown hgrow hat hlt8))
    have hxz := hx2.size
    have hx3 : Below wr.heap.size wr (wL.alloc (.cells #[.int .i64 k9, .int .i64 n9, .int .i64 a9, .slice A9 p9 c9, .slice B9 q9 d9] 26)) := hx2.alloc hxz _
    have HB8 : Hid (Below w2.heap.size w2 w8) := (HB.out.trans (hx3.mono hbz)).grown hgrow (by simp; omega) (fun b e => (HR.out.lt b e).1)
    have HR8 := Lib.hid hown
    have HF8 : Hid (TmF (Cut w2.heap.size (some gg) w8) w8.heap.size (us.take (j + 1)) (ys ++ [.int .i64 k9, .int .i64 n9, .int .i64 a9, .slice A9 p9 c9, .slice B9 q9 d9])) := by
     rw [take_snoc_2 HU.out]
     refine HFL.out.more (TmAt.mono (by simp) (Cut.to fun b h1 h2 h3 => ⟨h2, h3, ?_⟩) hl9) hbz hx3 hgrow (fun b e => (HR.out.lt b e).2) (hat.elim (fun e => Or.inl e.symm) (fun e => Or.inr (by rw [e]; simp)))
     exact ((Below.refl wL.heap.size wL).alloc (Nat.le_refl _) _).block b h1
    clear hown hgrow hat hl9 hx1 hx2 hx3 HFL HR HB s0 s1 s2 s3 s4 s5 s6 s7 s8 s9
    go_wp2
    go_roundw
    case rel => exact ⟨j + 1, _, by omega, by go_num, HB8.out, HR8.out, HF8.out⟩
    case measure => simp [intOf]; omega
   ·have ej : j = pk := by omega
    subst ej
    have hq : us.take j = us := List.take_of_length_le (by rw [HUL.out]; omega)
    rw [hq] at hfl
    obtain ⟨em, htm⟩ := TmF.row hrow HUL.out (TmF.mono (Nat.le_refl _) (Cut.to fun b _ h2 _ => ⟨h2, by simp, rfl⟩) hfl)
    subst em
    have hbw : Below w.heap.size w wr := HB2.out.trans (hb.mono (by omega))
    have HW := Lib.hid (rwith_any k n a lv Al pl cl (.slice Ak nv ck) Av nv cv wr HPL.out (by have := HP6.out.1; have := HPL.out; omega) HP6.out.2 ((HLV.out.below hbw).more hbw.size))
    have x0 := (hb.block w.heap.size (by omega)).trans X0.out
    have x1 := (hb.block (w.heap.size + 1) (by omega)).trans X1.out
    have z0 := cell_of_row _ _ 0 _ _ (0, 0) x0
    have z1 := cell_of_row _ _ 1 _ _ (0, 0) x0
    have z2 := cell_of_row _ _ 2 _ _ (0, 0) x0
    have z3 := cell_of_row _ _ 3 _ _ (0, 0) x0
    have z4 := cell_of_row _ _ 4 _ _ (0, 0) x0
    have X1R := Lib.hid x1
    have HTM := Lib.hid htm
    have HBW := Lib.hid hbw
    clear hb hrow hfl hq htm hbw x0 x1 HR HFL HB b4 c4 X0 X1
    go_wp2_with (fail)
    refine HW.out.mono ?_
    rintro e w3 ⟨A3, c3, rfl, hc3, hlv, hb3⟩
    have hs3 := hb3.size
    have q4 := (hb3.block (w.heap.size + 1) (by omega)).trans X1R.out
    have s0 := cell_of_row _ _ 0 _ _ (0, 0) q4
    have s1 := cell_of_row _ _ 1 _ _ (0, 0) q4
    have s2 := cell_of_row _ _ 2 _ _ (0, 0) q4
    have s3 := cell_of_row _ _ 3 _ _ (0, 0) q4
    have s4 := cell_of_row _ _ 4 _ _ (0, 0) q4
    have t0 := thawed q4 0
    have t1 := thawed q4 1
    have t2 := thawed q4 2
    have t3 := thawed q4 3
    have t4 := thawed q4 4
    obtain ⟨g9, s9, cur9, h9, _, hc9⟩ := store5_post q4 (o := 0) (by simp) (.int .i64 k) (.int .i64 n) (.int .i64 a) (.slice A3 pl c3) (.slice Av nv cv)
    have u0 := row_cell h9 hc9.1
    have u1 := row_cell h9 hc9.2.1
    have u2 := row_cell h9 hc9.2.2.1
    have u3 := row_cell h9 hc9.2.2.2.1
    have u4 := row_cell h9 hc9.2.2.2.2
    obtain ⟨w5, hw5⟩ : ∃ x, store5 w3 (w.heap.size + 1) 0 (.int .i64 k) (.int .i64 n) (.int .i64 a) (.slice A3 pl c3) (.slice Av nv cv) = x := ⟨_, rfl⟩
    have HFIN : Hid (RefP w ((Tm.mk k n a lv kids).walk (putT by') d) (.returned (.agg #[.int .i64 k, .int .i64 n, .int .i64 a, .slice A3 pl c3, .slice Av nv cv])) w5) := by
     rw [hw5] at g9 s9
     refine ⟨_, rfl, ?_, (HBW.out.trans (hb3.mono HBW.out.size)).grown g9 (by omega) (fun b e => by injection e with e; omega)⟩
     rw [HWK.out]
     have hl2 := Levs.mono (B' := w5.heap.size) hlv (by omega) (Cut.to (lo' := w.heap.size) (r' := none) (w' := w5) fun b h1 h2 _ => ⟨by omega, by simp, g9.block b (by omega) (by intro e; injection e with e; omega)⟩)
     have ht2 := Tms.mono (B' := w5.heap.size) HTM.out (by omega) (Cut.to (lo' := w.heap.size) (r' := none) (w' := w5) fun b h1 h2 _ => ⟨by omega, by simp, (g9.block b (by omega) (by intro e; injection e with e; omega)).trans (hb3.block b h1)⟩)
     have h := TmAt.make (k := k) (n := n) (a := a) hc3 hl2 ht2
     rwa [HPL.out, HUL.out] at h
    unfold store5 at hw5 u0 u1 u2 u3 u4
    clear g9 s9 h9 hc9 q4 hb3 hlv hc3 HW z0 z1 z2 z3 z4
    go_wp2
    rw [hw5] at u0 u1 u2 u3 u4
    exact bodyPost_ret (v := .agg #[.int .i64 k, .int .i64 n, .int .i64 a, .slice A3 pl c3, .slice Av nv cv]) (by simp [results, Tryz.results39, go_sem, u0, u1, u2, u3, u4]) rfl HFIN.out
 have hk2 : (k == 1) = true := by simp; exact hk1
 by_cases hdn : (d : Int) ≤ n
 rotate_left
 ·have hno : ¬ (k = 1 ∧ (d : Int) ≤ n ∧ 0 ≤ n - (d : Int)) := by omega
  have HWK : Hid ((Tm.mk k n a lv kids).walk (putT by') d = .mk k n a lv us) := HWK0 n (by unfold putT outer; rw [if_neg (by simpa using hno)])
  clear ws hk1 hnb
  obtain ⟨w2, hw2⟩ : ∃ x, x = w1 := ⟨_, rfl⟩
  have HS2 : Hid (w2.heap.size = w.heap.size + 2) := by rw [hw2]; exact hs1
  have HB2 : Hid (Below w.heap.size w w2) := by rw [hw2]; exact hb1
  rw [← hw2] at x0 x1 hw1 g0 g1
  clear hw2 hb1 hs1 hno HWK0
  go_enter Tryz.func39, Tryz.ntmps39
  have hs2 : w2.heap.size = w.heap.size + 2 := HS2.out
  have X0 := Lib.hid x0
  have X1 := Lib.hid x1
  have c4 := cell_of_row _ _ 4 _ _ (0, 0) x0
  clear x0 x1
  go_wp2
  go_loopw [9, 10] (fun lv i wr => ∃ (j : Nat) (ys : List Value), j ≤ pk ∧ i = .int .i64 (j : Int) ∧ Below w2.heap.size w2 wr ∧ wr.ownsRow w2.heap.size 26 5 lv j ys ∧ TmF (Cut w2.heap.size lv.ownBlock wr) wr.heap.size (us.take j) ys) (fun _ i _ => pk - (intOf i).toNat)
  case atStart => exact ⟨0, [], Nat.zero_le _, rfl, Below.refl _ _, own_nil _ _ _ _, by rw [List.take_zero]; rfl⟩
  case round =>
   obtain ⟨j, ys, hj, rfl, hb, hrow, hfl⟩ := hrel
   obtain ⟨Av, nv, cv, rfl⟩ := own_slice hrow
   have hbz := hb.size
   have b4 := (hb.cell (p := ⟨w.heap.size, 4, none⟩) (by show w.heap.size < _; omega)).trans c4
   have HB := Lib.hid hb
   have HR := Lib.hid hrow
   have HFL := Lib.hid hfl
   by_cases hlt : j < pk
   ·obtain ⟨t, ht⟩ : ∃ t, kids[j]? = some t := ⟨_, List.getElem?_eq_getElem (by rw [HPK.out]; exact hlt)⟩
    have hbw : Below w.heap.size w wr := HB2.out.trans (hb.mono (by omega))
    obtain ⟨b, o, k1, n1, a1, A1, p1, c1, A2, p2, c2, e, hbB, hv, d0, d1, d2, d3, d4⟩ := HKI.out.at hbw ht
    subst e
    obtain ⟨u, hu⟩ : ∃ u, us[j]? = some u := ⟨_, List.getElem?_eq_getElem (by rw [HUL.out]; exact hlt)⟩
    have HU := Lib.hid hu
    have hsz := HSZ.out
    have hm := Tm.sizeL_mem (List.mem_of_getElem? ht)
    have hund : under k j ≤ 1 := by unfold under; split <;> omega
    have CB : Hid (∀ wq, Below wr.heap.size wr wq → Calls Tryz.prog 55 #[.agg #[.int .i64 k, .int .i64 n, .int .i64 a, .slice Al pl cl, .slice (some ⟨b, o, none⟩) pk ck], .int .i64 (j : Int), .int .i64 (d : Int)] wq (fun e w' => e = .returned (.int .i64 ((d + under k j : Nat) : Int)) ∧ Below wr.heap.size wr w')) := fun wq hx => (rbelow_any k _ a _ _ j d wq (by omega)).mono fun _ _ h => ⟨h.1, hx.trans (h.2.mono hx.size)⟩
    have CL : Hid (∀ wq, Below wr.heap.size wr wq → Calls Tryz.prog 39 #[.agg #[.int .i64 k1, .int .i64 n1, .int .i64 a1, .slice A1 p1 c1, .slice A2 p2 c2], .slice Ab nb cb, .int .i64 ((d + under k j : Nat) : Int)] wq (fun e w' => ∃ (k9 n9 a9 : Int) (A9 : Option Addr) (p9 c9 : Nat) (B9 : Option Addr) (q9 d9 : Nat), e = .returned (.agg #[.int .i64 k9, .int .i64 n9, .int .i64 a9, .slice A9 p9 c9, .slice B9 q9 d9]) ∧ TmAt (Cut wr.heap.size none w') w'.heap.size u (.agg #[.int .i64 k9, .int .i64 n9, .int .i64 a9, .slice A9 p9 c9, .slice B9 q9 d9]) ∧ Below wr.heap.size wr w')) := fun wq hx => by
     have hxw : Below w.heap.size w wq := hbw.trans (hx.mono hbw.size)
     have hue : u = t.walk (putT by') (d + under k j) := by
      have h := HUS.out j
      rw [hu, ht] at h
      injection h
     have hcall : Calls Tryz.prog 39 #[.agg #[.int .i64 k1, .int .i64 n1, .int .i64 a1, .slice A1 p1 c1, .slice A2 p2 c2], .slice Ab nb cb, .int .i64 ((d + under k j : Nat) : Int)] wq (RefP wq u) := by
      rw [hue]
      exact IH.out t (List.mem_of_getElem? ht) Ab nb cb (d + under k j) _ wq (HFK.out t (List.mem_of_getElem? ht)) (by omega) (hv.below hxw hxw.size) HNB.out hnb6 (HBY.out.below hxw hxw.size) HBF.out
     refine hcall.mono ?_
     rintro e w' ⟨v9, h1, h2, h3⟩
     obtain ⟨k9, n9, a9, A9, p9, c9, B9, q9, d9, rfl, h4⟩ := RefV.of h2
     exact ⟨k9, n9, a9, A9, p9, c9, B9, q9, d9, h1, TmAt.mono (Nat.le_refl _) (Cut.to fun b _ q1 q2 => ⟨Nat.le_trans hx.size q1, q2, rfl⟩) h4, hx.trans (h3.mono hx.size)⟩
    have HS : Hid (∀ w', Below w2.heap.size w2 w' → (fun w' => w'.cell? ⟨w.heap.size, 0, none⟩ = some (.int .i64 k) ∧ w'.cell? ⟨w.heap.size, 1, none⟩ = some (.int .i64 n) ∧ w'.cell? ⟨w.heap.size, 2, none⟩ = some (.int .i64 a) ∧ w'.cell? ⟨w.heap.size, 3, none⟩ = some (.slice Al pl cl) ∧ w'.cell? ⟨w.heap.size, 4, none⟩ = some (.slice (some ⟨b, o, none⟩) pk ck) ∧ w'.cell? ⟨b, o + j * 5, none⟩ = some (.int .i64 k1) ∧ w'.cell? ⟨b, o + j * 5 + 1, none⟩ = some (.int .i64 n1) ∧ w'.cell? ⟨b, o + j * 5 + 2, none⟩ = some (.int .i64 a1) ∧ w'.cell? ⟨b, o + j * 5 + 3, none⟩ = some (.slice A1 p1 c1) ∧ w'.cell? ⟨b, o + j * 5 + 4, none⟩ = some (.slice A2 p2 c2)) w') := fun w' hx => by
     have hbx : Below w.heap.size w w' := HB2.out.trans (hx.mono (by omega))
     have e0 := (hx.cell (p := ⟨w.heap.size, 0, none⟩) (by show w.heap.size < _; omega)).trans (cell_of_row _ _ 0 _ _ (0, 0) X0.out)
     have e1 := (hx.cell (p := ⟨w.heap.size, 1, none⟩) (by show w.heap.size < _; omega)).trans (cell_of_row _ _ 1 _ _ (0, 0) X0.out)
     have e2 := (hx.cell (p := ⟨w.heap.size, 2, none⟩) (by show w.heap.size < _; omega)).trans (cell_of_row _ _ 2 _ _ (0, 0) X0.out)
     have e3 := (hx.cell (p := ⟨w.heap.size, 3, none⟩) (by show w.heap.size < _; omega)).trans (cell_of_row _ _ 3 _ _ (0, 0) X0.out)
     have e4 := (hx.cell (p := ⟨w.heap.size, 4, none⟩) (by show w.heap.size < _; omega)).trans (cell_of_row _ _ 4 _ _ (0, 0) X0.out)
     obtain ⟨v1, m1, m2, m3, m4, m5⟩ : w'.cell? ⟨b, o + j * 5, none⟩ = some (.int .i64 k1) ∧ w'.cell? ⟨b, o + j * 5 + 1, none⟩ = some (.int .i64 n1) ∧ w'.cell? ⟨b, o + j * 5 + 2, none⟩ = some (.int .i64 a1) ∧ w'.cell? ⟨b, o + j * 5 + 3, none⟩ = some (.slice A1 p1 c1) ∧ w'.cell? ⟨b, o + j * 5 + 4, none⟩ = some (.slice A2 p2 c2) ∧ True := by
      have hbb : b < wr.heap.size := by have := hbw.size; omega
      have hk : ∀ i, w'.cell? ⟨b, i, none⟩ = wr.cell? ⟨b, i, none⟩ := fun i => (hbx.cell (p := ⟨b, i, none⟩) hbB).trans (hbw.cell (p := ⟨b, i, none⟩) hbB).symm
      exact ⟨(hk _).trans d0, (hk _).trans d1, (hk _).trans d2, (hk _).trans d3, (hk _).trans d4, trivial⟩
     exact ⟨e0, e1, e2, e3, e4, v1, m1, m2, m3, m4⟩
    have HSR : Hid (∀ w', Below wr.heap.size wr w' → (fun w' => w'.cell? ⟨w.heap.size, 0, none⟩ = some (.int .i64 k) ∧ w'.cell? ⟨w.heap.size, 1, none⟩ = some (.int .i64 n) ∧ w'.cell? ⟨w.heap.size, 2, none⟩ = some (.int .i64 a) ∧ w'.cell? ⟨w.heap.size, 3, none⟩ = some (.slice Al pl cl) ∧ w'.cell? ⟨w.heap.size, 4, none⟩ = some (.slice (some ⟨b, o, none⟩) pk ck) ∧ w'.cell? ⟨b, o + j * 5, none⟩ = some (.int .i64 k1) ∧ w'.cell? ⟨b, o + j * 5 + 1, none⟩ = some (.int .i64 n1) ∧ w'.cell? ⟨b, o + j * 5 + 2, none⟩ = some (.int .i64 a1) ∧ w'.cell? ⟨b, o + j * 5 + 3, none⟩ = some (.slice A1 p1 c1) ∧ w'.cell? ⟨b, o + j * 5 + 4, none⟩ = some (.slice A2 p2 c2)) w') := fun w' hx => HS.out w' (HB.out.trans (hx.mono hbz))
    have HD : Hid (Below wr.heap.size wr wr.drew) := (Below.refl _ _).drew
    have ij0 : (0 : Int) ≤ (j : Int) := by omega
    have ij1 : (j : Int) < (pk : Int) := by omega
    have hnn : j ≤ 1048576 := by omega
    obtain ⟨s0, s1, s2, s3, s4, s5, s6, s7, s8, s9⟩ := HSR.out wr (Below.refl _ _)
    clear hb hrow hfl hu ht hv hm hund hbw d0 d1 d2 d3 d4 b4 hbB
    go_upto_region 11 with (fail)
    go_region_held3 (fun w' => w'.cell? ⟨w.heap.size, 0, none⟩ = some (.int .i64 k) ∧ w'.cell? ⟨w.heap.size, 1, none⟩ = some (.int .i64 n) ∧ w'.cell? ⟨w.heap.size, 2, none⟩ = some (.int .i64 a) ∧ w'.cell? ⟨w.heap.size, 3, none⟩ = some (.slice Al pl cl) ∧ w'.cell? ⟨w.heap.size, 4, none⟩ = some (.slice (some ⟨b, o, none⟩) pk ck) ∧ w'.cell? ⟨b, o + j * 5, none⟩ = some (.int .i64 k1) ∧ w'.cell? ⟨b, o + j * 5 + 1, none⟩ = some (.int .i64 n1) ∧ w'.cell? ⟨b, o + j * 5 + 2, none⟩ = some (.int .i64 a1) ∧ w'.cell? ⟨b, o + j * 5 + 3, none⟩ = some (.slice A1 p1 c1) ∧ w'.cell? ⟨b, o + j * 5 + 4, none⟩ = some (.slice A2 p2 c2))
     (first
       | exact HSR.out _ HD.out
       | (apply HSR.out; assumption)
       | (apply HSR.out; apply Below.alloc; assumption; apply Below.size; assumption)
       | (apply HS.out; exact (HB.out.trans ((Below.alloc hx2 hx2.size _).mono hbz)).grown hgrow (by have := hx2.size; simp; omega) (fun b e => (HR.out.lt b e).1)))
     (first
       | (go_at_call 55; refine (CB.out _ ?_).mono ?_; exact HD.out; rintro e wB ⟨rfl, hx1⟩)
       | (go_at_call 39; refine (CL.out _ ?_).mono ?_; exact hx1; rintro e wL ⟨k9, n9, a9, A9, p9, c9, B9, q9, d9, rfl, hl9, hx2⟩)
       | (refine step_append_lies _ (by rfl) _ _ 24 (by rfl) w2.heap.size 26 i0 (.agg #[.int .i64 0, .int .i64 0, .int .i64 0, .slice none 0 0, .slice none 0 0]) 5 72 Tryz.underlying24 hi hz0 hz1 hz2 rfl (by omega) (.slice Av nv cv) j ys (by rfl) (own_below (own_below HR.out hx2) ((Below.refl _ _).alloc (Nat.le_refl _) _)) ⟨wL.heap.size, 0, none⟩ 1 1 [.int .i64 k9, .int .i64 n9, .int .i64 a9, .slice A9 p9 c9, .slice B9 q9 d9] (by rfl) (by rfl) (World.news_of_block (cs := #[.int .i64 k9, .int .i64 n9, .int .i64 a9, .slice A9 p9 c9, .slice B9 q9 d9]) (t := 26) (fr := (0, 0)) (heap_alloc_new wL _)) (by simp [Value.oneCell']) (by omega) (by unfold maxLen; omega) (by omega) (by have := hx2.size; simp; omega) (wL.heap.size + 1) (by simp) ?_; intro gg cap w8 hown hgrow hat hlt8))
    have hxz := hx2.size
    have hx3 : Below wr.heap.size wr (wL.alloc (.cells #[.int .i64 k9, .int .i64 n9, .int .i64 a9, .slice A9 p9 c9, .slice B9 q9 d9] 26)) := hx2.alloc hxz _
    have HB8 : Hid (Below w2.heap.size w2 w8) := (HB.out.trans (hx3.mono hbz)).grown hgrow (by simp; omega) (fun b e => (HR.out.lt b e).1)
    have HR8 := Lib.hid hown
    have HF8 : Hid (TmF (Cut w2.heap.size (some gg) w8) w8.heap.size (us.take (j + 1)) (ys ++ [.int .i64 k9, .int .i64 n9, .int .i64 a9, .slice A9 p9 c9, .slice B9 q9 d9])) := by
     rw [take_snoc_2 HU.out]
     refine HFL.out.more (TmAt.mono (by simp) (Cut.to fun b h1 h2 h3 => ⟨h2, h3, ?_⟩) hl9) hbz hx3 hgrow (fun b e => (HR.out.lt b e).2) (hat.elim (fun e => Or.inl e.symm) (fun e => Or.inr (by rw [e]; simp)))
     exact ((Below.refl wL.heap.size wL).alloc (Nat.le_refl _) _).block b h1
    clear hown hgrow hat hl9 hx1 hx2 hx3 HFL HR HB s0 s1 s2 s3 s4 s5 s6 s7 s8 s9
    go_wp2
    go_roundw
    case rel => exact ⟨j + 1, _, by omega, by go_num, HB8.out, HR8.out, HF8.out⟩
    case measure => simp [intOf]; omega
   ·have ej : j = pk := by omega
    subst ej
    have hq : us.take j = us := List.take_of_length_le (by rw [HUL.out]; omega)
    rw [hq] at hfl
    obtain ⟨em, htm⟩ := TmF.row hrow HUL.out (TmF.mono (Nat.le_refl _) (Cut.to fun b _ h2 _ => ⟨h2, by simp, rfl⟩) hfl)
    subst em
    have hbw : Below w.heap.size w wr := HB2.out.trans (hb.mono (by omega))
    have HW := Lib.hid (rwith_any k n a lv Al pl cl (.slice Ak nv ck) Av nv cv wr HPL.out (by have := HP6.out.1; have := HPL.out; omega) HP6.out.2 ((HLV.out.below hbw).more hbw.size))
    have x0 := (hb.block w.heap.size (by omega)).trans X0.out
    have x1 := (hb.block (w.heap.size + 1) (by omega)).trans X1.out
    have z0 := cell_of_row _ _ 0 _ _ (0, 0) x0
    have z1 := cell_of_row _ _ 1 _ _ (0, 0) x0
    have z2 := cell_of_row _ _ 2 _ _ (0, 0) x0
    have z3 := cell_of_row _ _ 3 _ _ (0, 0) x0
    have z4 := cell_of_row _ _ 4 _ _ (0, 0) x0
    have X1R := Lib.hid x1
    have HTM := Lib.hid htm
    have HBW := Lib.hid hbw
    clear hb hrow hfl hq htm hbw x0 x1 HR HFL HB b4 c4 X0 X1
    go_wp2_with (fail)
    refine HW.out.mono ?_
    rintro e w3 ⟨A3, c3, rfl, hc3, hlv, hb3⟩
    have hs3 := hb3.size
    have q4 := (hb3.block (w.heap.size + 1) (by omega)).trans X1R.out
    have s0 := cell_of_row _ _ 0 _ _ (0, 0) q4
    have s1 := cell_of_row _ _ 1 _ _ (0, 0) q4
    have s2 := cell_of_row _ _ 2 _ _ (0, 0) q4
    have s3 := cell_of_row _ _ 3 _ _ (0, 0) q4
    have s4 := cell_of_row _ _ 4 _ _ (0, 0) q4
    have t0 := thawed q4 0
    have t1 := thawed q4 1
    have t2 := thawed q4 2
    have t3 := thawed q4 3
    have t4 := thawed q4 4
    obtain ⟨g9, s9, cur9, h9, _, hc9⟩ := store5_post q4 (o := 0) (by simp) (.int .i64 k) (.int .i64 n) (.int .i64 a) (.slice A3 pl c3) (.slice Av nv cv)
    have u0 := row_cell h9 hc9.1
    have u1 := row_cell h9 hc9.2.1
    have u2 := row_cell h9 hc9.2.2.1
    have u3 := row_cell h9 hc9.2.2.2.1
    have u4 := row_cell h9 hc9.2.2.2.2
    obtain ⟨w5, hw5⟩ : ∃ x, store5 w3 (w.heap.size + 1) 0 (.int .i64 k) (.int .i64 n) (.int .i64 a) (.slice A3 pl c3) (.slice Av nv cv) = x := ⟨_, rfl⟩
    have HFIN : Hid (RefP w ((Tm.mk k n a lv kids).walk (putT by') d) (.returned (.agg #[.int .i64 k, .int .i64 n, .int .i64 a, .slice A3 pl c3, .slice Av nv cv])) w5) := by
     rw [hw5] at g9 s9
     refine ⟨_, rfl, ?_, (HBW.out.trans (hb3.mono HBW.out.size)).grown g9 (by omega) (fun b e => by injection e with e; omega)⟩
     rw [HWK.out]
     have hl2 := Levs.mono (B' := w5.heap.size) hlv (by omega) (Cut.to (lo' := w.heap.size) (r' := none) (w' := w5) fun b h1 h2 _ => ⟨by omega, by simp, g9.block b (by omega) (by intro e; injection e with e; omega)⟩)
     have ht2 := Tms.mono (B' := w5.heap.size) HTM.out (by omega) (Cut.to (lo' := w.heap.size) (r' := none) (w' := w5) fun b h1 h2 _ => ⟨by omega, by simp, (g9.block b (by omega) (by intro e; injection e with e; omega)).trans (hb3.block b h1)⟩)
     have h := TmAt.make (k := k) (n := n) (a := a) hc3 hl2 ht2
     rwa [HPL.out, HUL.out] at h
    unfold store5 at hw5 u0 u1 u2 u3 u4
    clear g9 s9 h9 hc9 q4 hb3 hlv hc3 HW z0 z1 z2 z3 z4
    go_wp2
    rw [hw5] at u0 u1 u2 u3 u4
    exact bodyPost_ret (v := .agg #[.int .i64 k, .int .i64 n, .int .i64 a, .slice A3 pl c3, .slice Av nv cv]) (by simp [results, Tryz.results39, go_sem, u0, u1, u2, u3, u4]) rfl HFIN.out
 have ws2 := ws (by omega)
 clear ws
 by_cases hfn : n - (d : Int) < (nb : Int)
 rotate_left
 ·obtain ⟨n', hn'⟩ : ∃ x, n - (nb : Int) = x := ⟨_, rfl⟩
  have ws3 : IntKind.i64.wrap (n - (nb : Int)) = n' := by rw [IntWalk.i64_in _ (by omega)]; exact hn'
  have HWK : Hid ((Tm.mk k n a lv kids).walk (putT by') d = .mk k n' a lv us) := HWK0 n' (by
    unfold putT outer
    rw [if_pos (by simp; omega), hnb, if_neg hfn, hn'])
  have r1 := thawed x0 1
  have e2 := set_same x0 1 (.int .i64 n')
  obtain ⟨w2, hw2⟩ : ∃ x, w1.setCell ⟨w.heap.size, 1, none⟩ (.int .i64 n') = x := ⟨_, rfl⟩
  have hg2 : w1.grownBy w2 (some w.heap.size) := by rw [← hw2]; exact setCell_grown _ _ _ _
  have HS2 : Hid (w2.heap.size = w.heap.size + 2) := by rw [← hw2]; simp [World.setCell]; exact hs1
  rw [hw2] at e2
  have q2 := (hg2.block (w.heap.size + 1) (by omega) (by simp)).trans x1
  have HB2 : Hid (Below w.heap.size w w2) := hb1.grown hg2 (by omega) (fun b e => by injection e with e; omega)
  clear x0 x1
  have x0 : w2.heap[w.heap.size]? = some (.cells #[.int .i64 k, .int .i64 n', .int .i64 a, .slice Al pl cl, .slice Ak pk ck] 26 (0, 0)) := e2
  have x1 := q2
  clear e2 q2 hg2 hb1 hs1 HWK0 hk1 hnb hn'
  go_enter Tryz.func39, Tryz.ntmps39
  have hs2 : w2.heap.size = w.heap.size + 2 := HS2.out
  have X0 := Lib.hid x0
  have X1 := Lib.hid x1
  have c4 := cell_of_row _ _ 4 _ _ (0, 0) x0
  clear x0 x1
  go_wp2
  go_loopw [9, 10] (fun lv i wr => ∃ (j : Nat) (ys : List Value), j ≤ pk ∧ i = .int .i64 (j : Int) ∧ Below w2.heap.size w2 wr ∧ wr.ownsRow w2.heap.size 26 5 lv j ys ∧ TmF (Cut w2.heap.size lv.ownBlock wr) wr.heap.size (us.take j) ys) (fun _ i _ => pk - (intOf i).toNat)
  case atStart => exact ⟨0, [], Nat.zero_le _, rfl, Below.refl _ _, own_nil _ _ _ _, by rw [List.take_zero]; rfl⟩
  case round =>
   obtain ⟨j, ys, hj, rfl, hb, hrow, hfl⟩ := hrel
   obtain ⟨Av, nv, cv, rfl⟩ := own_slice hrow
   have hbz := hb.size
   have b4 := (hb.cell (p := ⟨w.heap.size, 4, none⟩) (by show w.heap.size < _; omega)).trans c4
   have HB := Lib.hid hb
   have HR := Lib.hid hrow
   have HFL := Lib.hid hfl
   by_cases hlt : j < pk
   ·obtain ⟨t, ht⟩ : ∃ t, kids[j]? = some t := ⟨_, List.getElem?_eq_getElem (by rw [HPK.out]; exact hlt)⟩
    have hbw : Below w.heap.size w wr := HB2.out.trans (hb.mono (by omega))
    obtain ⟨b, o, k1, n1, a1, A1, p1, c1, A2, p2, c2, e, hbB, hv, d0, d1, d2, d3, d4⟩ := HKI.out.at hbw ht
    subst e
    obtain ⟨u, hu⟩ : ∃ u, us[j]? = some u := ⟨_, List.getElem?_eq_getElem (by rw [HUL.out]; exact hlt)⟩
    have HU := Lib.hid hu
    have hsz := HSZ.out
    have hm := Tm.sizeL_mem (List.mem_of_getElem? ht)
    have hund : under k j ≤ 1 := by unfold under; split <;> omega
    have CB : Hid (∀ wq, Below wr.heap.size wr wq → Calls Tryz.prog 55 #[.agg #[.int .i64 k, .int .i64 n', .int .i64 a, .slice Al pl cl, .slice (some ⟨b, o, none⟩) pk ck], .int .i64 (j : Int), .int .i64 (d : Int)] wq (fun e w' => e = .returned (.int .i64 ((d + under k j : Nat) : Int)) ∧ Below wr.heap.size wr w')) := fun wq hx => (rbelow_any k _ a _ _ j d wq (by omega)).mono fun _ _ h => ⟨h.1, hx.trans (h.2.mono hx.size)⟩
    have CL : Hid (∀ wq, Below wr.heap.size wr wq → Calls Tryz.prog 39 #[.agg #[.int .i64 k1, .int .i64 n1, .int .i64 a1, .slice A1 p1 c1, .slice A2 p2 c2], .slice Ab nb cb, .int .i64 ((d + under k j : Nat) : Int)] wq (fun e w' => ∃ (k9 n9 a9 : Int) (A9 : Option Addr) (p9 c9 : Nat) (B9 : Option Addr) (q9 d9 : Nat), e = .returned (.agg #[.int .i64 k9, .int .i64 n9, .int .i64 a9, .slice A9 p9 c9, .slice B9 q9 d9]) ∧ TmAt (Cut wr.heap.size none w') w'.heap.size u (.agg #[.int .i64 k9, .int .i64 n9, .int .i64 a9, .slice A9 p9 c9, .slice B9 q9 d9]) ∧ Below wr.heap.size wr w')) := fun wq hx => by
     have hxw : Below w.heap.size w wq := hbw.trans (hx.mono hbw.size)
     have hue : u = t.walk (putT by') (d + under k j) := by
      have h := HUS.out j
      rw [hu, ht] at h
      injection h
     have hcall : Calls Tryz.prog 39 #[.agg #[.int .i64 k1, .int .i64 n1, .int .i64 a1, .slice A1 p1 c1, .slice A2 p2 c2], .slice Ab nb cb, .int .i64 ((d + under k j : Nat) : Int)] wq (RefP wq u) := by
      rw [hue]
      exact IH.out t (List.mem_of_getElem? ht) Ab nb cb (d + under k j) _ wq (HFK.out t (List.mem_of_getElem? ht)) (by omega) (hv.below hxw hxw.size) HNB.out hnb6 (HBY.out.below hxw hxw.size) HBF.out
     refine hcall.mono ?_
     rintro e w' ⟨v9, h1, h2, h3⟩
     obtain ⟨k9, n9, a9, A9, p9, c9, B9, q9, d9, rfl, h4⟩ := RefV.of h2
     exact ⟨k9, n9, a9, A9, p9, c9, B9, q9, d9, h1, TmAt.mono (Nat.le_refl _) (Cut.to fun b _ q1 q2 => ⟨Nat.le_trans hx.size q1, q2, rfl⟩) h4, hx.trans (h3.mono hx.size)⟩
    have HS : Hid (∀ w', Below w2.heap.size w2 w' → (fun w' => w'.cell? ⟨w.heap.size, 0, none⟩ = some (.int .i64 k) ∧ w'.cell? ⟨w.heap.size, 1, none⟩ = some (.int .i64 n') ∧ w'.cell? ⟨w.heap.size, 2, none⟩ = some (.int .i64 a) ∧ w'.cell? ⟨w.heap.size, 3, none⟩ = some (.slice Al pl cl) ∧ w'.cell? ⟨w.heap.size, 4, none⟩ = some (.slice (some ⟨b, o, none⟩) pk ck) ∧ w'.cell? ⟨b, o + j * 5, none⟩ = some (.int .i64 k1) ∧ w'.cell? ⟨b, o + j * 5 + 1, none⟩ = some (.int .i64 n1) ∧ w'.cell? ⟨b, o + j * 5 + 2, none⟩ = some (.int .i64 a1) ∧ w'.cell? ⟨b, o + j * 5 + 3, none⟩ = some (.slice A1 p1 c1) ∧ w'.cell? ⟨b, o + j * 5 + 4, none⟩ = some (.slice A2 p2 c2)) w') := fun w' hx => by
     have hbx : Below w.heap.size w w' := HB2.out.trans (hx.mono (by omega))
     have e0 := (hx.cell (p := ⟨w.heap.size, 0, none⟩) (by show w.heap.size < _; omega)).trans (cell_of_row _ _ 0 _ _ (0, 0) X0.out)
     have e1 := (hx.cell (p := ⟨w.heap.size, 1, none⟩) (by show w.heap.size < _; omega)).trans (cell_of_row _ _ 1 _ _ (0, 0) X0.out)
     have e2 := (hx.cell (p := ⟨w.heap.size, 2, none⟩) (by show w.heap.size < _; omega)).trans (cell_of_row _ _ 2 _ _ (0, 0) X0.out)
     have e3 := (hx.cell (p := ⟨w.heap.size, 3, none⟩) (by show w.heap.size < _; omega)).trans (cell_of_row _ _ 3 _ _ (0, 0) X0.out)
     have e4 := (hx.cell (p := ⟨w.heap.size, 4, none⟩) (by show w.heap.size < _; omega)).trans (cell_of_row _ _ 4 _ _ (0, 0) X0.out)
     obtain ⟨v1, m1, m2, m3, m4, m5⟩ : w'.cell? ⟨b, o + j * 5, none⟩ = some (.int .i64 k1) ∧ w'.cell? ⟨b, o + j * 5 + 1, none⟩ = some (.int .i64 n1) ∧ w'.cell? ⟨b, o + j * 5 + 2, none⟩ = some (.int .i64 a1) ∧ w'.cell? ⟨b, o + j * 5 + 3, none⟩ = some (.slice A1 p1 c1) ∧ w'.cell? ⟨b, o + j * 5 + 4, none⟩ = some (.slice A2 p2 c2) ∧ True := by
      have hbb : b < wr.heap.size := by have := hbw.size; omega
      have hk : ∀ i, w'.cell? ⟨b, i, none⟩ = wr.cell? ⟨b, i, none⟩ := fun i => (hbx.cell (p := ⟨b, i, none⟩) hbB).trans (hbw.cell (p := ⟨b, i, none⟩) hbB).symm
      exact ⟨(hk _).trans d0, (hk _).trans d1, (hk _).trans d2, (hk _).trans d3, (hk _).trans d4, trivial⟩
     exact ⟨e0, e1, e2, e3, e4, v1, m1, m2, m3, m4⟩
    have HSR : Hid (∀ w', Below wr.heap.size wr w' → (fun w' => w'.cell? ⟨w.heap.size, 0, none⟩ = some (.int .i64 k) ∧ w'.cell? ⟨w.heap.size, 1, none⟩ = some (.int .i64 n') ∧ w'.cell? ⟨w.heap.size, 2, none⟩ = some (.int .i64 a) ∧ w'.cell? ⟨w.heap.size, 3, none⟩ = some (.slice Al pl cl) ∧ w'.cell? ⟨w.heap.size, 4, none⟩ = some (.slice (some ⟨b, o, none⟩) pk ck) ∧ w'.cell? ⟨b, o + j * 5, none⟩ = some (.int .i64 k1) ∧ w'.cell? ⟨b, o + j * 5 + 1, none⟩ = some (.int .i64 n1) ∧ w'.cell? ⟨b, o + j * 5 + 2, none⟩ = some (.int .i64 a1) ∧ w'.cell? ⟨b, o + j * 5 + 3, none⟩ = some (.slice A1 p1 c1) ∧ w'.cell? ⟨b, o + j * 5 + 4, none⟩ = some (.slice A2 p2 c2)) w') := fun w' hx => HS.out w' (HB.out.trans (hx.mono hbz))
    have HD : Hid (Below wr.heap.size wr wr.drew) := (Below.refl _ _).drew
    have ij0 : (0 : Int) ≤ (j : Int) := by omega
    have ij1 : (j : Int) < (pk : Int) := by omega
    have hnn : j ≤ 1048576 := by omega
    obtain ⟨s0, s1, s2, s3, s4, s5, s6, s7, s8, s9⟩ := HSR.out wr (Below.refl _ _)
    clear hb hrow hfl hu ht hv hm hund hbw d0 d1 d2 d3 d4 b4 hbB
    go_upto_region 11 with (fail)
    go_region_held3 (fun w' => w'.cell? ⟨w.heap.size, 0, none⟩ = some (.int .i64 k) ∧ w'.cell? ⟨w.heap.size, 1, none⟩ = some (.int .i64 n') ∧ w'.cell? ⟨w.heap.size, 2, none⟩ = some (.int .i64 a) ∧ w'.cell? ⟨w.heap.size, 3, none⟩ = some (.slice Al pl cl) ∧ w'.cell? ⟨w.heap.size, 4, none⟩ = some (.slice (some ⟨b, o, none⟩) pk ck) ∧ w'.cell? ⟨b, o + j * 5, none⟩ = some (.int .i64 k1) ∧ w'.cell? ⟨b, o + j * 5 + 1, none⟩ = some (.int .i64 n1) ∧ w'.cell? ⟨b, o + j * 5 + 2, none⟩ = some (.int .i64 a1) ∧ w'.cell? ⟨b, o + j * 5 + 3, none⟩ = some (.slice A1 p1 c1) ∧ w'.cell? ⟨b, o + j * 5 + 4, none⟩ = some (.slice A2 p2 c2))
     (first
       | exact HSR.out _ HD.out
       | (apply HSR.out; assumption)
       | (apply HSR.out; apply Below.alloc; assumption; apply Below.size; assumption)
       | (apply HS.out; exact (HB.out.trans ((Below.alloc hx2 hx2.size _).mono hbz)).grown hgrow (by have := hx2.size; simp; omega) (fun b e => (HR.out.lt b e).1)))
     (first
       | (go_at_call 55; refine (CB.out _ ?_).mono ?_; exact HD.out; rintro e wB ⟨rfl, hx1⟩)
       | (go_at_call 39; refine (CL.out _ ?_).mono ?_; exact hx1; rintro e wL ⟨k9, n9, a9, A9, p9, c9, B9, q9, d9, rfl, hl9, hx2⟩)
       | (refine step_append_lies _ (by rfl) _ _ 24 (by rfl) w2.heap.size 26 i0 (.agg #[.int .i64 0, .int .i64 0, .int .i64 0, .slice none 0 0, .slice none 0 0]) 5 72 Tryz.underlying24 hi hz0 hz1 hz2 rfl (by omega) (.slice Av nv cv) j ys (by rfl) (own_below (own_below HR.out hx2) ((Below.refl _ _).alloc (Nat.le_refl _) _)) ⟨wL.heap.size, 0, none⟩ 1 1 [.int .i64 k9, .int .i64 n9, .int .i64 a9, .slice A9 p9 c9, .slice B9 q9 d9] (by rfl) (by rfl) (World.news_of_block (cs := #[.int .i64 k9, .int .i64 n9, .int .i64 a9, .slice A9 p9 c9, .slice B9 q9 d9]) (t := 26) (fr := (0, 0)) (heap_alloc_new wL _)) (by simp [Value.oneCell']) (by omega) (by unfold maxLen; omega) (by omega) (by have := hx2.size; simp; omega) (wL.heap.size + 1) (by simp) ?_; intro gg cap w8 hown hgrow hat hlt8))
    have hxz := hx2.size
    have hx3 : Below wr.heap.size wr (wL.alloc (.cells #[.int .i64 k9, .int .i64 n9, .int .i64 a9, .slice A9 p9 c9, .slice B9 q9 d9] 26)) := hx2.alloc hxz _
    have HB8 : Hid (Below w2.heap.size w2 w8) := (HB.out.trans (hx3.mono hbz)).grown hgrow (by simp; omega) (fun b e => (HR.out.lt b e).1)
    have HR8 := Lib.hid hown
    have HF8 : Hid (TmF (Cut w2.heap.size (some gg) w8) w8.heap.size (us.take (j + 1)) (ys ++ [.int .i64 k9, .int .i64 n9, .int .i64 a9, .slice A9 p9 c9, .slice B9 q9 d9])) := by
     rw [take_snoc_2 HU.out]
     refine HFL.out.more (TmAt.mono (by simp) (Cut.to fun b h1 h2 h3 => ⟨h2, h3, ?_⟩) hl9) hbz hx3 hgrow (fun b e => (HR.out.lt b e).2) (hat.elim (fun e => Or.inl e.symm) (fun e => Or.inr (by rw [e]; simp)))
     exact ((Below.refl wL.heap.size wL).alloc (Nat.le_refl _) _).block b h1
    clear hown hgrow hat hl9 hx1 hx2 hx3 HFL HR HB s0 s1 s2 s3 s4 s5 s6 s7 s8 s9
    go_wp2
    go_roundw
    case rel => exact ⟨j + 1, _, by omega, by go_num, HB8.out, HR8.out, HF8.out⟩
    case measure => simp [intOf]; omega
   ·have ej : j = pk := by omega
    subst ej
    have hq : us.take j = us := List.take_of_length_le (by rw [HUL.out]; omega)
    rw [hq] at hfl
    obtain ⟨em, htm⟩ := TmF.row hrow HUL.out (TmF.mono (Nat.le_refl _) (Cut.to fun b _ h2 _ => ⟨h2, by simp, rfl⟩) hfl)
    subst em
    have hbw : Below w.heap.size w wr := HB2.out.trans (hb.mono (by omega))
    have HW := Lib.hid (rwith_any k n' a lv Al pl cl (.slice Ak nv ck) Av nv cv wr HPL.out (by have := HP6.out.1; have := HPL.out; omega) HP6.out.2 ((HLV.out.below hbw).more hbw.size))
    have x0 := (hb.block w.heap.size (by omega)).trans X0.out
    have x1 := (hb.block (w.heap.size + 1) (by omega)).trans X1.out
    have z0 := cell_of_row _ _ 0 _ _ (0, 0) x0
    have z1 := cell_of_row _ _ 1 _ _ (0, 0) x0
    have z2 := cell_of_row _ _ 2 _ _ (0, 0) x0
    have z3 := cell_of_row _ _ 3 _ _ (0, 0) x0
    have z4 := cell_of_row _ _ 4 _ _ (0, 0) x0
    have X1R := Lib.hid x1
    have HTM := Lib.hid htm
    have HBW := Lib.hid hbw
    clear hb hrow hfl hq htm hbw x0 x1 HR HFL HB b4 c4 X0 X1
    go_wp2_with (fail)
    refine HW.out.mono ?_
    rintro e w3 ⟨A3, c3, rfl, hc3, hlv, hb3⟩
    have hs3 := hb3.size
    have q4 := (hb3.block (w.heap.size + 1) (by omega)).trans X1R.out
    have s0 := cell_of_row _ _ 0 _ _ (0, 0) q4
    have s1 := cell_of_row _ _ 1 _ _ (0, 0) q4
    have s2 := cell_of_row _ _ 2 _ _ (0, 0) q4
    have s3 := cell_of_row _ _ 3 _ _ (0, 0) q4
    have s4 := cell_of_row _ _ 4 _ _ (0, 0) q4
    have t0 := thawed q4 0
    have t1 := thawed q4 1
    have t2 := thawed q4 2
    have t3 := thawed q4 3
    have t4 := thawed q4 4
    obtain ⟨g9, s9, cur9, h9, _, hc9⟩ := store5_post q4 (o := 0) (by simp) (.int .i64 k) (.int .i64 n') (.int .i64 a) (.slice A3 pl c3) (.slice Av nv cv)
    have u0 := row_cell h9 hc9.1
    have u1 := row_cell h9 hc9.2.1
    have u2 := row_cell h9 hc9.2.2.1
    have u3 := row_cell h9 hc9.2.2.2.1
    have u4 := row_cell h9 hc9.2.2.2.2
    obtain ⟨w5, hw5⟩ : ∃ x, store5 w3 (w.heap.size + 1) 0 (.int .i64 k) (.int .i64 n') (.int .i64 a) (.slice A3 pl c3) (.slice Av nv cv) = x := ⟨_, rfl⟩
    have HFIN : Hid (RefP w ((Tm.mk k n a lv kids).walk (putT by') d) (.returned (.agg #[.int .i64 k, .int .i64 n', .int .i64 a, .slice A3 pl c3, .slice Av nv cv])) w5) := by
     rw [hw5] at g9 s9
     refine ⟨_, rfl, ?_, (HBW.out.trans (hb3.mono HBW.out.size)).grown g9 (by omega) (fun b e => by injection e with e; omega)⟩
     rw [HWK.out]
     have hl2 := Levs.mono (B' := w5.heap.size) hlv (by omega) (Cut.to (lo' := w.heap.size) (r' := none) (w' := w5) fun b h1 h2 _ => ⟨by omega, by simp, g9.block b (by omega) (by intro e; injection e with e; omega)⟩)
     have ht2 := Tms.mono (B' := w5.heap.size) HTM.out (by omega) (Cut.to (lo' := w.heap.size) (r' := none) (w' := w5) fun b h1 h2 _ => ⟨by omega, by simp, (g9.block b (by omega) (by intro e; injection e with e; omega)).trans (hb3.block b h1)⟩)
     have h := TmAt.make (k := k) (n := n') (a := a) hc3 hl2 ht2
     rwa [HPL.out, HUL.out] at h
    unfold store5 at hw5 u0 u1 u2 u3 u4
    clear g9 s9 h9 hc9 q4 hb3 hlv hc3 HW z0 z1 z2 z3 z4
    go_wp2
    rw [hw5] at u0 u1 u2 u3 u4
    exact bodyPost_ret (v := .agg #[.int .i64 k, .int .i64 n', .int .i64 a, .slice A3 pl c3, .slice Av nv cv]) (by simp [results, Tryz.results39, go_sem, u0, u1, u2, u3, u4]) rfl HFIN.out
 obtain ⟨i, hi'⟩ : ∃ i : Nat, nb - 1 - (n - (d : Int)).toNat = i := ⟨_, rfl⟩
 have q1 : IntKind.i64.wrap ((nb : Int) - 1) = (nb : Int) - 1 := IntWalk.i64_in _ (by omega)
 have q2 : IntKind.i64.wrap ((nb : Int) - 1 - (n - (d : Int))) = (i : Int) := by rw [IntWalk.i64_in _ (by omega)]; omega
 have hil : i < nb := by omega
 obtain ⟨bt, hbt⟩ : ∃ t, by'[i]? = some t := ⟨_, List.getElem?_eq_getElem (by omega)⟩
 have HWK : Hid ((Tm.mk k n a lv kids).walk (putT by') d = bt.walk (liftT (d : Int) 0) 0) := by
  refine Tm.walk_done ?_
  unfold putT outer
  rw [if_pos (by simp; omega), hnb, if_pos hfn, hi', List.getD_eq_getElem?_getD, hbt]
  rfl
 obtain ⟨b, o, k1, n1, a1, A1, p1, c1, A2, p2, c2, e, hbB, hv, d0, d1, d2, d3, d4⟩ := HBY.out.at hb1 hbt
 subst e
 obtain ⟨q3, q4⟩ := HBF.out bt (List.mem_of_getElem? hbt)
 have HC := Lib.hid (rlift_any bt (d : Int) 0 0 _ w1 q3 (by omega) (hv.below hb1 hb1.size))
 have ij0 : (0 : Int) ≤ (i : Int) := by omega
 have ij1 : (i : Int) < (nb : Int) := by omega
 have HB1 := Lib.hid hb1
 have HS1 := Lib.hid hs1
 have X1 := Lib.hid x1
 clear hv hbt hbB q3 q4 hnb hi' hb1 x0 x1 HWK0 hk1
 go_enter Tryz.func39, Tryz.ntmps39
 go_wp2_with (fail)
 refine HC.out.mono ?_
 rintro e w3 ⟨v9, rfl, hl9, hb3⟩
 obtain ⟨k9, n9, a9, A9, p9, c9, B9, q9, d9, rfl, hl9⟩ := RefV.of hl9
 have hs3 := hb3.size
 have hs1' := HS1.out
 have q4 := (hb3.block (w.heap.size + 1) (by omega)).trans X1.out
 have s0 := cell_of_row _ _ 0 _ _ (0, 0) q4
 have s1 := cell_of_row _ _ 1 _ _ (0, 0) q4
 have s2 := cell_of_row _ _ 2 _ _ (0, 0) q4
 have s3 := cell_of_row _ _ 3 _ _ (0, 0) q4
 have s4 := cell_of_row _ _ 4 _ _ (0, 0) q4
 have t0 := thawed q4 0
 have t1 := thawed q4 1
 have t2 := thawed q4 2
 have t3 := thawed q4 3
 have t4 := thawed q4 4
 obtain ⟨g9, s9, cur9, h9, _, hc9⟩ := store5_post q4 (o := 0) (by simp) (.int .i64 k9) (.int .i64 n9) (.int .i64 a9) (.slice A9 p9 c9) (.slice B9 q9 d9)
 have u0 := row_cell h9 hc9.1
 have u1 := row_cell h9 hc9.2.1
 have u2 := row_cell h9 hc9.2.2.1
 have u3 := row_cell h9 hc9.2.2.2.1
 have u4 := row_cell h9 hc9.2.2.2.2
 obtain ⟨w5, hw5⟩ : ∃ x, store5 w3 (w.heap.size + 1) 0 (.int .i64 k9) (.int .i64 n9) (.int .i64 a9) (.slice A9 p9 c9) (.slice B9 q9 d9) = x := ⟨_, rfl⟩
 have HFIN : Hid (RefP w ((Tm.mk k n a lv kids).walk (putT by') d) (.returned (.agg #[.int .i64 k9, .int .i64 n9, .int .i64 a9, .slice A9 p9 c9, .slice B9 q9 d9])) w5) := by
  rw [hw5] at g9 s9
  refine ⟨_, rfl, ?_, (HB1.out.trans (hb3.mono (by omega))).grown g9 (by omega) (fun b e => by injection e with e; omega)⟩
  rw [HWK.out]
  exact TmAt.mono (by omega) (Cut.to fun b h1 h2 _ => ⟨by omega, by simp, g9.block b (by omega) (by intro e; injection e with e; omega)⟩) hl9
 unfold store5 at hw5 u0 u1 u2 u3 u4
 clear g9 s9 h9 hc9 q4 hb3 hl9 HC d0 d1 d2 d3 d4
 go_wp2
 rw [hw5] at u0 u1 u2 u3 u4
 exact bodyPost_ret (v := .agg #[.int .i64 k9, .int .i64 n9, .int .i64 a9, .slice A9 p9 c9, .slice B9 q9 d9]) (by simp [results, Tryz.results39, go_sem, u0, u1, u2, u3, u4]) rfl HFIN.out
theorem rput2_any (by' : List Tm) : ∀ t : Tm, RPut by' t := by
 intro t
 induction t using Tm.ind with
 | h k n a lv kids ih => exact rput_of2 by' k n a lv kids ih
end Go.Proofs.YtafgmndlbbjphaaGreatDoor
