/- Laws. -/
import Derived.Test.YtafgmndlbbjphaaGreatDoorPuau
import Derived.Test.YtafgmndlbbjphaaGreatDoorPuaw
import Derived.Deep.DeepAppendRoom
set_option maxRecDepth 100000
namespace Go.Proofs.YtafgmndlbbjphaaGreatDoor
open Go.RowKit Go.Maps
theorem LRow.down {w : World} {B B' : Nat} {ls : List (List (Int × Int))} {n g cap : Nat} (h : LRow w B ls n g cap) (hB : B' ≤ B) : LRow w B' ls n g cap := by
 obtain ⟨vs, h1, h2, h3⟩ := h
 refine ⟨vs, own_base h1 hB, fun i hi => ?_, h3⟩
 obtain ⟨gi, ci, q1, q2⟩ := h2 i hi
 exact ⟨gi, ci, q1, own_base q2 hB⟩
theorem LRow.grow {w w' : World} {B : Nat} {ls : List (List (Int × Int))} {n g cap : Nat} {r : Option Nat} (h : LRow w B ls n g cap) (hg : w.grownBy w' r) (hr : TypeAt w r 26) : LRow w' B ls n g cap := by
 obtain ⟨vs, h1, h2, h3⟩ := h
 exact ⟨vs, own_keptT h1 hg hr (by decide), h2.kept hg hr (by decide), h3.kept hg fun b e => by
   obtain ⟨cs, fr, q⟩ := hr b e
   exact ⟨cs, _, fr, q, by decide⟩⟩
mutual
def LentAt (w : World) (B : Nat) : Tm → Value → Prop
 | .mk k n a lv kids, v => ∃ gl cl gk ck ys, v = .agg #[.int .i64 k, .int .i64 n, .int .i64 a, .slice (some ⟨gl, 0, none⟩) lv.length cl, .slice (some ⟨gk, 0, none⟩) kids.length ck] ∧ LRow w B lv lv.length gl cl ∧ w.ownsRow B 26 5 (.slice (some ⟨gk, 0, none⟩) (kids.length + 12) ck) (kids.length + 12) (ys ++ mt 1 12) ∧ LentsAt w B kids ys
def LentsAt (w : World) (B : Nat) : List Tm → List Value → Prop
 | [], xs => xs = []
 | t :: ts, xs => ∃ c0 c1 c2 c3 c4 xs', xs = c0 :: c1 :: c2 :: c3 :: c4 :: xs' ∧ LentAt w B t (.agg #[c0, c1, c2, c3, c4]) ∧ LentsAt w B ts xs'
end
theorem LentAt.open {w : World} {B : Nat} {k n a : Int} {lv : List (List (Int × Int))} {kids : List Tm} {v : Value} (h : LentAt w B (.mk k n a lv kids) v) :
  ∃ gl cl gk ck ys, v = .agg #[.int .i64 k, .int .i64 n, .int .i64 a, .slice (some ⟨gl, 0, none⟩) lv.length cl, .slice (some ⟨gk, 0, none⟩) kids.length ck] ∧ LRow w B lv lv.length gl cl ∧ w.ownsRow B 26 5 (.slice (some ⟨gk, 0, none⟩) (kids.length + 12) ck) (kids.length + 12) (ys ++ mt 1 12) ∧ LentsAt w B kids ys := by
 unfold LentAt at h
 exact h
mutual
theorem LentAt.map {w w' : World} {B B' : Nat} (hL : ∀ ls n g cap, LRow w B ls n g cap → LRow w' B' ls n g cap) (hR : ∀ v n xs, w.ownsRow B 26 5 v n xs → w'.ownsRow B' 26 5 v n xs) : ∀ {t : Tm} {v : Value}, LentAt w B t v → LentAt w' B' t v
 | .mk k n a lv kids, v, h => by
  obtain ⟨gl, cl, gk, ck, ys, e, h1, h2, h3⟩ := h.open
  unfold LentAt
  exact ⟨gl, cl, gk, ck, ys, e, hL _ _ _ _ h1, hR _ _ _ h2, LentsAt.map hL hR h3⟩
theorem LentsAt.map {w w' : World} {B B' : Nat} (hL : ∀ ls n g cap, LRow w B ls n g cap → LRow w' B' ls n g cap) (hR : ∀ v n xs, w.ownsRow B 26 5 v n xs → w'.ownsRow B' 26 5 v n xs) : ∀ {ts : List Tm} {xs : List Value}, LentsAt w B ts xs → LentsAt w' B' ts xs
 | [], xs, h => by
  unfold LentsAt at h ⊢
  exact h
 | t :: ts, xs, h => by
  unfold LentsAt at h ⊢
  obtain ⟨c0, c1, c2, c3, c4, xs', e, h1, h2⟩ := h
  exact ⟨c0, c1, c2, c3, c4, xs', e, LentAt.map hL hR h1, LentsAt.map hL hR h2⟩
end
theorem LentAt.below {w w' : World} {B : Nat} {t : Tm} {v : Value} (h : LentAt w B t v) (hb : Below w.heap.size w w') : LentAt w' B t v := h.map (fun _ _ _ _ h => h.below hb) (fun _ _ _ h => own_below h hb)
theorem LentsAt.below {w w' : World} {B : Nat} {ts : List Tm} {xs : List Value} (h : LentsAt w B ts xs) (hb : Below w.heap.size w w') : LentsAt w' B ts xs := h.map (fun _ _ _ _ h => h.below hb) (fun _ _ _ h => own_below h hb)
theorem LentAt.down {w : World} {B B' : Nat} {t : Tm} {v : Value} (h : LentAt w B t v) (hB : B' ≤ B) : LentAt w B' t v := h.map (fun _ _ _ _ h => h.down hB) (fun _ _ _ h => own_base h hB)
theorem LentsAt.down {w : World} {B B' : Nat} {ts : List Tm} {xs : List Value} (h : LentsAt w B ts xs) (hB : B' ≤ B) : LentsAt w B' ts xs := h.map (fun _ _ _ _ h => h.down hB) (fun _ _ _ h => own_base h hB)
theorem LentAt.grow {w w' : World} {B g : Nat} {t : Tm} {v : Value} (h : LentAt w B t v) (hg : w.grownBy w' (some g)) (hr : TypeAt w (some g) 26) (hB : g < B) : LentAt w' B t v := h.map (fun _ _ _ _ h => h.grow hg hr) (fun _ _ _ h => kept_ne h hg fun b hb e => by injection e with e; have := (h.lt b hb).1; omega)
theorem LentsAt.grow {w w' : World} {B g : Nat} {ts : List Tm} {xs : List Value} (h : LentsAt w B ts xs) (hg : w.grownBy w' (some g)) (hr : TypeAt w (some g) 26) (hB : g < B) : LentsAt w' B ts xs := h.map (fun _ _ _ _ h => h.grow hg hr) (fun _ _ _ h => kept_ne h hg fun b hb e => by injection e with e; have := (h.lt b hb).1; omega)
theorem LentsAt.snoc {w : World} {B : Nat} {t : Tm} {c0 c1 c2 c3 c4 : Value} (ht : LentAt w B t (.agg #[c0, c1, c2, c3, c4])) : ∀ {ts : List Tm} {xs : List Value}, LentsAt w B ts xs → LentsAt w B (ts ++ [t]) (xs ++ [c0, c1, c2, c3, c4])
 | [], xs, h => by
  unfold LentsAt at h
  subst h
  simp only [List.nil_append]
  unfold LentsAt
  refine ⟨c0, c1, c2, c3, c4, [], rfl, ht, ?_⟩
  unfold LentsAt
  rfl
 | s :: ts, xs, h => by
  unfold LentsAt at h
  obtain ⟨d0, d1, d2, d3, d4, xs', rfl, h1, h2⟩ := h
  show LentsAt w B (s :: (ts ++ [t])) _
  unfold LentsAt
  exact ⟨d0, d1, d2, d3, d4, xs' ++ [c0, c1, c2, c3, c4], rfl, h1, h2.snoc ht⟩
theorem LentsAt.length {w : World} {B : Nat} : ∀ {ts : List Tm} {xs : List Value}, LentsAt w B ts xs → xs.length = ts.length * 5
 | [], _, h => by unfold LentsAt at h; subst h; rfl
 | _ :: _, _, h => by
  unfold LentsAt at h
  obtain ⟨c0, c1, c2, c3, c4, xs', rfl, h1, h2⟩ := h
  simp [h2.length]
  omega
theorem LentsAt.get {w : World} {B : Nat} : ∀ {ts : List Tm} {xs : List Value}, LentsAt w B ts xs → ∀ (i : Nat) (t : Tm), ts[i]? = some t → ∃ c0 c1 c2 c3 c4, xs[i * 5]? = some c0 ∧ xs[i * 5 + 1]? = some c1 ∧ xs[i * 5 + 2]? = some c2 ∧ xs[i * 5 + 3]? = some c3 ∧ xs[i * 5 + 4]? = some c4 ∧ LentAt w B t (.agg #[c0, c1, c2, c3, c4])
 | [], _, _, i, t, hi => by simp at hi
 | s :: ts, _, h, 0, t, hi => by
  unfold LentsAt at h
  obtain ⟨c0, c1, c2, c3, c4, xs', rfl, h1, h2⟩ := h
  simp at hi
  subst hi
  exact ⟨c0, c1, c2, c3, c4, rfl, rfl, rfl, rfl, rfl, h1⟩
 | s :: ts, _, h, i + 1, t, hi => by
  unfold LentsAt at h
  obtain ⟨d0, d1, d2, d3, d4, xs', rfl, h1, h2⟩ := h
  obtain ⟨c0, c1, c2, c3, c4, q0, q1, q2, q3, q4, q5⟩ := h2.get i t (by simpa using hi)
  have e : (i + 1) * 5 = i * 5 + 5 := by omega
  refine ⟨c0, c1, c2, c3, c4, ?_, ?_, ?_, ?_, ?_, q5⟩ <;> rw [e] <;> simpa [Nat.add_assoc]
theorem LentAt.tm {w : World} : ∀ (t : Tm) {B : Nat} {v : Value}, LentAt w B t v → t.count ≤ 1000000 → TmAt w w.heap.size t v := by
 intro t
 induction t using Tm.ind with
 | h k n a lv kids ih =>
  intro B v h hc
  obtain ⟨gl, cl, gk, ck, ys, rfl, h1, h2, h3⟩ := h.open
  rw [Tm.count_mk] at hc
  refine TmAt.make (fun e => by cases e) (h1.levs rfl fun l hl => by have := lensSum_mem lv l hl; omega) ⟨(fun e => by cases e), fun _ => ⟨gk, 0, rfl, (h2.lt gk rfl).2, TmsAt.of fun i t ht => ?_⟩⟩
  obtain ⟨c0, c1, d2, c3, c4, s0, s1, s2, s3, s4, s5⟩ := h3.get i t ht
  have hi' : i < kids.length := (List.getElem?_eq_some_iff.1 ht).1
  have hl := h3.length
  have hm := Tm.countL_mem (List.mem_of_getElem? ht)
  refine ⟨_, ⟨c0, c1, d2, c3, c4, rfl, ?_, ?_, ?_, ?_, ?_⟩, ih t (List.mem_of_getElem? ht) s5 (by omega)⟩
  ·rw [show 0 + i * 5 = i * 5 by omega, h2.cellAt (i * 5) (by omega), List.getElem?_append_left (by omega)]; exact s0
  ·rw [show 0 + i * 5 + 1 = i * 5 + 1 by omega, h2.cellAt (i * 5 + 1) (by omega), List.getElem?_append_left (by omega)]; exact s1
  ·rw [show 0 + i * 5 + 2 = i * 5 + 2 by omega, h2.cellAt (i * 5 + 2) (by omega), List.getElem?_append_left (by omega)]; exact s2
  ·rw [show 0 + i * 5 + 3 = i * 5 + 3 by omega, h2.cellAt (i * 5 + 3) (by omega), List.getElem?_append_left (by omega)]; exact s3
  ·rw [show 0 + i * 5 + 4 = i * 5 + 4 by omega, h2.cellAt (i * 5 + 4) (by omega), List.getElem?_append_left (by omega)]; exact s4
def LentRow (w : World) (B : Nat) (ts : List Tm) (n g cap : Nat) : Prop := ∃ ys, w.ownsRow B 26 5 (.slice (some ⟨g, 0, none⟩) (n + 12) cap) (n + 12) (ys ++ mt 1 12) ∧ LentsAt w B ts ys
theorem LentRow.below {w w' : World} {B : Nat} {ts : List Tm} {n g cap : Nat} (h : LentRow w B ts n g cap) (hb : Below w.heap.size w w') : LentRow w' B ts n g cap := by
 obtain ⟨ys, h1, h2⟩ := h
 exact ⟨ys, own_below h1 hb, h2.below hb⟩
theorem LentRow.tms {w : World} {B : Nat} {ts : List Tm} {n g cap : Nat} (h : LentRow w B ts n g cap) (hn : ts.length = n) (hc : Tm.countL ts ≤ 1000000) : Tms w w.heap.size (some ⟨g, 0, none⟩) cap ts := by
 obtain ⟨ys, h2, h3⟩ := h
 refine ⟨(fun e => by cases e), fun _ => ⟨g, 0, rfl, (h2.lt g rfl).2, TmsAt.of fun i t ht => ?_⟩⟩
 obtain ⟨c0, c1, d2, c3, c4, s0, s1, s2, s3, s4, s5⟩ := h3.get i t ht
 have hi' : i < ts.length := (List.getElem?_eq_some_iff.1 ht).1
 have hl := h3.length
 have hm := Tm.countL_mem (List.mem_of_getElem? ht)
 refine ⟨_, ⟨c0, c1, d2, c3, c4, rfl, ?_, ?_, ?_, ?_, ?_⟩, s5.tm t (by omega)⟩
 ·rw [show 0 + i * 5 = i * 5 by omega, h2.cellAt (i * 5) (by omega), List.getElem?_append_left (by omega)]; exact s0
 ·rw [show 0 + i * 5 + 1 = i * 5 + 1 by omega, h2.cellAt (i * 5 + 1) (by omega), List.getElem?_append_left (by omega)]; exact s1
 ·rw [show 0 + i * 5 + 2 = i * 5 + 2 by omega, h2.cellAt (i * 5 + 2) (by omega), List.getElem?_append_left (by omega)]; exact s2
 ·rw [show 0 + i * 5 + 3 = i * 5 + 3 by omega, h2.cellAt (i * 5 + 3) (by omega), List.getElem?_append_left (by omega)]; exact s3
 ·rw [show 0 + i * 5 + 4 = i * 5 + 4 by omega, h2.cellAt (i * 5 + 4) (by omega), List.getElem?_append_left (by omega)]; exact s4
def LentTP (w : World) (t : Tm) (e : Ending) (w' : World) : Prop := ∃ v, e = .returned v ∧ LentAt w' w.heap.size t v ∧ Below w.heap.size w w'
def LentTsP (w : World) (ts : List Tm) (n : Nat) (e : Ending) (w' : World) : Prop := ∃ g cap, e = .returned (.slice (some ⟨g, 0, none⟩) n cap) ∧ LentRow w' w.heap.size ts n g cap ∧ Below w.heap.size w w'
def LentTm (t : Tm) : Prop := ∀ (v : Value) (w : World), t.count ≤ 100000 → TmAt w w.heap.size t v → Calls Tryz.prog 9 #[v] w (LentTP w t)
set_option maxHeartbeats 4000000 in
theorem lentTerms_of (kids : List Tm) (ih : ∀ t ∈ kids, LentTm t) (A : Option Addr) (c n : Nat) (w : World) (hn : kids.length = n) (hc : Tm.countL kids ≤ 100000) (h : Tms w w.heap.size A c kids) :
  Calls Tryz.prog 10 #[.slice A n c] w (LentTsP w kids n) := by
 obtain ⟨i0, hi, hz0, hz1, hz2⟩ := info_parts infoTm
 have hm : n ≤ 100000 := by have := Tm.countL_length kids; omega
 have q1 : IntKind.i64.wrap ((n : Int) + 12) = (n : Int) + 12 := IntWalk.i64_in _ (by omega)
 have HL := Lib.hid h
 have HN := Lib.hid hn
 have HC := Lib.hid hc
 have IH := Lib.hid ih
 clear h hn hc ih
 go_enter Tryz.func10, Tryz.ntmps10
 go_wp2_with (at_make; refine wpList_make_own _ rfl _ _ 24 rfl w.heap.size 26 i0 (.agg #[.int .i64 0, .int .i64 0, .int .i64 0, .slice none 0 0, .slice none 0 0]) 5 Tryz.underlying24 hi hz0 hz1 _ _ _ (n + 12) rfl rfl (by omega) ?b1 ?b2 ?b3 ?_)
 case b1 => rw [hz2]; omega
 case b2 => unfold maxLen; omega
 case b3 => exact Nat.le_refl _
 intro w1 ho1 hg1
 have HO : Hid (w1.ownsRow w.heap.size 26 5 (.slice (some ⟨w.heap.size, 0, none⟩) 0 (n + 12)) 0 []) := ho1
 have HB1 : Hid (Below w.heap.size w w1) := grown_below hg1
 have hs1 : w.heap.size < w1.heap.size := (ho1.lt w.heap.size rfl).2
 clear ho1 hg1
 go_wp2
 go_loopw [3, 4] (fun lv i wr => ∃ (k : Nat) (ys : List Value), k ≤ n ∧ lv = .slice (some ⟨w.heap.size, 0, none⟩) k (n + 12) ∧ i = .int .i64 (k : Int) ∧ Below w.heap.size w wr ∧ w.heap.size < wr.heap.size ∧ wr.ownsRow w.heap.size 26 5 (.slice (some ⟨w.heap.size, 0, none⟩) k (n + 12)) k ys ∧ LentsAt wr (w.heap.size + 1) (kids.take k) ys) (fun _ i _ => n - (intOf i).toNat)
 case atStart => exact ⟨0, [], by omega, rfl, rfl, HB1.out, hs1, HO.out, by rw [List.take_zero]; unfold LentsAt; rfl⟩
 clear HO HB1
 case round =>
  obtain ⟨k, ys, hk, rfl, rfl, hb, hsz, hrow, hls⟩ := hrel
  have hbz := hb.size
  have HB := Lib.hid hb
  have HR := Lib.hid hrow
  have HLS := Lib.hid hls
  by_cases hlt : k < n
  ·obtain ⟨t, ht⟩ : ∃ t, kids[k]? = some t := ⟨_, List.getElem?_eq_getElem (by rw [HN.out]; exact hlt)⟩
   obtain ⟨b, o, k1, n1, a1, A1, p1, c1, A2, p2, c2, e, hbB, hv, f0, f1, f2, f3, f4⟩ := HL.out.at hb ht
   subst e
   have hm1 := Tm.countL_mem (List.mem_of_getElem? ht)
   have hcc := HC.out
   have HCL := Lib.hid (IH.out t (List.mem_of_getElem? ht) _ wr (by omega) (hv.below hb hbz))
   have HTK := Lib.hid (take_snoc_ ht)
   have ij0 : (0 : Int) ≤ (k : Int) := by omega
   have ij1 : (k : Int) < (n : Int) := by omega
   clear hb hrow hls hv ht hm1 hcc
   go_wp2_with (fail)
   refine HCL.out.mono ?_
   rintro e w4 ⟨v4, rfl, hlent, hb4⟩
   obtain ⟨k5, n5, a5, lv5, kids5⟩ := t
   obtain ⟨gl, cl, gk, ck, zs, rfl, _, _, _⟩ := hlent.open
   obtain ⟨p5, hp5⟩ : ∃ p, lv5.length = p := ⟨_, rfl⟩
   obtain ⟨p6, hp6⟩ : ∃ p, kids5.length = p := ⟨_, rfl⟩
   rw [hp5, hp6] at hlent ⊢
   have hs4 := hb4.size
   have hb5 : Below w4.heap.size w4 (w4.alloc (.cells #[.int .i64 k5, .int .i64 n5, .int .i64 a5, .slice (some ⟨gl, 0, none⟩) p5 cl, .slice (some ⟨gk, 0, none⟩) p6 ck] 26)) := (Below.refl _ _).alloc (Nat.le_refl _) _
   have x5 := heap_alloc_new w4 (.cells #[.int .i64 k5, .int .i64 n5, .int .i64 a5, .slice (some ⟨gl, 0, none⟩) p5 cl, .slice (some ⟨gk, 0, none⟩) p6 ck] 26)
   have HR5 := Lib.hid (own_below HR.out hb4)
   have HLS5 := Lib.hid (HLS.out.below hb4)
   have HLE5 := Lib.hid (hlent.down (B' := w.heap.size + 1) (by omega))
   have HB4 := Lib.hid (HB.out.trans (hb4.mono hbz))
   have HB5 := Lib.hid hb5
   have HX5 := Lib.hid x5
   clear hb4 hlent HR HLS HCL HB hb5 x5 hp5 hp6 f0 f1 f2 f3 f4
   go_upto_region 6 with (fail)
   obtain ⟨w5, hw5⟩ : ∃ x, w4.alloc (.cells #[.int .i64 k5, .int .i64 n5, .int .i64 a5, .slice (some ⟨gl, 0, none⟩) p5 cl, .slice (some ⟨gk, 0, none⟩) p6 ck] 26) = x := ⟨_, rfl⟩
   rw [hw5] at HB5 HX5 ⊢
   clear hw5
   have g0 := cell_of_row _ _ 0 _ _ (0, 0) HX5.out
   have g1 := cell_of_row _ _ 1 _ _ (0, 0) HX5.out
   have g2 := cell_of_row _ _ 2 _ _ (0, 0) HX5.out
   have g3 := cell_of_row _ _ 3 _ _ (0, 0) HX5.out
   have g4 := cell_of_row _ _ 4 _ _ (0, 0) HX5.out
   have hs5 := HB5.out.size
   have hb7 : Below w5.heap.size w5 (w5.alloc (.cells #[.int .i64 k5, .int .i64 n5, .int .i64 a5, .slice (some ⟨gl, 0, none⟩) p5 cl, .slice (some ⟨gk, 0, none⟩) p6 ck] 26)) := (Below.refl _ _).alloc (Nat.le_refl _) _
   have HR7 := Lib.hid (own_below (own_below HR5.out HB5.out) hb7)
   have HLS7 := Lib.hid ((HLS5.out.below HB5.out).below hb7)
   have HLE7 := Lib.hid ((HLE5.out.below HB5.out).below hb7)
   have HB7 := Lib.hid ((HB4.out.trans (HB5.out.mono (by omega))).trans (hb7.mono (by omega)))
   have HNW := Lib.hid (heap_alloc_new w5 (.cells #[.int .i64 k5, .int .i64 n5, .int .i64 a5, .slice (some ⟨gl, 0, none⟩) p5 cl, .slice (some ⟨gk, 0, none⟩) p6 ck] 26))
   clear hb7 HR5 HLS5 HLE5 HB4 HB5 HX5
   go_wp2_with (at_builtin; refine wpList_append_own_spare _ rfl _ _ 24 rfl w.heap.size 26 i0 5 Tryz.underlying24 hi hz1 w.heap.size k (n + 12) ys rfl HR7.out ⟨w5.heap.size, 0, none⟩ 1 1 [.int .i64 k5, .int .i64 n5, .int .i64 a5, .slice (some ⟨gl, 0, none⟩) p5 cl, .slice (some ⟨gk, 0, none⟩) p6 ck] rfl rfl (World.news_of_block (cs := #[.int .i64 k5, .int .i64 n5, .int .i64 a5, .slice (some ⟨gl, 0, none⟩) p5 cl, .slice (some ⟨gk, 0, none⟩) p6 ck]) (t := 26) (fr := (0, 0)) HNW.out) (by simp [Value.oneCell']) (by omega) ?_)
   intro w8 ho hg
   have hat : TypeAt (w5.alloc (.cells #[.int .i64 k5, .int .i64 n5, .int .i64 a5, .slice (some ⟨gl, 0, none⟩) p5 cl, .slice (some ⟨gk, 0, none⟩) p6 ck] 26)) (some w.heap.size) 26 := own_at HR7.out
   have HB8 : Hid (Below w.heap.size w w8) := HB7.out.grown hg (by simp; omega) (fun k e => by injection e with e; omega)
   have hs8 : w.heap.size < w8.heap.size := (ho.lt w.heap.size rfl).2
   have HR8 := Lib.hid ho
   have HLS8 : Hid (LentsAt w8 (w.heap.size + 1) (kids.take (k + 1)) (ys ++ [.int .i64 k5, .int .i64 n5, .int .i64 a5, .slice (some ⟨gl, 0, none⟩) p5 cl, .slice (some ⟨gk, 0, none⟩) p6 ck])) := by
    rw [HTK.out]
    exact (HLS7.out.grow hg hat (by omega)).snoc (HLE7.out.grow hg hat (by omega))
   clear ho hg HR7 HLS7 HLE7 HB7 hat g0 g1 g2 g3 g4
   go_wp2
   go_roundw
   case rel => exact ⟨k + 1, _, by omega, rfl, by go_num, HB8.out, hs8, HR8.out, HLS8.out⟩
   case measure => simp [intOf]; omega
  ·have ek : k = n := by omega
   have hq : kids.take k = kids := List.take_of_length_le (by rw [HN.out]; omega)
   rw [hq] at hls
   subst ek
   clear HR HLS
   have HR := Lib.hid hrow
   have HLS := Lib.hid hls
   have hyl : ys.length = k * 5 := hrow.1
   clear hb hrow hls hq
   go_wp2
   go_loopw [3, 6] (fun lv i wr => ∃ (j : Nat), j ≤ 12 ∧ lv = .slice (some ⟨w.heap.size, 0, none⟩) (k + j) (k + 12) ∧ i = .int .i64 (j : Int) ∧ Below w.heap.size w wr ∧ w.heap.size < wr.heap.size ∧ wr.ownsRow w.heap.size 26 5 (.slice (some ⟨w.heap.size, 0, none⟩) (k + j) (k + 12)) (k + j) (ys ++ mt 1 j) ∧ LentsAt wr (w.heap.size + 1) kids ys) (fun _ i _ => 12 - (intOf i).toNat)
   case atStart => exact ⟨0, by omega, rfl, rfl, HB.out, hsz, by rw [show mt 1 0 = [] from rfl, List.append_nil]; exact HR.out, HLS.out⟩
   clear HR HLS HB hbz hsz
   case round =>
    obtain ⟨j, hj, rfl, rfl, hb, hsz, hrow, hls⟩ := hrel
    have hbz := hb.size
    by_cases hjn : j < 12
    ·obtain ⟨m, hmm⟩ : ∃ m, (1000003 : Int) * (((1 : Nat) : Int) + 7) + (j : Int) = m := ⟨_, rfl⟩
     have HM : Hid (Calls Tryz.prog 27 #[.int .i64 1, .int .i64 (j : Int)] wr (MarkTPost wr m)) := by
      have := markTerm_any 1 (j : Int) wr (by omega) (by omega)
      rwa [show (1000003 : Int) * (1 + 7) + (j : Int) = m by rw [← hmm]; omega] at this
     have HMT : Hid (mt 1 (j + 1) = mt 1 j ++ [.int .i64 0, .int .i64 m, .int .i64 0, .slice none 0 0, .slice none 0 0]) := by rw [← hmm]; exact mt_next 1 j
     have HB := Lib.hid hb
     have HR := Lib.hid hrow
     have HLS := Lib.hid hls
     clear hb hrow hls hmm
     go_wp2_with (fail)
     refine HM.out.mono ?_
     rintro e w4 ⟨rfl, hb4⟩
     have hs4 := hb4.size
     have hb5 : Below w4.heap.size w4 (w4.alloc (.cells #[.int .i64 0, .int .i64 m, .int .i64 0, .slice none 0 0, .slice none 0 0] 26)) := (Below.refl _ _).alloc (Nat.le_refl _) _
     have HR5 := Lib.hid (own_below (own_below HR.out hb4) hb5)
     have HLS5 := Lib.hid ((HLS.out.below hb4).below hb5)
     have HB5 := Lib.hid ((HB.out.trans (hb4.mono hbz)).trans (hb5.mono (by omega)))
     have HNW := Lib.hid (heap_alloc_new w4 (.cells #[.int .i64 0, .int .i64 m, .int .i64 0, .slice none 0 0, .slice none 0 0] 26))
     clear hb4 hb5 HM HR HLS HB
     go_wp2_with (at_builtin; refine wpList_append_own_spare _ rfl _ _ 24 rfl w.heap.size 26 i0 5 Tryz.underlying24 hi hz1 w.heap.size (k + j) (k + 12) (ys ++ mt 1 j) rfl HR5.out ⟨w4.heap.size, 0, none⟩ 1 1 [.int .i64 0, .int .i64 m, .int .i64 0, .slice none 0 0, .slice none 0 0] rfl rfl (World.news_of_block (cs := #[.int .i64 0, .int .i64 m, .int .i64 0, .slice none 0 0, .slice none 0 0]) (t := 26) (fr := (0, 0)) HNW.out) (by simp [Value.oneCell']) (by omega) ?_)
     intro w8 ho hg
     have hat : TypeAt (w4.alloc (.cells #[.int .i64 0, .int .i64 m, .int .i64 0, .slice none 0 0, .slice none 0 0] 26)) (some w.heap.size) 26 := own_at HR5.out
     have HB8 : Hid (Below w.heap.size w w8) := HB5.out.grown hg (by simp; omega) (fun k e => by injection e with e; omega)
     have hs8 : w.heap.size < w8.heap.size := (ho.lt w.heap.size rfl).2
     have HR8 : Hid (w8.ownsRow w.heap.size 26 5 (.slice (some ⟨w.heap.size, 0, none⟩) (k + (j + 1)) (k + 12)) (k + (j + 1)) (ys ++ mt 1 (j + 1))) := by
      rw [HMT.out, ← Nat.add_assoc]
      exact ho
     have HLS8 := Lib.hid (HLS5.out.grow hg hat (by omega))
     clear ho hg HR5 HLS5 HB5 hat
     go_wp2
     go_roundw
     case rel => exact ⟨j + 1, by omega, by rw [Nat.add_assoc], by go_num, HB8.out, hs8, HR8.out, HLS8.out⟩
     case measure => simp [intOf]; omega
    ·have ej : j = 12 := by omega
     subst ej
     have HFIN : Hid (LentTsP w kids k (.returned (.slice (some ⟨w.heap.size, 0, none⟩) k (k + 12))) wr) := ⟨_, _, rfl, ⟨ys, hrow, hls.down (by omega)⟩, hb⟩
     have hc4 : (k : Int) ≤ ((k + 12 : Nat) : Int) := by omega
     have hc5 : (0 : Int) ≤ (k : Int) := by omega
     clear hb hrow hls
     go_wp2
     go_ret
     exact HFIN.out
set_option maxHeartbeats 4000000 in
theorem lentTerm_of (k n a : Int) (lv : List (List (Int × Int))) (kids : List Tm) (ih : ∀ t ∈ kids, LentTm t) : LentTm (.mk k n a lv kids) := by
 intro v w hc hv
 obtain ⟨Al, cl, Ak, ck, rfl, h2, h3, h4⟩ := hv.open
 rw [Tm.count_mk] at hc
 have h6 : ∀ l ∈ lv, l.length ≤ 100000 := fun l hl => by have := lensSum_mem lv l hl; omega
 have h7 : lv.length ≤ 100000 := by have := lensSum_length lv; omega
 obtain ⟨pl, hpl⟩ : ∃ p, lv.length = p := ⟨_, rfl⟩
 obtain ⟨pk, hpk⟩ : ∃ p, kids.length = p := ⟨_, rfl⟩
 rw [hpl, hpk]
 obtain ⟨w1, hw1⟩ : ∃ x, (w.alloc (.cells #[.int .i64 k, .int .i64 n, .int .i64 a, .slice Al pl cl, .slice Ak pk ck] 26)).alloc (.cells #[.int .i64 0, .int .i64 0, .int .i64 0, .slice none 0 0, .slice none 0 0] 26) = x := ⟨_, rfl⟩
 obtain ⟨x0, x1, _⟩ := two_allocs w (.cells #[.int .i64 k, .int .i64 n, .int .i64 a, .slice Al pl cl, .slice Ak pk ck] 26) (.cells #[.int .i64 0, .int .i64 0, .int .i64 0, .slice none 0 0, .slice none 0 0] 26)
 have hb1 : Below w.heap.size w w1 := by rw [← hw1]; exact ((Below.refl _ _).alloc (Nat.le_refl _) _).alloc (by simp) _
 rw [hw1] at x0 x1
 have hs1 : w1.heap.size = w.heap.size + 2 := by rw [← hw1]; simp
 have HC1 := Lib.hid (lentLevels_any Al lv cl pl w1 hpl (by omega) h6 ((h3.below hb1).more hb1.size))
 have HC2 : Hid (∀ w', Below w.heap.size w w' → Calls Tryz.prog 10 #[.slice Ak pk ck] w' (LentTsP w' kids pk)) := fun w' hx => lentTerms_of kids ih Ak ck pk w' hpk (by omega) (h4.below hx hx.size)
 have X0 := Lib.hid x0
 have X1 := Lib.hid x1
 have HB1 := Lib.hid hb1
 have y3 := cell_of_row _ _ 3 _ _ (0, 0) x0
 have HPL := Lib.hid hpl
 have HPK := Lib.hid hpk
 clear hv h2 h3 h4 h6 h7 hpl hpk x0 x1 hb1 hc ih
 go_enter Tryz.func9, Tryz.ntmps9
 go_wp2_with (fail)
 refine HC1.out.mono ?_
 rintro e w2 ⟨gl, kl, rfl, hlr, hb2⟩
 have hs2 := hb2.size
 have e0 := (hb2.block w.heap.size (by omega)).trans X0.out
 have r0 := thawed e0 3
 have z3 := cell_of_row _ _ 3 _ _ (0, 0) e0
 have e1 := set_same e0 3 (.slice (some ⟨gl, 0, none⟩) pl kl)
 have q1 := (hb2.block (w.heap.size + 1) (by omega)).trans X1.out
 obtain ⟨w3, hw3⟩ : ∃ x, w2.setCell ⟨w.heap.size, 3, none⟩ (.slice (some ⟨gl, 0, none⟩) pl kl) = x := ⟨_, rfl⟩
 have hg3 : w2.grownBy w3 (some w.heap.size) := by rw [← hw3]; exact setCell_grown _ _ _ _
 have hs3 : w3.heap.size = w2.heap.size := by rw [← hw3]; simp [World.setCell]
 rw [hw3] at e1
 have hlr3 := hlr.grow hg3 fun b e => by injection e with e; subst e; exact ⟨_, _, e0⟩
 have q3 := (hg3.block (w.heap.size + 1) (by omega) (by simp)).trans q1
 have HB3 : Hid (Below w.heap.size w w3) := (HB1.out.trans (hb2.mono (by omega))).grown hg3 (by omega) (fun b e => by injection e with e; omega)
 have HLR3 := Lib.hid (hlr3.down (B' := w.heap.size) (by omega))
 have E1 := Lib.hid e1
 have Q3 := Lib.hid q3
 have y4 := cell_of_row _ _ 4 _ _ (0, 0) e1
 clear hlr hlr3 hb2 hg3 e0 e1 q1 q3 HC1 y3
 have HC3 := Lib.hid (HC2.out w3 HB3.out)
 go_wp2_with (fail)
 refine HC3.out.mono ?_
 rintro e w4 ⟨gk, kk, rfl, hlr4, hb4⟩
 have hs4 := hb4.size
 have e4 := (hb4.block w.heap.size (by omega)).trans E1.out
 have r4 := thawed e4 4
 have z4 := cell_of_row _ _ 4 _ _ (0, 0) e4
 have e5 := set_same e4 4 (.slice (some ⟨gk, 0, none⟩) pk kk)
 have q5 := (hb4.block (w.heap.size + 1) (by omega)).trans Q3.out
 obtain ⟨w5, hw5⟩ : ∃ x, w4.setCell ⟨w.heap.size, 4, none⟩ (.slice (some ⟨gk, 0, none⟩) pk kk) = x := ⟨_, rfl⟩
 have hg5 : w4.grownBy w5 (some w.heap.size) := by rw [← hw5]; exact setCell_grown _ _ _ _
 have hs5 : w5.heap.size = w4.heap.size := by rw [← hw5]; simp [World.setCell]
 rw [hw5] at e5
 have hat4 : TypeAt w4 (some w.heap.size) 26 := fun b e => by injection e with e; subst e; exact ⟨_, _, e4⟩
 have q6 := (hg5.block (w.heap.size + 1) (by omega) (by simp)).trans q5
 have a0 := cell_of_row _ _ 0 _ _ (0, 0) e5
 have a1 := cell_of_row _ _ 1 _ _ (0, 0) e5
 have a2 := cell_of_row _ _ 2 _ _ (0, 0) e5
 have a3 := cell_of_row _ _ 3 _ _ (0, 0) e5
 have a4 := cell_of_row _ _ 4 _ _ (0, 0) e5
 have b0 := cell_of_row _ _ 0 _ _ (0, 0) q6
 have b1 := cell_of_row _ _ 1 _ _ (0, 0) q6
 have b2 := cell_of_row _ _ 2 _ _ (0, 0) q6
 have b3 := cell_of_row _ _ 3 _ _ (0, 0) q6
 have b4 := cell_of_row _ _ 4 _ _ (0, 0) q6
 have t0 := thawed q6 0
 have t1 := thawed q6 1
 have t2 := thawed q6 2
 have t3 := thawed q6 3
 have t4 := thawed q6 4
 obtain ⟨g9, s9, cur9, h9, _, hc9⟩ := store5_post q6 (o := 0) (by simp) (.int .i64 k) (.int .i64 n) (.int .i64 a) (.slice (some ⟨gl, 0, none⟩) pl kl) (.slice (some ⟨gk, 0, none⟩) pk kk)
 have u0 := row_cell h9 hc9.1
 have u1 := row_cell h9 hc9.2.1
 have u2 := row_cell h9 hc9.2.2.1
 have u3 := row_cell h9 hc9.2.2.2.1
 have u4 := row_cell h9 hc9.2.2.2.2
 have HFIN : Hid (LentTP w (.mk k n a lv kids) (.returned (.agg #[.int .i64 k, .int .i64 n, .int .i64 a, .slice (some ⟨gl, 0, none⟩) pl kl, .slice (some ⟨gk, 0, none⟩) pk kk])) (store5 w5 (w.heap.size + 1) 0 (.int .i64 k) (.int .i64 n) (.int .i64 a) (.slice (some ⟨gl, 0, none⟩) pl kl) (.slice (some ⟨gk, 0, none⟩) pk kk))) := by
  have hpl := HPL.out
  have hpk := HPK.out
  subst hpl hpk
  have hq6 : TypeAt w5 (some (w.heap.size + 1)) 26 := fun b e => by injection e with e; subst e; exact ⟨_, _, q6⟩
  have l1 := ((HLR3.out.below hb4).grow hg5 hat4).grow g9 hq6
  obtain ⟨ys, m1, m2⟩ := hlr4
  have m3 := (kept_ne (kept_ne m1 hg5 fun b hb e => by injection e with e; have := (m1.lt b hb).1; omega) g9 fun b hb e => by injection e with e; have := (m1.lt b hb).1; omega)
  have m4 := (m2.grow hg5 hat4 (by omega)).grow g9 hq6 (by omega)
  refine ⟨_, rfl, ?_, ((HB3.out.trans (hb4.mono (by omega))).grown hg5 (by omega) (fun b e => by injection e with e; omega)).grown g9 (by omega) (fun b e => by injection e with e; omega)⟩
  unfold LentAt
  exact ⟨gl, kl, gk, kk, ys, rfl, l1, own_base m3 (by omega), m4.down (by omega)⟩
 unfold store5 at HFIN u0 u1 u2 u3 u4
 clear g9 s9 h9 hc9 e4 e5 q5 q6 hb4 hlr4 hg5 hat4 hs5 HC3 HC2 y4
 go_wp2
 exact bodyPost_ret (v := .agg #[.int .i64 k, .int .i64 n, .int .i64 a, .slice (some ⟨gl, 0, none⟩) pl kl, .slice (some ⟨gk, 0, none⟩) pk kk]) (by simp [results, Tryz.results9, go_sem, u0, u1, u2, u3, u4]) rfl HFIN.out
theorem lentTerm_any : ∀ t : Tm, LentTm t := by
 intro t
 induction t using Tm.ind with
 | h k n a lv kids ih => exact lentTerm_of k n a lv kids ih
theorem lentTerms_any (ts : List Tm) (A : Option Addr) (c n : Nat) (w : World) (hn : ts.length = n) (hc : Tm.countL ts ≤ 100000) (h : Tms w w.heap.size A c ts) :
  Calls Tryz.prog 10 #[.slice A n c] w (LentTsP w ts n) := lentTerms_of ts (fun t _ => lentTerm_any t) A c n w hn hc h
end Go.Proofs.YtafgmndlbbjphaaGreatDoor
