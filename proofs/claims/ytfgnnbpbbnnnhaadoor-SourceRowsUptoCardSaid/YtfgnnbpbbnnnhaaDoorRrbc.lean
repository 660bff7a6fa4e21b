/- Laws. -/
import Derived.Test.YtfgnnbpbbnnnhaaDoorRram
import Derived.Test.YtfgnnbpbbnnnhaaDoorRras
import Derived.Test.YtfgnnbpbbnnnhaaDoorRray
import Derived.Test.YtfgnnbpbbnnnhaaDoorRraz
import Derived.Test.YtfgnnbpbbnnnhaaDoorRrba
import Derived.Test.YtfgnnbpbbnnnhaaDoorRrbb
namespace Go.Proofs.YtfgnnbpbbnnnhaaDoor
open Go.RowKit Go.Shelf
attribute [local go_sem] Oper.semAt_some
/-- a row's types above a term -/
def aboveT (k : Int) (b : Tm) (ts : List Tm) : Tm := ts.foldr (fun t acc => .mk k 0 0 [] [t, acc]) b
/-- what there is when these have come -/
def accI (k : Int) (b : Tm) (ts : List Tm) (is : List Nat) : Tm := is.foldl (fun acc i => .mk k 0 0 [] [ts.getD i b, acc]) b
theorem accI_snoc (k : Int) (b : Tm) (ts : List Tm) (is : List Nat) (i : Nat) : accI k b ts (is ++ [i]) = .mk k 0 0 [] [ts.getD i b, accI k b ts is] := by simp [accI]
theorem range_getD (ts : List Tm) (b : Tm) : (List.range ts.length).map (fun i => ts.getD i b) = ts := by
  apply List.ext_getElem
  · simp
  · intro i h1 h2
    simp [h2]
theorem accI_all (k : Int) (b : Tm) (ts : List Tm) : accI k b ts (List.range ts.length).reverse = aboveT k b ts := by
  unfold accI aboveT
  rw [List.foldl_reverse]
  conv => rhs; rw [← range_getD ts b]
  rw [List.foldr_map]
/-- what is out so far -/
def OutAt (W : World) (gs : List Nat) (g : Nat) (T : Tm) : Prop := ∃ (d0 d1 d2 : Int) (A1 : Option Addr) (n1 c1 : Nat) (A2 : Option Addr) (n2 c2 : Nat), W.heap[g]? = some (.cells #[.int .i64 d0, .int .i64 d1, .int .i64 d2, .slice A1 n1 c1, .slice A2 n2 c2] 27 (0, 0)) ∧ AwayS gs W T (.agg #[.int .i64 d0, .int .i64 d1, .int .i64 d2, .slice A1 n1 c1, .slice A2 n2 c2])
theorem outAt_own {β : Type} (B : Nat) (gs : List Nat) (g : Nat) (f : β → Tm) : OwnFrom B (fun s W => OutAt W gs g (f s)) := fun s X Y row hs hg hr => by
  obtain ⟨d0, d1, d2, A1, n1, c1, A2, n2, c2, h1, h2⟩ := hs
  exact ⟨d0, d1, d2, A1, n1, c1, A2, n2, c2, (grownBy_keeps_cells hg (fun r e => (hr r e).2) h1 rfl).trans h1, h2.step hg.size fun p u _ e => cell_kept e hg (fun r e => (hr r e).2)⟩
theorem cells_own {β : Type} (B g : Nat) (cs : Array Value) (t : TypeId) : OwnFrom B (fun (_ : β) W => W.heap[g]? = some (.cells cs t (0, 0))) := fun _ _ _ _ hs hg hr =>
  (grownBy_keeps_cells hg (fun r e => (hr r e).2) hs rfl).trans hs
theorem keepsFrom_below (B : Nat) {W W' : World} (h : Below W.heap.size W W') : KeepsFrom B W W' := ⟨h.size, fun k _ _ e _ => (h.block k (heap_some_lt e)).trans e⟩
/-- a term in memory made since -/
def FreshT (w w' : World) (t : Tm) (v : Value) : Prop := AwayS (List.range w.heap.size) w' t v
/-- one more binder -/
theorem out_more {W wC wO : World} {gs : List Nat} {g : Nat} {T t : Tm} {k : Int} {d0 d1 d2 e0 e1 e2 : Int} {A1 A2 B1 B2 : Option Addr} {n1 c1 n2 c2 q1 r1 q2 r2 : Nat} (hgs : ∀ b ∈ gs, b < W.heap.size) (hgm : g ∈ gs) (hg : g < W.heap.size)
    (h1 : W.heap[g]? = some (.cells #[.int .i64 d0, .int .i64 d1, .int .i64 d2, .slice A1 n1 c1, .slice A2 n2 c2] 27 (0, 0))) (h2 : AwayS gs W T (.agg #[.int .i64 d0, .int .i64 d1, .int .i64 d2, .slice A1 n1 c1, .slice A2 n2 c2]))
    (hb1 : Below W.heap.size W wC) (hO : OwnTm wC W.heap.size wC.heap.size t (.agg #[.int .i64 e0, .int .i64 e1, .int .i64 e2, .slice B1 q1 r1, .slice B2 q2 r2]))
    (hb2 : Below (wC.heap.size + 1) (wC.alloc (.cells #[.int .i64 e0, .int .i64 e1, .int .i64 e2, .slice B1 q1 r1, .slice B2 q2 r2, .int .i64 d0, .int .i64 d1, .int .i64 d2, .slice A1 n1 c1, .slice A2 n2 c2] 27)) wO) :
    OutAt (((((wO.setCell ⟨g, 0, none⟩ (.int .i64 k)).setCell ⟨g, 1, none⟩ (.int .i64 0)).setCell ⟨g, 2, none⟩ (.int .i64 0)).setCell ⟨g, 3, none⟩ (.slice none 0 0)).setCell ⟨g, 4, none⟩ (.slice (some ⟨wC.heap.size, 0, none⟩) 2 2)) gs g (.mk k 0 0 [] [t, T]) := by
  have hsC := hb1.size
  have hx := heap_alloc_new wC (.cells #[.int .i64 e0, .int .i64 e1, .int .i64 e2, .slice B1 q1 r1, .slice B2 q2 r2, .int .i64 d0, .int .i64 d1, .int .i64 d2, .slice A1 n1 c1, .slice A2 n2 c2] 27)
  have hbA : Below wC.heap.size wC (wC.alloc (.cells #[.int .i64 e0, .int .i64 e1, .int .i64 e2, .slice B1 q1 r1, .slice B2 q2 r2, .int .i64 d0, .int .i64 d1, .int .i64 d2, .slice A1 n1 c1, .slice A2 n2 c2] 27)) := (Below.refl _ _).alloc (Nat.le_refl _) _
  have hbO : Below wC.heap.size wC wO := hbA.trans (hb2.mono (by omega))
  have hsO := hbO.size
  have yC := (hb1.block _ hg).trans h1
  have yO := (hbO.block _ (heap_some_lt yC)).trans yC
  have h5 := five_set yO (.int .i64 k) (.int .i64 0) (.int .i64 0) (.slice none 0 0) (.slice (some ⟨wC.heap.size, 0, none⟩) 2 2)
  have hsz := five_size wO g (.int .i64 k) (.int .i64 0) (.int .i64 0) (.slice none 0 0) (.slice (some ⟨wC.heap.size, 0, none⟩) 2 2)
  have hot : ∀ b, b ≠ g → (((((wO.setCell ⟨g, 0, none⟩ (.int .i64 k)).setCell ⟨g, 1, none⟩ (.int .i64 0)).setCell ⟨g, 2, none⟩ (.int .i64 0)).setCell ⟨g, 3, none⟩ (.slice none 0 0)).setCell ⟨g, 4, none⟩ (.slice (some ⟨wC.heap.size, 0, none⟩) 2 2)).heap[b]? = wO.heap[b]? := fun b hb => five_other wO hb _ _ _ _ _
  obtain ⟨wz, hwz⟩ : ∃ y, ((((wO.setCell ⟨g, 0, none⟩ (.int .i64 k)).setCell ⟨g, 1, none⟩ (.int .i64 0)).setCell ⟨g, 2, none⟩ (.int .i64 0)).setCell ⟨g, 3, none⟩ (.slice none 0 0)).setCell ⟨g, 4, none⟩ (.slice (some ⟨wC.heap.size, 0, none⟩) 2 2) = y := ⟨_, rfl⟩
  rw [hwz] at h5 hsz hot ⊢
  have hxO : wO.heap[wC.heap.size]? = _ := (hb2.block _ (Nat.lt_succ_self _)).trans hx
  have hxz := (hot wC.heap.size (by omega)).trans hxO
  have ht : AwayS gs wC t _ := AwayS.own hO hgs
  have hTz : AwayS gs wz T _ := ((h2.below hb1).below hbO).step (by omega) fun p u hp e => (World.cell?_of_block (hot p.block (fun e => hp (by rw [e]; exact hgm)))).trans e
  have htz : AwayS gs wz t _ := (ht.below hbO).step (by omega) fun p u hp e => (World.cell?_of_block (hot p.block (fun e => hp (by rw [e]; exact hgm)))).trans e
  have hxm : (maskW gs wz).heap[wC.heap.size]? = _ := (mask_heap gs wz wC.heap.size (fun hb => by have := hgs _ hb; omega)).trans hxz
  have hm := mask_size gs wz
  refine ⟨k, 0, 0, none, 0, 0, some ⟨wC.heap.size, 0, none⟩, 2, 2, h5, ?_⟩
  have h2t := tms_two (w := maskW gs wz) (w' := maskW gs wz) (B := wz.heap.size) htz hTz (Below.refl _ _) (Nat.le_of_eq hm.symm) hxm
  rw [hm] at h2t
  exact TmAt.make (lv := []) (kids := [t, T]) (fun _ => rfl) (lvs_nil0 _ _) h2t
end Go.Proofs.YtfgnnbpbbnnnhaaDoor
namespace Go.Proofs.YtfgnnbpbbnnnhaaDoor
open Go.RowKit Go.Shelf
attribute [local go_sem] Oper.semAt_some
theorem tm_cells {w : World} {B : Nat} {t : Tm} {v : Value} (h : TmAt w B t v) : ∃ (d0 d1 d2 : Int) (A1 : Option Addr) (n1 c1 : Nat) (A2 : Option Addr) (n2 c2 : Nat), v = .agg #[.int .i64 d0, .int .i64 d1, .int .i64 d2, .slice A1 n1 c1, .slice A2 n2 c2] := by
  obtain ⟨k, n, a, lv, kids⟩ := t
  obtain ⟨Al, cl, Ak, ck, e, _⟩ := h.open
  exact ⟨_, _, _, _, _, _, _, _, _, e⟩
set_option maxRecDepth 100000 in
set_option maxHeartbeats 8000000 in
theorem above_in (n : Nat) (hn : 3 ≤ n) (kd : Int) (ts : List Tm) (m : Nat) (hm : ts.length = m) (hmm : m ≤ 1048576) (A : Option Addr) (c : Nat) (tb : Tm) (x : NodeE) (w : World) (hK : KindsAt w) (hts : Tms w w.heap.size A c ts) (hb : TmAt w w.heap.size tb x.enc) (hfb : tb.fit) (hdb : tb.size ≤ 1073741824) (hft : ∀ t ∈ ts, t.fit ∧ t.size ≤ 1073741824) :
    CallsIn Fence.wide n Tryd.prog 45 #[.slice A m c, .int .i64 kd, x.enc] w (fun e w' => ∃ v, e = .returned v ∧ FreshT w w' (aboveT kd tb ts) v ∧ Below w.heap.size w w') := by
  have h1 : 1 ≤ n := by omega
  have hw0 : 0 < w.heap.size := cell_lt (hK 0 (by decide))
  obtain ⟨xk, xn, xa, A1, p1, c1, A2, p2, c2⟩ := x
  refine callsIn_of_wp_marks Tryd.func45 rfl trivial ?_ rfl
  unfold NodeE.enc at hb ⊢
  simp only [Tryd.ntmps45, List.size_toArray, List.length_cons, List.length_nil, Nat.reduceAdd, Nat.reduceSub, Array.replicate_succ, Array.replicate_zero, List.push_toArray, List.append_toArray, List.nil_append, List.cons_append]
  obtain ⟨w1, hw1⟩ : ∃ y, ((w.alloc (.cells #[.int .i64 kd] 23)).alloc (.cells #[.int .i64 xk, .int .i64 xn, .int .i64 xa, .slice A1 p1 c1, .slice A2 p2 c2] 27)).alloc (.cells #[.int .i64 0, .int .i64 0, .int .i64 0, .slice none 0 0, .slice none 0 0] 27) = y := ⟨_, rfl⟩
  have hb1 : Below w.heap.size w w1 := by rw [← hw1]; exact (((Below.refl _ _).alloc (Nat.le_refl _) _).alloc (by simp) _).alloc (by simp; omega) _
  have hs1 : w1.heap.size = w.heap.size + 3 := by rw [← hw1]; simp
  obtain ⟨z1, z2, _⟩ := two_allocs w (.cells #[.int .i64 kd] 23) (.cells #[.int .i64 xk, .int .i64 xn, .int .i64 xa, .slice A1 p1 c1, .slice A2 p2 c2] 27)
  have y1 : w1.heap[w.heap.size]? = some (.cells #[.int .i64 kd] 23 (0, 0)) := by rw [← hw1, Below.heap_alloc _ _ _ (by simp; omega)]; exact z1
  have y2 : w1.heap[w.heap.size + 1]? = some (.cells #[.int .i64 xk, .int .i64 xn, .int .i64 xa, .slice A1 p1 c1, .slice A2 p2 c2] 27 (0, 0)) := by rw [← hw1, Below.heap_alloc _ _ _ (by simp)]; exact z2
  have y3 : w1.heap[w.heap.size + 2]? = some (.cells #[.int .i64 0, .int .i64 0, .int .i64 0, .slice none 0 0, .slice none 0 0] 27 (0, 0)) := by
    rw [← hw1]
    have := heap_alloc_new ((w.alloc (.cells #[.int .i64 kd] 23)).alloc (.cells #[.int .i64 xk, .int .i64 xn, .int .i64 xa, .slice A1 p1 c1, .slice A2 p2 c2] 27)) (.cells #[.int .i64 0, .int .i64 0, .int .i64 0, .slice none 0 0, .slice none 0 0] 27)
    simpa using this
  have b0 := cell_of_row _ _ 0 _ _ (0, 0) y2
  have b1 := cell_of_row _ _ 1 _ _ (0, 0) y2
  have b2 := cell_of_row _ _ 2 _ _ (0, 0) y2
  have b3 := cell_of_row _ _ 3 _ _ (0, 0) y2
  have b4 := cell_of_row _ _ 4 _ _ (0, 0) y2
  have HC := Lib.hid (tcopy_any tb hfb _ w1 hdb (hK.below hb1 hw0) (hb.below hb1 hb1.size))
  have HB1 := Lib.hid hb1
  have HS1 := Lib.hid hs1
  have HK := Lib.hid hK
  have HT := Lib.hid hts
  have HFT := Lib.hid hft
  have HM := Lib.hid hm
  have Y1 := Lib.hid y1
  have Y3 := Lib.hid y3
  clear hK hts hb hfb hdb hft hm hb1 hs1 z1 z2 y1 y2 y3
  gi_wp2_with ((try refine ⟨trivial, ?_⟩); gi_at_call 72; refine (callsIn_wide.2 HC.out).mono ?_; clear HC; rintro e w2 ⟨v, rfl, hO, hb2⟩; obtain ⟨d0, d1, d2, B1, q1, r1, B2, q2, r2, rfl⟩ := tm_cells hO.tmAt)
  have hb2' : Below w.heap.size w w2 := HB1.out.trans (hb2.mono HB1.out.size)
  have hs2 := hb2.size
  have hs1 := HS1.out
  obtain ⟨w3, hw3⟩ : ∃ y, w2.alloc (.cells #[.int .i64 d0, .int .i64 d1, .int .i64 d2, .slice B1 q1 r1, .slice B2 q2 r2] 27) = y := ⟨_, rfl⟩
  have hb3 : Below w2.heap.size w2 w3 := by rw [← hw3]; exact (Below.refl _ _).alloc (Nat.le_refl _) _
  have hs3 : w3.heap.size = w2.heap.size + 1 := by rw [← hw3]; simp
  have x3 : w3.heap[w2.heap.size]? = some (.cells #[.int .i64 d0, .int .i64 d1, .int .i64 d2, .slice B1 q1 r1, .slice B2 q2 r2] 27 (0, 0)) := by rw [← hw3]; exact heap_alloc_new w2 _
  rw [hw3]
  refine ⟨trivial, (backward_any A m c Fence.wide (n - 1) trivial rfl w3).mono ?_⟩
  rintro e w4 ⟨rfl, hw4⟩
  have hb4 : Below w3.heap.size w3 w4 := by rw [hw4]; exact (Below.refl _ _).alloc (Nat.le_refl _) _
  have hs4 : w4.heap.size = w3.heap.size + 1 := by rw [hw4]; simp
  have x4 : w4.heap[w3.heap.size]? = some (.cells #[.slice A m c] 87 (0, 0)) := by rw [hw4]; exact heap_alloc_new w3 _
  rw [hs3] at x4 hs4 ⊢
  have hb24 : Below w2.heap.size w2 w4 := hb3.trans (hb4.mono hb3.size)
  have hb04 : Below w.heap.size w w4 := hb2'.trans (hb24.mono hb2'.size)
  have x34 := (hb4.block _ (heap_some_lt x3)).trans x3
  have y14 := (hb24.block _ (by omega)).trans ((hb2.block _ (heap_some_lt Y1.out)).trans Y1.out)
  have y34 := (hb24.block _ (by omega)).trans ((hb2.block _ (heap_some_lt Y3.out)).trans Y3.out)
  obtain ⟨gs, hgs⟩ : ∃ y, w2.heap.size :: List.range (w.heap.size + 3) = y := ⟨_, rfl⟩
  have hgr : ∀ b ∈ gs, b = w2.heap.size ∨ b < w.heap.size + 3 := fun b hb => by
    rw [← hgs] at hb
    rcases List.mem_cons.1 hb with e | e
    · exact .inl e
    · exact .inr (List.mem_range.1 e)
  have hgm : w2.heap.size ∈ gs := by rw [← hgs]; exact List.mem_cons_self
  have hgq : ∀ b, b < w.heap.size + 3 → b ∈ gs := fun b hb => by rw [← hgs]; exact List.mem_cons_of_mem _ (List.mem_range.2 hb)
  have hA0 : AwayS gs w4 tb (.agg #[.int .i64 d0, .int .i64 d1, .int .i64 d2, .slice B1 q1 r1, .slice B2 q2 r2]) := by
    refine AwayS.step (w := w2) ?_ hb24.size fun p u hp e => ?_
    · refine tm_mono (Nat.le_refl _) (fun p u e => ?_) tb _ (AwayS.own (gs := List.range (w.heap.size + 3)) hO (fun b hb => by have := List.mem_range.1 hb; omega))
      obtain ⟨e1, e2⟩ := mask_cell _ _ _ _ e
      have e3 : p.block ∉ gs := fun h => by
        rcases hgr _ h with h | h
        · cases ho : w2.heap[p.block]? with
          | none => simp [World.cell?, ho] at e2
          | some o => have := heap_some_lt ho; omega
        · exact e1 (List.mem_range.2 h)
      rw [World.cell?_of_block (mask_heap _ _ _ e3)]
      exact e2
    · cases ho : w2.heap[p.block]? with
      | none => simp [World.cell?, ho] at e
      | some o => exact (hb24.cell (heap_some_lt ho)).trans e
  have HGR := Lib.hid hgr
  have HGM := Lib.hid hgm
  have HGQ := Lib.hid hgq
  clear hgs hgr hgm hgq
  have hO0 : OutAt w4 gs w2.heap.size tb := ⟨d0, d1, d2, B1, q1, r1, B2, q2, r2, x34, hA0⟩
  have HO0 := Lib.hid hO0
  have HB04 := Lib.hid hb04
  have HX4 := Lib.hid x4
  have HY1 : Hid (Boxed w4 w.heap.size 23 (.int .i64 kd)) := y14
  have HY3 := Lib.hid y34
  have HS4 := Lib.hid hs4
  have HS2 : Hid (w.heap.size + 3 ≤ w2.heap.size) := by rw [← hs1]; exact hs2
  clear hO hb2 hb2' hs2 hs1 hw3 hb3 hs3 x3 hw4 hb4 hs4 x4 hb24 hb04 x34 y14 y34 hA0 hO0 hw1 b0 b1 b2 b3 b4 HB1 HS1 Y1 Y3
  gi_wp2_with (fail)
  refine wpIn_rangeFunc_ownH rfl h1 (gf := 103) (lb := #[.pointer (some ⟨w2.heap.size + 1, 0, none⟩)]) rfl trivial (enters_of Tryd.func103 (by kernel_rfl) rfl)
    (back_stops Fence.wide (n - 1) trivial rfl (by omega) (w2.heap.size + 1) w.heap.size w w4 A c ts HT.out m HM.out hmm HX4.out HB04.out HB04.out.size) Kg.t (Kg.b HB04.out.size) (Below.refl _ _) (fun _ => rfl)
    (fun pre W => (OutAt W gs w2.heap.size (accI kd tb ts (pre.map RowE.at)) ∧ (Boxed W w.heap.size 23 (.int .i64 kd) ∧ W.heap[w.heap.size + 2]? = some (.cells #[.int .i64 0, .int .i64 0, .int .i64 0, .slice none 0 0, .slice none 0 0] 27 (0, 0)))) ∧ Below w.heap.size w W)
    (fun _ _ _ => False)
    (OwnFrom.and (OwnFrom.and (outAt_own _ _ _ _) (OwnFrom.and (Own.from (boxed_own _ _ _) _) (cells_own _ _ _ _))) (ownFrom_below (Nat.le_refl _) HB04.out.size))
    (fun _ _ _ _ _ hs _ _ => hs)
    ⟨⟨HO0.out, HY1.out, HY3.out⟩, HB04.out⟩
    (fun y a' W => ∃ Bx, w2.heap.size < Bx ∧ Bx ≠ w.heap.size ∧ W.heap[Bx]? = some (.cells #[.int .i64 y.1.2.k, .int .i64 y.1.2.n, .int .i64 y.1.2.a, .slice y.1.2.A1 y.1.2.p1 y.1.2.c1, .slice y.1.2.A2 y.1.2.p2 y.1.2.c2] 27 (0, 0)) ∧ a' = { tmps := #[.slice A m c, .int .i64 kd, .agg #[.int .i64 xk, .int .i64 xn, .int .i64 xa, .slice A1 p1 c1, .slice A2 p2 c2], undef, .pointer (some ⟨w.heap.size, 0, none⟩), .pointer (some ⟨w.heap.size + 1, 0, none⟩), .pointer (some ⟨w.heap.size + 1 + 1, 0, none⟩), .pointer (some ⟨w2.heap.size, 0, none⟩), undef, .pointer (some ⟨Bx, 0, none⟩), .agg #[.int .i64 xk, .int .i64 xn, .int .i64 xa, .slice A1 p1 c1, .slice A2 p2 c2], .agg #[.int .i64 d0, .int .i64 d1, .int .i64 d2, .slice B1 q1 r1, .slice B2 q2 r2], .slice A m c, .func (.func 103) #[] #[.pointer (some ⟨w2.heap.size + 1, 0, none⟩)], .int .i64 (y.1.1 : Int), y.1.2.enc, undef, undef, undef, undef, undef, undef, undef], defers := [] })
    (fun y a' _ X Y row hs hg hr => by
      obtain ⟨Bx, e1, e2, e3, e4⟩ := hs
      exact ⟨Bx, e1, e2, (grownBy_keeps_cells hg (fun r e => (hr r e).2) e3 rfl).trans e3, e4⟩)
    ?assign ?body ?done ?stop
  case assign =>
    rintro l pre y W K ⟨⟨hO1, hk1, hz1⟩, hB1⟩ hKK
    have hsz1 := hB1.size
    obtain ⟨⟨yi, ⟨yk, yn, ya, C1, s1, e1, C2, s2, e2⟩⟩, ty, hty, hyT⟩ := y
    have hlt9 : w2.heap.size < W.heap.size := by
      obtain ⟨_, _, _, _, _, _, _, _, _, h9, _⟩ := hO1
      exact heap_some_lt h9
    have hfin := hKK { tmps := #[.slice A m c, .int .i64 kd, .agg #[.int .i64 xk, .int .i64 xn, .int .i64 xa, .slice A1 p1 c1, .slice A2 p2 c2], undef, .pointer (some ⟨w.heap.size, 0, none⟩), .pointer (some ⟨w.heap.size + 1, 0, none⟩), .pointer (some ⟨w.heap.size + 1 + 1, 0, none⟩), .pointer (some ⟨w2.heap.size, 0, none⟩), undef, .pointer (some ⟨W.heap.size, 0, none⟩), .agg #[.int .i64 xk, .int .i64 xn, .int .i64 xa, .slice A1 p1 c1, .slice A2 p2 c2], .agg #[.int .i64 d0, .int .i64 d1, .int .i64 d2, .slice B1 q1 r1, .slice B2 q2 r2], .slice A m c, .func (.func 103) #[] #[.pointer (some ⟨w2.heap.size + 1, 0, none⟩)], .int .i64 (yi : Int), .agg #[.int .i64 yk, .int .i64 yn, .int .i64 ya, .slice C1 s1 e1, .slice C2 s2 e2], undef, undef, undef, undef, undef, undef, undef], defers := [] } (W.alloc (.cells #[.int .i64 yk, .int .i64 yn, .int .i64 ya, .slice C1 s1 e1, .slice C2 s2 e2] 27)) (keepsFrom_below _ ((Below.refl _ _).alloc (Nat.le_refl _) _)) (Kg.below ((Below.refl _ _).alloc (Nat.le_refl _) _) hsz1)
      ⟨⟨(outAt_own w4.heap.size _ _ (fun (_ : Unit) => _)).alloc (s := ()) _ hO1, hk1.alloc _, (Below.heap_alloc _ _ _ (heap_some_lt hz1)).trans hz1⟩, hB1.alloc hsz1 _⟩ ⟨W.heap.size, hlt9, by have := HS2.out; omega, heap_alloc_new W _, rfl⟩
    have HF := Lib.hid hfin
    clear hfin hKK hO1 hk1 hz1 hB1 hsz1 hlt9
    unfold RowE.encs NodeE.enc
    gi_wp2_with (fail)
    exact HF.out
  case body =>
    rintro l pre y a' W hl ⟨r, hr⟩ ⟨⟨hO1, hk1, hz1⟩, hB1⟩ ⟨Bx, hBx, hBk, bX, rfl⟩ hlt
    obtain ⟨⟨yi, ⟨yk, yn, ya, C1, s1, e1, C2, s2, e2⟩⟩, ty, hty, hyT⟩ := y
    obtain ⟨g0, g1, g2, G1, a1, b1, G2, a2, b2, q1, q2⟩ := hO1
    dsimp only at bX
    unfold NodeE.enc at hyT
    have hmem := HFT.out ty (List.mem_of_getElem? hty)
    have HC := Lib.hid (fun (W' : World) (hb : Below W.heap.size W W') => tcopy_any ty hmem.1 _ W' hmem.2 (HK.out.below (hB1.trans (hb.mono hB1.size)) hw0) (hyT.below (hB1.trans (hb.mono hB1.size)) (hB1.trans (hb.mono hB1.size)).size))
    have c9 := cell_of_row _ _ 0 _ _ (0, 0) bX
    have c91 := cell_of_row _ _ 1 _ _ (0, 0) bX
    have c92 := cell_of_row _ _ 2 _ _ (0, 0) bX
    have c93 := cell_of_row _ _ 3 _ _ (0, 0) bX
    have c94 := cell_of_row _ _ 4 _ _ (0, 0) bX
    have ck := hk1.cell
    have cg := cell_of_row _ _ 0 _ _ (0, 0) q1
    have cg1 := cell_of_row _ _ 1 _ _ (0, 0) q1
    have cg2 := cell_of_row _ _ 2 _ _ (0, 0) q1
    have cg3 := cell_of_row _ _ 3 _ _ (0, 0) q1
    have cg4 := cell_of_row _ _ 4 _ _ (0, 0) q1
    have HD : Hid (Below W.heap.size W W.drew) := (Below.refl _ _).drew
    have HQ1 := Lib.hid q1
    have HQ2 := Lib.hid q2
    have HKK := Lib.hid hk1
    have HZ1 := Lib.hid hz1
    have HBB := Lib.hid hB1
    have HFIN : Hid (∀ (wC wO : World) (f0 f1 f2 : Int) (F1 : Option Addr) (m1 i1 : Nat) (F2 : Option Addr) (m2 i2 : Nat), Below W.heap.size W wC → OwnTm wC W.heap.size wC.heap.size ty (.agg #[.int .i64 f0, .int .i64 f1, .int .i64 f2, .slice F1 m1 i1, .slice F2 m2 i2]) → Below (wC.heap.size + 1) (wC.alloc (.cells #[.int .i64 f0, .int .i64 f1, .int .i64 f2, .slice F1 m1 i1, .slice F2 m2 i2, .int .i64 g0, .int .i64 g1, .int .i64 g2, .slice G1 a1 b1, .slice G2 a2 b2] 27)) wO →
        KeepsFrom w4.heap.size W (((((wO.setCell ⟨w2.heap.size, 0, none⟩ (.int .i64 kd)).setCell ⟨w2.heap.size, 1, none⟩ (.int .i64 0)).setCell ⟨w2.heap.size, 2, none⟩ (.int .i64 0)).setCell ⟨w2.heap.size, 3, none⟩ (.slice none 0 0)).setCell ⟨w2.heap.size, 4, none⟩ (.slice (some ⟨wC.heap.size, 0, none⟩) 2 2)) ∧ Kg w.heap.size (w2.heap.size + 1) W (((((wO.setCell ⟨w2.heap.size, 0, none⟩ (.int .i64 kd)).setCell ⟨w2.heap.size, 1, none⟩ (.int .i64 0)).setCell ⟨w2.heap.size, 2, none⟩ (.int .i64 0)).setCell ⟨w2.heap.size, 3, none⟩ (.slice none 0 0)).setCell ⟨w2.heap.size, 4, none⟩ (.slice (some ⟨wC.heap.size, 0, none⟩) 2 2)) ∧ (OutAt (((((wO.setCell ⟨w2.heap.size, 0, none⟩ (.int .i64 kd)).setCell ⟨w2.heap.size, 1, none⟩ (.int .i64 0)).setCell ⟨w2.heap.size, 2, none⟩ (.int .i64 0)).setCell ⟨w2.heap.size, 3, none⟩ (.slice none 0 0)).setCell ⟨w2.heap.size, 4, none⟩ (.slice (some ⟨wC.heap.size, 0, none⟩) 2 2)) gs w2.heap.size (accI kd tb ts ((pre ++ ([⟨(yi, ⟨yk, yn, ya, C1, s1, e1, C2, s2, e2⟩), ty, hty, hyT⟩] : List (RowE w w.heap.size ts))).map RowE.at)) ∧ (Boxed (((((wO.setCell ⟨w2.heap.size, 0, none⟩ (.int .i64 kd)).setCell ⟨w2.heap.size, 1, none⟩ (.int .i64 0)).setCell ⟨w2.heap.size, 2, none⟩ (.int .i64 0)).setCell ⟨w2.heap.size, 3, none⟩ (.slice none 0 0)).setCell ⟨w2.heap.size, 4, none⟩ (.slice (some ⟨wC.heap.size, 0, none⟩) 2 2)) w.heap.size 23 (.int .i64 kd) ∧ (((((wO.setCell ⟨w2.heap.size, 0, none⟩ (.int .i64 kd)).setCell ⟨w2.heap.size, 1, none⟩ (.int .i64 0)).setCell ⟨w2.heap.size, 2, none⟩ (.int .i64 0)).setCell ⟨w2.heap.size, 3, none⟩ (.slice none 0 0)).setCell ⟨w2.heap.size, 4, none⟩ (.slice (some ⟨wC.heap.size, 0, none⟩) 2 2)).heap[w.heap.size + 2]? = some (.cells #[.int .i64 0, .int .i64 0, .int .i64 0, .slice none 0 0, .slice none 0 0] 27 (0, 0)))) ∧ Below w.heap.size w (((((wO.setCell ⟨w2.heap.size, 0, none⟩ (.int .i64 kd)).setCell ⟨w2.heap.size, 1, none⟩ (.int .i64 0)).setCell ⟨w2.heap.size, 2, none⟩ (.int .i64 0)).setCell ⟨w2.heap.size, 3, none⟩ (.slice none 0 0)).setCell ⟨w2.heap.size, 4, none⟩ (.slice (some ⟨wC.heap.size, 0, none⟩) 2 2))) := fun wC wO f0 f1 f2 F1 m1 i1 F2 m2 i2 k1 k2 k3 => by
      have hs2 := HS2.out
      have hsW := k1.size
      have hgW := heap_some_lt q1
      have k4 : Below W.heap.size W wO := k1.trans ((((Below.refl wC.heap.size wC).alloc (Nat.le_refl _) _).trans (k3.mono (by omega))).mono hsW)
      have hat : (pre ++ ([⟨(yi, ⟨yk, yn, ya, C1, s1, e1, C2, s2, e2⟩), ty, hty, hyT⟩] : List (RowE w w.heap.size ts))).map RowE.at = pre.map RowE.at ++ [yi] := by rw [List.map_append]; rfl
      have hgd : ts.getD yi tb = ty := by
        have h9 : ts[yi]? = some ty := hty
        rw [List.getD_eq_getElem?_getD, h9]; rfl
      rw [hat, accI_snoc, hgd]
      refine ⟨?_, ?_, ⟨?_, ?_, ?_⟩, ?_⟩
      · exact (keepsFrom_below _ k4).trans ((((((KeepsOthers.setCell _ _ _).from _).trans ((KeepsOthers.setCell _ _ _).from _)).trans ((KeepsOthers.setCell _ _ _).from _)).trans ((KeepsOthers.setCell _ _ _).from _)).trans ((KeepsOthers.setCell _ _ _).from _))
      · exact (((((Kg.below k4 hB1.size).set (by omega) (by omega) _ _).set (by omega) (by omega) _ _).set (by omega) (by omega) _ _).set (by omega) (by omega) _ _).set (by omega) (by omega) _ _
      · exact out_more (fun b hb => by rcases HGR.out b hb with e | e <;> omega) HGM.out hgW q1 q2 k1 k2 k3
      · exact (five_other wO (by omega) _ _ _ _ _).trans ((k4.block _ hk1.lt).trans hk1)
      · exact (five_other wO (by omega) _ _ _ _ _).trans ((k4.block _ (heap_some_lt hz1)).trans hz1)
      · exact five_below (hB1.trans (k4.mono hB1.size)) (by omega) _ _ _ _ _
    have hd : 1 ≤ n - 1 - 1 := by omega
    have hmx : Tryd.prog.follows .mixedOrders = true := by kernel_rfl
    clear hmem bX hk1 hz1 hB1 q1 q2 hr
    unfold NodeE.enc
    gi_wp2_with (fail)
    gi_region_with_o (first
      | (refine ⟨trivial, ?_⟩; gi_at_call 72; refine (CallsIn.inRound l (callsIn_wide.2 (HC.out _ ?_))).mono ?_; exact HD.out; rintro e wC ⟨v, rfl, hOc, hbc⟩; obtain ⟨f0, f1, f2, F1, m1, i1, F2, m2, i2, rfl⟩ := tm_cells hOc.tmAt; have hbW := HD.out.trans hbc; have yk := (hbW.block _ (heap_some_lt HKK.out)).trans HKK.out; have yg := (hbW.block _ (heap_some_lt HQ1.out)).trans HQ1.out; have wk := Boxed.cell yk; have wka := fun o => (Boxed.alloc (W := wC) yk o).cell; have wkl := heap_some_lt yk; have vg0 := cell_of_row _ _ 0 _ _ (0, 0) yg; have vg1 := cell_of_row _ _ 1 _ _ (0, 0) yg; have vg2 := cell_of_row _ _ 2 _ _ (0, 0) yg; have vg3 := cell_of_row _ _ 3 _ _ (0, 0) yg; have vg4 := cell_of_row _ _ 4 _ _ (0, 0) yg)
      | (refine ⟨trivial, ?_⟩; gi_at_call 74; refine (CallsIn.inRound l (callsIn_wide.2 (ofB9_any kd _ _ _ _))).mono ?_; rintro e wO ⟨rfl, hbO⟩; have yO := (hbO.block _ (Nat.lt_of_lt_of_le (heap_some_lt yg) (by simp))).trans ((Below.heap_alloc _ _ _ (heap_some_lt yg)).trans yg); have vo0 := thawed yO 0; have vo1 := thawed yO 1; have vo2 := thawed yO 2; have vo3 := thawed yO 3; have vo4 := thawed yO 4; have wo0 := cell_of_row _ _ 0 _ _ (0, 0) yO; have wo1 := cell_of_row _ _ 1 _ _ (0, 0) yO; have wo2 := cell_of_row _ _ 2 _ _ (0, 0) yO; have wo3 := cell_of_row _ _ 3 _ _ (0, 0) yO; have wo4 := cell_of_row _ _ 4 _ _ (0, 0) yO))
    all_goals gi_wp2
    all_goals exact HFIN.out _ _ _ _ _ _ _ _ _ _ _ hbW hOc (hbO.mono (by simp))
  case done =>
    rintro D ys W hD hys ⟨⟨hO1, hk1, hz1⟩, hB1⟩ hKD
    rw [hys, ← HM.out, accI_all] at hO1
    obtain ⟨g0, g1, g2, G1, a1, b1, G2, a2, b2, q1, q2⟩ := hO1
    have hz2 : W.heap[w.heap.size + 1 + 1]? = some (.cells #[.int .i64 0, .int .i64 0, .int .i64 0, .slice none 0 0, .slice none 0 0] 27 (0, 0)) := hz1
    have hD9 : w.heap.size + 1 + 1 < D := by have := HS2.out; have := HS4.out; omega
    have cg := cell_of_row _ _ 0 _ _ (0, 0) q1
    have cg1 := cell_of_row _ _ 1 _ _ (0, 0) q1
    have cg2 := cell_of_row _ _ 2 _ _ (0, 0) q1
    have cg3 := cell_of_row _ _ 3 _ _ (0, 0) q1
    have cg4 := cell_of_row _ _ 4 _ _ (0, 0) q1
    have cz := cell_of_row _ _ 0 _ _ (0, 0) hz2
    have cz1 := cell_of_row _ _ 1 _ _ (0, 0) hz2
    have cz2 := cell_of_row _ _ 2 _ _ (0, 0) hz2
    have cz3 := cell_of_row _ _ 3 _ _ (0, 0) hz2
    have cz4 := cell_of_row _ _ 4 _ _ (0, 0) hz2
    have tz := thawed hz2 0
    have tz1 := thawed hz2 1
    have tz2 := thawed hz2 2
    have tz3 := thawed hz2 3
    have tz4 := thawed hz2 4
    have h5 := five_set hz2 (.int .i64 g0) (.int .i64 g1) (.int .i64 g2) (.slice G1 a1 b1) (.slice G2 a2 b2)
    have hot : ∀ b, b ≠ w.heap.size + 1 + 1 → (((((W.setCell ⟨w.heap.size + 1 + 1, 0, none⟩ (.int .i64 g0)).setCell ⟨w.heap.size + 1 + 1, 1, none⟩ (.int .i64 g1)).setCell ⟨w.heap.size + 1 + 1, 2, none⟩ (.int .i64 g2)).setCell ⟨w.heap.size + 1 + 1, 3, none⟩ (.slice G1 a1 b1)).setCell ⟨w.heap.size + 1 + 1, 4, none⟩ (.slice G2 a2 b2)).heap[b]? = W.heap[b]? := fun b hb => five_other W hb _ _ _ _ _
    have hsz := five_size W (w.heap.size + 1 + 1) (.int .i64 g0) (.int .i64 g1) (.int .i64 g2) (.slice G1 a1 b1) (.slice G2 a2 b2)
    have hbf := five_below hB1 (g := w.heap.size + 1 + 1) (by omega) (.int .i64 g0) (.int .i64 g1) (.int .i64 g2) (.slice G1 a1 b1) (.slice G2 a2 b2)
    have hKD' : (((((W.setCell ⟨w.heap.size + 1 + 1, 0, none⟩ (.int .i64 g0)).setCell ⟨w.heap.size + 1 + 1, 1, none⟩ (.int .i64 g1)).setCell ⟨w.heap.size + 1 + 1, 2, none⟩ (.int .i64 g2)).setCell ⟨w.heap.size + 1 + 1, 3, none⟩ (.slice G1 a1 b1)).setCell ⟨w.heap.size + 1 + 1, 4, none⟩ (.slice G2 a2 b2)).heap[D]? = some (.deferred (some [])) := (hot D (by omega)).trans hKD
    have hrow : ∀ r, some D = some r → ∃ o : Obj, (((((W.setCell ⟨w.heap.size + 1 + 1, 0, none⟩ (.int .i64 g0)).setCell ⟨w.heap.size + 1 + 1, 1, none⟩ (.int .i64 g1)).setCell ⟨w.heap.size + 1 + 1, 2, none⟩ (.int .i64 g2)).setCell ⟨w.heap.size + 1 + 1, 3, none⟩ (.slice G1 a1 b1)).setCell ⟨w.heap.size + 1 + 1, 4, none⟩ (.slice G2 a2 b2)).heap[r]? = some o ∧ o.isCells = false := fun r e => by cases e; exact ⟨_, hKD', rfl⟩
    have h6 : ((((((W.setCell ⟨w.heap.size + 1 + 1, 0, none⟩ (.int .i64 g0)).setCell ⟨w.heap.size + 1 + 1, 1, none⟩ (.int .i64 g1)).setCell ⟨w.heap.size + 1 + 1, 2, none⟩ (.int .i64 g2)).setCell ⟨w.heap.size + 1 + 1, 3, none⟩ (.slice G1 a1 b1)).setCell ⟨w.heap.size + 1 + 1, 4, none⟩ (.slice G2 a2 b2)).putObj D (.deferred none)).heap[w.heap.size + 1 + 1]? = _ := (grownBy_keeps_cells (grownBy_putObj' (((((W.setCell ⟨w.heap.size + 1 + 1, 0, none⟩ (.int .i64 g0)).setCell ⟨w.heap.size + 1 + 1, 1, none⟩ (.int .i64 g1)).setCell ⟨w.heap.size + 1 + 1, 2, none⟩ (.int .i64 g2)).setCell ⟨w.heap.size + 1 + 1, 3, none⟩ (.slice G1 a1 b1)).setCell ⟨w.heap.size + 1 + 1, 4, none⟩ (.slice G2 a2 b2)) D (.deferred none)) hrow h5 rfl).trans h5
    have hA : AwayS gs ((((((W.setCell ⟨w.heap.size + 1 + 1, 0, none⟩ (.int .i64 g0)).setCell ⟨w.heap.size + 1 + 1, 1, none⟩ (.int .i64 g1)).setCell ⟨w.heap.size + 1 + 1, 2, none⟩ (.int .i64 g2)).setCell ⟨w.heap.size + 1 + 1, 3, none⟩ (.slice G1 a1 b1)).setCell ⟨w.heap.size + 1 + 1, 4, none⟩ (.slice G2 a2 b2)).putObj D (.deferred none)) (aboveT kd tb ts) _ := q2.step (by rw [← hsz]; exact (grownBy_putObj' (((((W.setCell ⟨w.heap.size + 1 + 1, 0, none⟩ (.int .i64 g0)).setCell ⟨w.heap.size + 1 + 1, 1, none⟩ (.int .i64 g1)).setCell ⟨w.heap.size + 1 + 1, 2, none⟩ (.int .i64 g2)).setCell ⟨w.heap.size + 1 + 1, 3, none⟩ (.slice G1 a1 b1)).setCell ⟨w.heap.size + 1 + 1, 4, none⟩ (.slice G2 a2 b2)) D (.deferred none)).size) fun p u hp e =>
      cell_kept ((World.cell?_of_block (hot p.block (fun h => hp (by rw [h]; exact HGQ.out _ (by omega))))).trans e) (grownBy_putObj' _ D (.deferred none)) hrow
    have HF : Hid (FreshT w ((((((W.setCell ⟨w.heap.size + 1 + 1, 0, none⟩ (.int .i64 g0)).setCell ⟨w.heap.size + 1 + 1, 1, none⟩ (.int .i64 g1)).setCell ⟨w.heap.size + 1 + 1, 2, none⟩ (.int .i64 g2)).setCell ⟨w.heap.size + 1 + 1, 3, none⟩ (.slice G1 a1 b1)).setCell ⟨w.heap.size + 1 + 1, 4, none⟩ (.slice G2 a2 b2)).putObj D (.deferred none)) (aboveT kd tb ts) (.agg #[.int .i64 g0, .int .i64 g1, .int .i64 g2, .slice G1 a1 b1, .slice G2 a2 b2]) ∧ Below w.heap.size w ((((((W.setCell ⟨w.heap.size + 1 + 1, 0, none⟩ (.int .i64 g0)).setCell ⟨w.heap.size + 1 + 1, 1, none⟩ (.int .i64 g1)).setCell ⟨w.heap.size + 1 + 1, 2, none⟩ (.int .i64 g2)).setCell ⟨w.heap.size + 1 + 1, 3, none⟩ (.slice G1 a1 b1)).setCell ⟨w.heap.size + 1 + 1, 4, none⟩ (.slice G2 a2 b2)).putObj D (.deferred none))) :=
      ⟨hA.fewer (fun b hb => HGQ.out _ (by have := List.mem_range.1 hb; omega)), hbf.trans (belowK_b (w := w) (Nat.le_refl _) _ D _ _ (by omega) hKD' rfl rfl)⟩
    have HKD := Lib.hid hKD'
    have r0 := row_cell h6 (j := 0) rfl
    have r1 := row_cell h6 (j := 1) rfl
    have r2 := row_cell h6 (j := 2) rfl
    have r3 := row_cell h6 (j := 3) rfl
    have r4 := row_cell h6 (j := 4) rfl
    clear q1 q2 hz1 hz2 h5 hot hsz hbf hKD hKD' hrow h6 hA hk1 hB1
    gi_wp2
    refine ⟨by simp, .inl ⟨_, _, rfl, run_takeDeferred HKD.out, ?_⟩⟩
    refine ⟨.agg #[.int .i64 g0, .int .i64 g1, .int .i64 g2, .slice G1 a1 b1, .slice G2 a2 b2], ?_, ⟨_, rfl, HF.out.1, HF.out.2⟩⟩
    simp [results, Tryd.f45, go_sem, r0, r1, r2, r3, r4]
  case stop =>
    rintro D cc pre W _ _ h _
    exact h.elim
end Go.Proofs.YtfgnnbpbbnnnhaaDoor
namespace Go.Proofs.YtfgnnbpbbnnnhaaDoor
open Go.RowKit Go.Maps
/-- what is told in memory made since -/
def FreshPost (w : World) (t : Tm) (e : Ending) (w' : World) : Prop := ∃ v, e = .returned v ∧ FreshT w w' t v ∧ Below w.heap.size w w'
theorem row_in {w : World} {lo : Nat} {e : TypeId} {s n : Nat} {v : Value} {xs : List Value} (h : w.ownsRow lo e s v n xs) (hs : ∃ A c, v = .slice A n c) (hn : n ≤ 4611686018427387904) (hl : lo ≤ w.heap.size) : RowIn w lo w.heap.size e s v n xs := by
  refine ⟨hl, ?_, h, fun k hk => ?_⟩
  · obtain ⟨A, c, e⟩ := hs
    exact ⟨A, c, e, hn⟩
  · rcases h.2 with ⟨e, _⟩ | ⟨g, cap, cur, e, _, q2, _⟩
    · rw [e] at hk; cases hk
    · rw [e] at hk
      injection hk with hk
      subst hk
      exact heap_some_lt q2
set_option maxRecDepth 100000 in
set_option maxHeartbeats 4000000 in
theorem sort_any (A : Option Addr) (ps : List (Int × Int)) (n c : Nat) (hn : ps.length = n) (w : World) (hm : Few n) (h : Lev w w.heap.size A ps) (hc : A = none → c = 0) : Calls Tryd.prog 16 #[.agg #[.slice A n c]] w (FreshPost w (.mk 2 0 0 [ps] [])) := by
  subst hn
  obtain ⟨w1, hw1⟩ : ∃ x, (w.alloc (.cells #[.slice A ps.length c] 39)).alloc (.cells #[.int .i64 0, .int .i64 0, .int .i64 0, .slice none 0 0, .slice none 0 0] 27) = x := ⟨_, rfl⟩
  have hb1 : Below w.heap.size w w1 := by rw [← hw1]; exact ((Below.refl _ _).alloc (Nat.le_refl _) _).alloc (by simp) _
  have hs1 : w1.heap.size = w.heap.size + 2 := by rw [← hw1]; simp
  obtain ⟨z1, z2, _⟩ := two_allocs w (.cells #[.slice A ps.length c] 39) (.cells #[.int .i64 0, .int .i64 0, .int .i64 0, .slice none 0 0, .slice none 0 0] 27)
  rw [hw1] at z1 z2
  have x0 := cell_of_row _ _ 0 _ _ (0, 0) z1
  have HL := Lib.hid (clone_any A ps c w1 w.heap.size (by omega) hm (h.below hb1) hc)
  have hm9 : ps.length ≤ 4611686018427387904 := by unfold Few at hm; omega
  have HM := Lib.hid hm9
  have HB1 := Lib.hid hb1
  have HS1 := Lib.hid hs1
  have Z2 := Lib.hid z2
  obtain ⟨n, hn⟩ : ∃ n, ps.length = n := ⟨_, rfl⟩
  have HN := Lib.hid hn
  rw [hn] at hw1 z1 x0 HL ⊢
  clear hb1 hs1 z1 z2 hm h hc hm9 hn
  go_enter Tryd.func16, Tryd.ntmps16
  go_wp2_with (fail)
  refine HL.out.mono ?_
  rintro e wC ⟨v, rfl, hO, hbC⟩
  obtain ⟨A2, n2, c2, rfl⟩ := own_slice hO
  obtain rfl : n2 = n := by
    rw [HN.out] at hO
    rcases hO.2 with ⟨e, e2⟩ | ⟨g, cap, cur, e, _⟩
    · injection e with _ e3 _; rw [e3, e2]
    · injection e
  obtain ⟨wB, hwB⟩ : ∃ x, wC.alloc (.cells #[.slice A2 n2 c2] 39) = x := ⟨_, rfl⟩
  have hbB : Below wC.heap.size wC wB := by rw [← hwB]; exact (Below.refl _ _).alloc (Nat.le_refl _) _
  have hsB : wB.heap.size = wC.heap.size + 1 := by rw [← hwB]; simp
  have xB : wB.heap[wC.heap.size]? = some (.cells #[.slice A2 n2 c2] 39 (0, 0)) := by rw [← hwB]; exact heap_alloc_new wC _
  have hsC := hbC.size
  have hs1 := HS1.out
  have hbwB : Below w.heap.size w wB := HB1.out.trans ((hbC.trans (hbB.mono hsC)).mono HB1.out.size)
  have y := ((hbC.trans (hbB.mono hsC)).block _ (heap_some_lt Z2.out)).trans Z2.out
  have u0 := thawed y 0
  have u1 := thawed y 1
  have u2 := thawed y 2
  have u3 := thawed y 3
  have u4 := thawed y 4
  have y0 := cell_of_row _ _ 0 _ _ (0, 0) y
  have y1 := cell_of_row _ _ 1 _ _ (0, 0) y
  have y2 := cell_of_row _ _ 2 _ _ (0, 0) y
  have y3 := cell_of_row _ _ 3 _ _ (0, 0) y
  have y4 := cell_of_row _ _ 4 _ _ (0, 0) y
  have h5 := five_set y (.int .i64 2) (.int .i64 0) (.int .i64 0) (.slice (some ⟨wC.heap.size, 0, none⟩) 1 1) (.slice none 0 0)
  have hsz := five_size wB (w.heap.size + 1) (.int .i64 2) (.int .i64 0) (.int .i64 0) (.slice (some ⟨wC.heap.size, 0, none⟩) 1 1) (.slice none 0 0)
  have hot := fun (b : Nat) (hb : b ≠ w.heap.size + 1) => five_other wB hb (.int .i64 2) (.int .i64 0) (.int .i64 0) (.slice (some ⟨wC.heap.size, 0, none⟩) 1 1) (.slice none 0 0)
  have hbf := five_below hbwB (g := w.heap.size + 1) (by omega) (.int .i64 2) (.int .i64 0) (.int .i64 0) (.slice (some ⟨wC.heap.size, 0, none⟩) 1 1) (.slice none 0 0)
  have r0 := row_cell h5 (j := 0) rfl
  have r1 := row_cell h5 (j := 1) rfl
  have r2 := row_cell h5 (j := 2) rfl
  have r3 := row_cell h5 (j := 3) rfl
  have r4 := row_cell h5 (j := 4) rfl
  have HF : Hid (FreshPost w (.mk 2 0 0 [ps] []) (.returned (.agg #[.int .i64 2, .int .i64 0, .int .i64 0, .slice (some ⟨wC.heap.size, 0, none⟩) 1 1, .slice none 0 0])) (((((wB.setCell ⟨w.heap.size + 1, 0, none⟩ (.int .i64 2)).setCell ⟨w.heap.size + 1, 1, none⟩ (.int .i64 0)).setCell ⟨w.heap.size + 1, 2, none⟩ (.int .i64 0)).setCell ⟨w.heap.size + 1, 3, none⟩ (.slice (some ⟨wC.heap.size, 0, none⟩) 1 1)).setCell ⟨w.heap.size + 1, 4, none⟩ (.slice none 0 0))) := by
    refine ⟨_, rfl, ?_, hbf⟩
    unfold FreshT AwayS
    obtain ⟨wz, hwz⟩ : ∃ x, (((((wB.setCell ⟨w.heap.size + 1, 0, none⟩ (.int .i64 2)).setCell ⟨w.heap.size + 1, 1, none⟩ (.int .i64 0)).setCell ⟨w.heap.size + 1, 2, none⟩ (.int .i64 0)).setCell ⟨w.heap.size + 1, 3, none⟩ (.slice (some ⟨wC.heap.size, 0, none⟩) 1 1)).setCell ⟨w.heap.size + 1, 4, none⟩ (.slice none 0 0)) = x := ⟨_, rfl⟩
    rw [hwz] at hot hsz ⊢
    have hR : RowIn wC w1.heap.size wC.heap.size 91 2 (.slice A2 n2 c2) ps.length (cells ps) := row_in hO ⟨A2, c2, by rw [HN.out]⟩ HM.out hsC
    have hR2 := hR.kept (w' := maskW (List.range w.heap.size) wz) (fun b p q => (mask_heap _ _ b (fun e => by have := List.mem_range.1 e; omega)).trans ((hot b (by omega)).trans (hbB.block b q)))
    rw [← HN.out] at hR2
    obtain ⟨k1, k2, k3⟩ := row_lev hR2
    have hxz : (maskW (List.range w.heap.size) wz).heap[wC.heap.size]? = some (.cells #[.slice A2 n2 c2] 39 (0, 0)) := (mask_heap _ _ _ (fun e => by have := List.mem_range.1 e; omega)).trans ((hot _ (by omega)).trans xB)
    refine TmAt.make (lv := [ps]) (kids := []) (fun e => by cases e) (fun _ => ⟨wC.heap.size, 0, rfl, by omega, fun i hi => ?_⟩) (cnt_nil0 _ _)
    obtain rfl : i = 0 := by simpa using hi
    refine ⟨A2, c2, ?_, k1.more (by omega), k2, k3⟩
    rw [show ([ps].getD 0 []).length = n2 from HN.out]
    exact cell_of_row _ _ 0 _ _ (0, 0) hxz
  clear hO hbC hbB hsB xB hsC hs1 hbwB y h5 hsz hot hbf hw1 x0 HL
  go_wp2_with (fail)
  exact bodyPost_ret (v := .agg #[.int .i64 2, .int .i64 0, .int .i64 0, .slice (some ⟨wC.heap.size, 0, none⟩) 1 1, .slice none 0 0]) (by simp [results, Tryd.results16, go_sem, r0, r1, r2, r3, r4]) rfl HF.out
theorem above_any (kd : Int) (ts : List Tm) (m : Nat) (hm : ts.length = m) (hmm : m ≤ 1048576) (A : Option Addr) (c : Nat) (tb : Tm) (v : Value) (w : World) (hK : KindsAt w) (hts : Tms w w.heap.size A c ts) (hb : TmAt w w.heap.size tb v) (hfb : tb.fit) (hdb : tb.size ≤ 1073741824) (hft : ∀ t ∈ ts, t.fit ∧ t.size ≤ 1073741824) :
    Calls Tryd.prog 45 #[.slice A m c, .int .i64 kd, v] w (FreshPost w (aboveT kd tb ts)) := by
  obtain ⟨d0, d1, d2, A1, n1, c1, A2, n2, c2, rfl⟩ := tm_cells hb
  exact callsIn_wide.1 (above_in 3 (by omega) kd ts m hm hmm A c tb ⟨d0, d1, d2, A1, n1, c1, A2, n2, c2⟩ w hK hts hb hfb hdb hft)
set_option maxRecDepth 100000 in
set_option maxHeartbeats 4000000 in
theorem pis_any (ts : List Tm) (m : Nat) (hm : ts.length = m) (hmm : m ≤ 1048576) (A : Option Addr) (c : Nat) (tb : Tm) (v : Value) (w : World) (hK : KindsAt w) (hts : Tms w w.heap.size A c ts) (hb : TmAt w w.heap.size tb v) (hfb : tb.fit) (hdb : tb.size ≤ 1073741824) (hft : ∀ t ∈ ts, t.fit ∧ t.size ≤ 1073741824) :
    Calls Tryd.prog 15 #[.slice A m c, v] w (FreshPost w (aboveT 4 tb ts)) := by
  have hw0 : 0 < w.heap.size := cell_lt (hK 0 (by decide))
  obtain ⟨d0, d1, d2, A1, n1, c1, A2, n2, c2, rfl⟩ := tm_cells hb
  obtain ⟨w1, hw1⟩ : ∃ x, (w.alloc (.cells #[.int .i64 d0, .int .i64 d1, .int .i64 d2, .slice A1 n1 c1, .slice A2 n2 c2] 27)).alloc (.cells #[.int .i64 0, .int .i64 0, .int .i64 0, .slice none 0 0, .slice none 0 0] 27) = x := ⟨_, rfl⟩
  have hb1 : Below w.heap.size w w1 := by rw [← hw1]; exact ((Below.refl _ _).alloc (Nat.le_refl _) _).alloc (by simp) _
  have hs1 : w1.heap.size = w.heap.size + 2 := by rw [← hw1]; simp
  obtain ⟨z1, z2, _⟩ := two_allocs w (.cells #[.int .i64 d0, .int .i64 d1, .int .i64 d2, .slice A1 n1 c1, .slice A2 n2 c2] 27) (.cells #[.int .i64 0, .int .i64 0, .int .i64 0, .slice none 0 0, .slice none 0 0] 27)
  rw [hw1] at z1 z2
  have x0 := cell_of_row _ _ 0 _ _ (0, 0) z1
  have x1 := cell_of_row _ _ 1 _ _ (0, 0) z1
  have x2 := cell_of_row _ _ 2 _ _ (0, 0) z1
  have x3 := cell_of_row _ _ 3 _ _ (0, 0) z1
  have x4 := cell_of_row _ _ 4 _ _ (0, 0) z1
  have HL := Lib.hid (above_any 4 ts m hm hmm A c tb _ w1 (hK.below hb1 hw0) (hts.below hb1 hb1.size) (hb.below hb1 hb1.size) hfb hdb hft)
  have HB1 := Lib.hid hb1
  have HS1 := Lib.hid hs1
  have Z2 := Lib.hid z2
  clear hb1 hs1 z1 z2 hm hmm hK hts hb hfb hdb hft hw0
  go_enter Tryd.func15, Tryd.ntmps15
  go_wp2_with (fail)
  refine HL.out.mono ?_
  rintro e wC ⟨v, rfl, hO, hbC⟩
  obtain ⟨e0, e1, e2, F1, m1, i1, F2, m2, i2, rfl⟩ := tm_cells hO.tm
  have hsC := hbC.size
  have hs1 := HS1.out
  have y := (hbC.block _ (heap_some_lt Z2.out)).trans Z2.out
  have u0 := thawed y 0
  have u1 := thawed y 1
  have u2 := thawed y 2
  have u3 := thawed y 3
  have u4 := thawed y 4
  have y0 := cell_of_row _ _ 0 _ _ (0, 0) y
  have y1 := cell_of_row _ _ 1 _ _ (0, 0) y
  have y2 := cell_of_row _ _ 2 _ _ (0, 0) y
  have y3 := cell_of_row _ _ 3 _ _ (0, 0) y
  have y4 := cell_of_row _ _ 4 _ _ (0, 0) y
  have h5 := five_set y (.int .i64 e0) (.int .i64 e1) (.int .i64 e2) (.slice F1 m1 i1) (.slice F2 m2 i2)
  have hsz := five_size wC (w.heap.size + 1) (.int .i64 e0) (.int .i64 e1) (.int .i64 e2) (.slice F1 m1 i1) (.slice F2 m2 i2)
  have hot := fun (b : Nat) (hb : b ≠ w.heap.size + 1) => five_other wC hb (.int .i64 e0) (.int .i64 e1) (.int .i64 e2) (.slice F1 m1 i1) (.slice F2 m2 i2)
  have hbf := five_below (HB1.out.trans (hbC.mono HB1.out.size)) (g := w.heap.size + 1) (by omega) (.int .i64 e0) (.int .i64 e1) (.int .i64 e2) (.slice F1 m1 i1) (.slice F2 m2 i2)
  have r0 := row_cell h5 (j := 0) rfl
  have r1 := row_cell h5 (j := 1) rfl
  have r2 := row_cell h5 (j := 2) rfl
  have r3 := row_cell h5 (j := 3) rfl
  have r4 := row_cell h5 (j := 4) rfl
  have hF : AwayS (List.range w1.heap.size) _ (aboveT 4 tb ts) _ := AwayS.step hO (by rw [hsz]; exact Nat.le_refl _) fun p u hp e => (World.cell?_of_block (hot p.block (fun h => hp (List.mem_range.2 (by omega))))).trans e
  have HF : Hid (FreshPost w (aboveT 4 tb ts) _ _) := ⟨_, rfl, hF.fewer (fun b hb => List.mem_range.2 (by have := List.mem_range.1 hb; omega)), hbf⟩
  clear hO hbC hsC hs1 y h5 hsz hot hbf hw1 x0 x1 x2 x3 x4 HL hF
  go_wp2_with (fail)
  exact bodyPost_ret (v := .agg #[.int .i64 e0, .int .i64 e1, .int .i64 e2, .slice F1 m1 i1, .slice F2 m2 i2]) (by simp [results, Tryd.results15, go_sem, r0, r1, r2, r3, r4]) rfl HF.out
end Go.Proofs.YtfgnnbpbbnnnhaaDoor
namespace Go.Proofs.YtfgnnbpbbnnnhaaDoor
open Go.RowKit Go.Maps
theorem aboveT_cons (k : Int) (b t : Tm) (ts : List Tm) : aboveT k b (t :: ts) = .mk k 0 0 [] [t, aboveT k b ts] := rfl
theorem aboveT_src {n sf : Int} {ds : List Dc} {b : Tm} : ∀ (ts : List Tm) (sc : Int), 0 ≤ sc → (∀ (i : Nat) (t : Tm), ts[i]? = some t → t.src n (sc + i) sf ds 0) → b.src n (sc + ts.length) sf ds 0 → (aboveT 4 b ts).src n sc sf ds 0
  | [], sc, _, _, hb => by simpa [aboveT] using hb
  | t :: ts, sc, h0, h, hb => by
    rw [aboveT_cons, Tm.src_mk]
    refine ⟨Or.inr (Or.inl (by omega)), fun l hl => (by cases hl), ?_⟩
    rw [Tm.srcL_iff]
    intro j u hj
    have hu0 : under 4 0 = 0 := by decide
    have hu1 : under 4 1 = 1 := by decide
    match j, hj with
    | 0, hj =>
      injection hj with hj
      subst hj
      have := h 0 t rfl
      simpa [hu0] using this
    | 1, hj =>
      injection hj with hj
      subst hj
      have e : 0 + under 4 (0 + 1) = 0 + 1 := by rw [Nat.zero_add, hu1]
      rw [e, src_shift h0 1]
      refine aboveT_src ts (sc + 1) (by omega) (fun i u hi => ?_) ?_
      · have := h (i + 1) u (by simpa using hi)
        rw [show sc + 1 + (i : Int) = sc + ((i + 1 : Nat) : Int) by omega]
        exact this
      · rw [show sc + 1 + (ts.length : Int) = sc + ((t :: ts).length : Int) by simp; omega]
        exact hb
theorem aboveT_fit {k : Int} {b : Tm} (hb : b.fit) : ∀ ts : List Tm, (∀ t ∈ ts, t.fit) → (aboveT k b ts).fit
  | [], _ => hb
  | t :: ts, h => by
    rw [aboveT_cons, Tm.fit_mk]
    refine ⟨by unfold Rng; omega, ⟨by simp, by simp⟩, by simp, ?_⟩
    rw [Tm.fitL_iff]
    intro u hu
    rcases List.mem_cons.1 hu with rfl | hu
    · exact h u List.mem_cons_self
    · obtain rfl : u = aboveT k b ts := by simpa using hu
      exact aboveT_fit hb ts fun t ht => h t (List.mem_cons_of_mem _ ht)
theorem aboveT_size {k : Int} {b : Tm} : ∀ ts : List Tm, (aboveT k b ts).size = b.size + ts.length + Tm.sizeL ts
  | [] => by simp [aboveT, Tm.sizeL]
  | t :: ts => by
    rw [aboveT_cons, Tm.size_mk, Tm.sizeL, Tm.sizeL, Tm.sizeL, Tm.sizeL, aboveT_size ts, List.length_cons]
    omega
theorem sizeL_le_count : ∀ ts : List Tm, Tm.sizeL ts ≤ Tm.countL ts
  | [] => by simp [Tm.sizeL]
  | t :: ts => by
    have h1 := sizeL_le_count ts
    have h2 := Tm.size_le_count t
    rw [Tm.sizeL, Tm.countL]
    omega
theorem len_le_count : ∀ ts : List Tm, ts.length ≤ Tm.countL ts
  | [] => by simp
  | t :: ts => by
    have h1 := len_le_count ts
    have h2 := Tm.size_le_count t
    have h3 := Tm.size_pos t
    rw [List.length_cons, Tm.countL]
    omega
/-- a member's type, closed -/
def memT (d : Dc) (m : List Tm) : Tm := aboveT 4 (aboveT 4 (.mk 2 0 0 [d.sort] []) m) d.pars
/-- a constructor's type, closed -/
def ctorT (d : Dc) (t : Tm) : Tm := aboveT 4 t d.pars
theorem mem_src {ds : List Dc} {d : Dc} (h : BlockSrc d.lev ds d) {m : List Tm} (hm : m ∈ d.mems) : (memT d m).src d.lev 0 0 ds 0 := by
  obtain ⟨h1, _, _, _, h5, h6, _⟩ := h
  have hrow := h6 m hm
  refine aboveT_src d.pars 0 (by omega) (fun i t hi => (h5.2 i t hi).2) ?_
  refine aboveT_src m _ (by omega) (fun i t hi => ?_) ?_
  · have := (hrow.2 i t hi).2
    rw [show (0 : Int) + (d.pars.length : Int) + (i : Int) = (d.pars.length : Int) + (i : Int) by omega]
    exact this
  · rw [Tm.src_mk]
    refine ⟨Or.inr (Or.inl (by omega)), fun l hl => ?_, by rw [Tm.srcL_iff]; intro j t hj; simp at hj⟩
    obtain rfl : l = d.sort := by simpa using hl
    exact h1
theorem ctor_src {ds : List Dc} {d : Dc} (h : BlockSrc d.lev ds d) {c : Int × Tm} (hc : c ∈ d.ctors) : (ctorT d c.2).src d.lev 0 d.mems.length ds 0 ∧ c.1 < (d.mems.length : Int) := by
  obtain ⟨_, _, _, _, h5, _, h7⟩ := h
  obtain ⟨q1, q2, q3⟩ := h7 c hc
  refine ⟨aboveT_src d.pars 0 (by omega) (fun i t hi => ?_) ?_, q2⟩
  · have := src_more (n := d.lev) (n' := d.lev) (sc := 0 + (i : Int)) (sc' := 0 + (i : Int)) (sf := 0) (sf' := (d.mems.length : Int)) (ds := ds) (by omega) (by omega) (by omega) [] t 0 (h5.2 i t hi).2
    simpa using this
  · have := q3.2
    rw [show (0 : Int) + (d.pars.length : Int) = (d.pars.length : Int) by omega]
    exact this
theorem mem_right {ds : List Dc} {d : Dc} (h : BlockSrc d.lev ds d) {m : List Tm} (hm : m ∈ d.mems) : rightSB d.lev 0 0 ds (memT d m) = true ∨ (memT d m).right = false := by
  cases e : (memT d m).right with
  | false => exact .inr rfl
  | true => exact .inl ((rightSB_iff ..).2 ⟨e, mem_src h hm⟩)
theorem ctor_right {ds : List Dc} {d : Dc} (h : BlockSrc d.lev ds d) {c : Int × Tm} (hc : c ∈ d.ctors) : rightSB d.lev 0 d.mems.length ds (ctorT d c.2) = true ∨ (ctorT d c.2).right = false := by
  cases e : (ctorT d c.2).right with
  | false => exact .inr rfl
  | true => exact .inl ((rightSB_iff ..).2 ⟨e, (ctor_src h hc).1⟩)
theorem mem_parts {d : Dc} (ha : d.all ≤ 1048576) {m : List Tm} (hm : m ∈ d.mems) : 1 + Tm.countL m ≤ 1048576 ∧ Tm.countL d.pars ≤ 1048576 ∧ Tm.countL d.pars + Tm.countL m ≤ 1048576 := by
  have := sumF_mem (f := fun m : List Tm => 1 + Tm.countL m) hm
  unfold Dc.all at ha
  omega
theorem ctor_parts {d : Dc} (ha : d.all ≤ 1048576) {c : Int × Tm} (hc : c ∈ d.ctors) : 1 + c.2.count ≤ 1048576 ∧ Tm.countL d.pars ≤ 1048576 := by
  have := sumF_mem (f := fun c : Int × Tm => 1 + c.2.count) hc
  unfold Dc.all at ha
  omega
theorem sort_fit {ps : List (Int × Int)} (h : ps.length ≤ 9) : (Tm.mk 2 0 0 [ps] []).fit := by
  rw [Tm.fit_mk]
  refine ⟨by unfold Rng; omega, ⟨by simp, fun l hl => ?_⟩, by simp, by simp [Tm.fitL]⟩
  obtain rfl : l = ps := by simpa using hl
  omega
theorem mem_fit {d : Dc} (hf : d.fits) (hs : d.sort.length ≤ 9) {m : List Tm} (hm : m ∈ d.mems) : (aboveT 4 (.mk 2 0 0 [d.sort] []) m).fit ∧ (memT d m).fit := by
  have h1 := aboveT_fit (k := 4) (sort_fit hs) m (hf.2.2.2.1 m hm)
  exact ⟨h1, aboveT_fit h1 d.pars hf.2.2.1⟩
theorem mem_size {d : Dc} (ha : d.all ≤ 1048576) {m : List Tm} (hm : m ∈ d.mems) : (aboveT 4 (.mk 2 0 0 [d.sort] []) m).size ≤ 4194304 ∧ (memT d m).size ≤ 16777216 := by
  obtain ⟨h1, h2, _⟩ := mem_parts ha hm
  have p1 := sizeL_le_count m
  have p2 := sizeL_le_count d.pars
  have p3 := len_le_count m
  have p4 := len_le_count d.pars
  have e1 := aboveT_size (k := 4) (b := .mk 2 0 0 [d.sort] []) m
  have e2 := aboveT_size (k := 4) (b := aboveT 4 (.mk 2 0 0 [d.sort] []) m) d.pars
  have e0 : (Tm.mk 2 0 0 [d.sort] []).size = 1 := by rw [Tm.size_mk]; simp [Tm.sizeL]
  unfold memT
  omega
theorem ctor_size {d : Dc} (ha : d.all ≤ 1048576) {c : Int × Tm} (hc : c ∈ d.ctors) : (ctorT d c.2).size ≤ 16777216 := by
  obtain ⟨h1, h2⟩ := ctor_parts ha hc
  have p2 := sizeL_le_count d.pars
  have p4 := len_le_count d.pars
  have p5 := Tm.size_le_count c.2
  have e2 := aboveT_size (k := 4) (b := c.2) d.pars
  unfold ctorT
  omega
theorem pars_small {d : Dc} (hf : d.fits) (ha : d.all ≤ 1048576) : d.pars.length ≤ 1048576 ∧ ∀ t ∈ d.pars, t.fit ∧ t.size ≤ 1073741824 := by
  have h : Tm.countL d.pars ≤ 1048576 := by unfold Dc.all at ha; omega
  have p4 := len_le_count d.pars
  exact ⟨by omega, fun t ht => ⟨hf.2.2.1 t ht, by have := Tm.countL_mem ht; have := Tm.size_le_count t; omega⟩⟩
theorem mems_small {d : Dc} (hf : d.fits) (ha : d.all ≤ 1048576) {m : List Tm} (hm : m ∈ d.mems) : m.length ≤ 1048576 ∧ ∀ t ∈ m, t.fit ∧ t.size ≤ 1073741824 := by
  obtain ⟨h1, _⟩ := mem_parts ha hm
  have p4 := len_le_count m
  exact ⟨by omega, fun t ht => ⟨hf.2.2.2.1 m hm t ht, by have := Tm.countL_mem ht; have := Tm.size_le_count t; omega⟩⟩
/-- a definition as an axiom -/
def asAxiom (d : Dc) : Dc := ⟨1, d.lev, d.ty, .mk 0 0 0 [] [], [], [], [], []⟩
theorem axiom_src {ds : List Dc} {d : Dc} (h : DeclSrc ds d) (hk : ¬ d.kind = 3) : DeclSrc ds (asAxiom d) ∧ (d.kind = 1 ∨ d.kind = 2) := by
  obtain ⟨h1, h2, h3⟩ := h
  have hx : RightSrc d.lev 0 0 ds d.ty ∧ (d.kind = 1 ∨ d.kind = 2) := by
    split at h3
    · rename_i e; exact ⟨h3.2.2, .inl e⟩
    · split at h3
      · rename_i e; exact ⟨h3.2.1, .inr e⟩
      · exact h3.elim
  refine ⟨⟨h1, h2, ?_⟩, hx.2⟩
  rw [if_pos (show (asAxiom d).kind = 1 from rfl)]
  exact ⟨rfl, rfl, hx.1⟩
theorem axiom_fits {d : Dc} (h : d.fits) : (asAxiom d).fits := ⟨h.1, by rw [show (asAxiom d).bo = .mk 0 0 0 [] [] from rfl, Tm.fit_mk]; exact ⟨by unfold Rng; omega, ⟨by simp, by simp⟩, by simp, by simp [Tm.fitL]⟩, fun t ht => (by cases ht), fun m hm => (by cases hm), fun c hc => (by cases hc)⟩
theorem axiom_all {d : Dc} (h : d.all ≤ 1048576) : (asAxiom d).all ≤ 1048576 := by
  have e : (Tm.mk 0 0 0 [] []).count = 1 := by rfl
  have := Tm.size_le_count d.bo
  have := Tm.size_pos d.bo
  unfold Dc.all at h ⊢
  simp only [asAxiom, e, Tm.countL, List.length_nil, sumF]
  omega
end Go.Proofs.YtfgnnbpbbnnnhaaDoor
namespace Go.Proofs.YtfgnnbpbbnnnhaaDoor
open Go.RowKit Go.Maps
/-- a declaration's cells, by their numbers -/
theorem dc_parts {w : World} {B : Nat} {d : Dc} {cs : Array Value} (h : DcAt w B d cs) : ∃ (i0 i1 i2 : Int) (S0 : Option Addr) (n0 m0 : Nat) (S1 : Option Addr) (n1 m1 : Nat) (Ap As Am Ac : Option Addr) (cp cz cm cc : Nat),
    (cs[0]? = some (.int .i64 d.kind) ∧ cs[1]? = some (.int .i64 d.lev)) ∧ (cs[2]? = some (.int .i64 i0) ∧ cs[2 + 1]? = some (.int .i64 i1) ∧ cs[2 + 2]? = some (.int .i64 i2) ∧ cs[2 + 3]? = some (.slice S0 n0 m0) ∧ cs[2 + 4]? = some (.slice S1 n1 m1)) ∧
    cs[12]? = some (.slice Ap d.pars.length cp) ∧ cs[13]? = some (.slice As d.sort.length cz) ∧ cs[14]? = some (.slice Am d.mems.length cm) ∧ cs[15]? = some (.slice Ac d.ctors.length cc) ∧
    TmAt w B d.ty (.agg #[.int .i64 i0, .int .i64 i1, .int .i64 i2, .slice S0 n0 m0, .slice S1 n1 m1]) ∧ Tms w B Ap cp d.pars ∧ (As = none → cz = 0) ∧ Lev w B As d.sort ∧ Mems w B Am cm d.mems ∧ Ctrs w B Ac cc d.ctors := by
  obtain ⟨a0, a1, a2, a3, a4, b0, b1, b2, b3, b4, Ap, As, Am, Ac, cp, cz, cm, cc, rfl, h1, _, h3, h4, h5, h6, h7⟩ := h
  obtain ⟨i, j, l, A, C, n, c, m, e, rfl, rfl, rfl, rfl, rfl⟩ := tm_cells5 h1
  exact ⟨i, j, l, A, n, c, C, m, e, Ap, As, Am, Ac, cp, cz, cm, cc, ⟨rfl, rfl⟩, ⟨rfl, rfl, rfl, rfl, rfl⟩, rfl, rfl, rfl, rfl, h1, h3, h4, h5, h6, h7⟩
/-- the operation that lays a row -/
theorem wpList_sliceR {P : Program} {ops : Array Oper} {rest : List Oper} {o : Oper} {a : Act} {w w' : World} {Q : Exit → Act → World → Prop} (hgd : o.guard = none) (t : TypeId) (n : Nat) (ps : List (Nat × Operand))
    (ho : o.op = .buildSlice t n ps.toArray) {vs : List (Nat × Value)} (hx : ps.map (fun p => (p.1, a.eval p.2)) = vs) {v : Value} (hr : (Instr.buildSlice t n vs.toArray).run P w = .ok v w') (h : wpList P ops Q rest (a.put o.dst v) w') : wpList P ops Q (o :: rest) a w := by
  refine wpList_plain hgd fun K hK => ?_
  have e : (ps.toArray.map fun x => (x.1, a.eval x.2)) = vs.toArray := by rw [List.map_toArray, hx]
  unfold Oper.wp execOp
  simp only [ho, e]
  simp only [Sem.run_bind, hr, Result.andThen_ok, Sem.run_pure]
  exact hK _ _ h
/-- a guarded operation that reads a struct at once -/
theorem wpList_load_g {P : Program} {ops : Array Oper} {rest : List Oper} {o : Oper} {a : Act} {w : World} {Q : Exit → Act → World → Prop} (hgd : Region.wanted o (yielded ops a.tmps) = true) (ty : TypeId) (x : Operand) (ho : o.op = .load ty x) (p v : Value) (hx : a.eval x = p)
    (hr : (Instr.loadAt ty p).run P w = .ok v w) (h : wpList P ops Q rest (a.put o.dst v) w) : wpList P ops Q (o :: rest) a w := by
  refine wpList_step fun K hK => ?_
  rw [if_pos hgd]
  unfold Oper.wp execOp
  simp only [ho, hx, Sem.run_bind, Sem.run_pure, Result.andThen_ok, hr]
  exact hK _ _ h
set_option maxRecDepth 100000 in
theorem slice_dc {w0 : World} {B : Nat} {d : Dc} {cs : Array Value} (h : DcAt w0 B d cs) (w : World) : (Instr.buildSlice 22 1 [(0, (.agg cs : Value))].toArray).run Tryd.prog w = .ok (.slice (some ⟨w.heap.size, 0, none⟩) 1 1) (w.alloc (.cells cs 43)) := by
  obtain ⟨i0, i1, i2, i3, i4, i5, i6, i7, S0, S1, S2, S3, S4, S5, S6, S7, l0, l1, l2, l3, l4, l5, l6, l7, m0, m1, m2, m3, m4, m5, m6, m7, rfl⟩ := h.shape
  go_simp
/-- a row of one declaration of the call's own -/
theorem own_dc {w : World} {base g : Nat} {cs : Array Value} (hg : w.heap[g]? = some (.cells cs 43 (0, 0))) (hs : cs.size = 16) (hb : base ≤ g) : w.ownsRow base 43 16 (.slice (some ⟨g, 0, none⟩) 1 1) 1 cs.toList :=
  ⟨by simp [hs], .inr ⟨g, 1, cs, rfl, hb, hg, Nat.le_refl _, by unfold maxLen; omega, by rw [hs], by rw [List.take_of_length_le (by simp [hs])]⟩⟩
theorem at_cons {W : World} {B : Nat} {A : Option Addr} {d : Dc} {ds : List Dc} {cs : Array Value} {Y : List Value} (h : DcAt W B d cs) (h2 : DcL W B A ds Y) : ∀ (i : Nat) (x : Dc), (d :: ds)[i]? = some x → ∃ c, DcAt W B x c ∧ ∀ j, j < 16 → (cs.toList ++ Y)[i * 16 + j]? = c[j]? := fun i x hi => by
  have hl : cs.toList.length = 16 := by simp [h.size]
  cases i with
  | zero =>
    injection hi with hi
    subst hi
    exact ⟨cs, h, fun j hj => by rw [Nat.zero_mul, Nat.zero_add, List.getElem?_append_left (by omega)]; simp⟩
  | succ i =>
    obtain ⟨c, q1, q2⟩ := h2.at_ i x (by simpa using hi)
    exact ⟨c, q1, fun j hj => by rw [List.getElem?_append_right (by omega), hl, show (i + 1) * 16 + j - 16 = i * 16 + j by omega]; exact q2 j hj⟩
/-- a definition as an axiom: its cells -/
def axV (l i0 i1 i2 : Int) (S0 : Option Addr) (n0 m0 : Nat) (S1 : Option Addr) (n1 m1 : Nat) : Array Value := #[.int .i64 1, .int .i64 l, .int .i64 i0, .int .i64 i1, .int .i64 i2, .slice S0 n0 m0, .slice S1 n1 m1, .int .i64 0, .int .i64 0, .int .i64 0, .slice none 0 0, .slice none 0 0, .slice none 0 0, .slice none 0 0, .slice none 0 0, .slice none 0 0]
theorem ax_at {w : World} {B : Nat} {d : Dc} {i0 i1 i2 : Int} {S0 S1 : Option Addr} {n0 m0 n1 m1 : Nat} (h : TmAt w B d.ty (.agg #[.int .i64 i0, .int .i64 i1, .int .i64 i2, .slice S0 n0 m0, .slice S1 n1 m1])) : DcAt w B (asAxiom d) (axV d.lev i0 i1 i2 S0 n0 m0 S1 n1 m1) :=
  ⟨_, _, _, _, _, _, _, _, _, _, none, none, none, none, 0, 0, 0, 0, rfl, h, zT9_at w B, cnt_nil0 _ _, fun _ => rfl, fun h => by simp [asAxiom] at h, ⟨fun _ => rfl, fun h => by simp [asAxiom] at h⟩, ⟨fun _ => rfl, fun h => by simp [asAxiom] at h⟩⟩
end Go.Proofs.YtfgnnbpbbnnnhaaDoor
namespace Go.Proofs.YtfgnnbpbbnnnhaaDoor
open Go.RowKit Go.Maps
set_option maxRecDepth 100000 in
theorem dc_f4R {g : Nat} {w : World} : (Instr.fieldAt 43 (.pointer (some ⟨g, 0, none⟩)) 4).run Tryd.prog w = .ok (.pointer (some ⟨g, 12, none⟩)) w := by go_simp
set_option maxRecDepth 100000 in
theorem load_tsR {b o n c : Nat} {w : World} {A : Option Addr} (h : w.cell? ⟨b, o, none⟩ = some (.slice A n c)) : (Instr.loadAt 25 (.pointer (some ⟨b, o, none⟩))).run Tryd.prog w = .ok (.slice A n c) w := by go_simp
set_option maxRecDepth 100000 in
theorem load_intR {b o : Nat} {x : Int} {w : World} (h : w.cell? ⟨b, o, none⟩ = some (.int .i64 x)) : (Instr.loadAt 3 (.pointer (some ⟨b, o, none⟩))).run Tryd.prog w = .ok (.int .i64 x) w := by go_simp
set_option maxRecDepth 100000 in
theorem mem_addrR {b o n c k : Nat} {w : World} (h0 : (0 : Int) ≤ (k : Int)) (h1 : (k : Int) < (n : Int)) : (Instr.indexAt 40 (.slice (some ⟨b, o, none⟩) n c) (.int .i64 (k : Int))).run Tryd.prog w = .ok (.pointer (some ⟨b, o + k, none⟩)) w := by go_simp
set_option maxRecDepth 100000 in
theorem ctor_addrR {b o n c k : Nat} {w : World} (h0 : (0 : Int) ≤ (k : Int)) (h1 : (k : Int) < (n : Int)) : (Instr.indexAt 41 (.slice (some ⟨b, o, none⟩) n c) (.int .i64 (k : Int))).run Tryd.prog w = .ok (.pointer (some ⟨b, o + k * 6, none⟩)) w := by go_simp
set_option maxRecDepth 100000 in
theorem mem_f0R {b o : Nat} {w : World} : (Instr.fieldAt 47 (.pointer (some ⟨b, o, none⟩)) 0).run Tryd.prog w = .ok (.pointer (some ⟨b, o, none⟩)) w := by go_simp
set_option maxRecDepth 100000 in
theorem ctor_f0R {b o : Nat} {w : World} : (Instr.fieldAt 50 (.pointer (some ⟨b, o, none⟩)) 0).run Tryd.prog w = .ok (.pointer (some ⟨b, o, none⟩)) w := by go_simp
set_option maxRecDepth 100000 in
theorem ctor_f1R {b o : Nat} {w : World} : (Instr.fieldAt 50 (.pointer (some ⟨b, o, none⟩)) 1).run Tryd.prog w = .ok (.pointer (some ⟨b, o + 1, none⟩)) w := by go_simp
theorem load_fiveR {w : World} {b o : Nat} {c0 c1 c2 c3 c4 : Value} (h : w.cell? ⟨b, o, none⟩ = some c0 ∧ w.cell? ⟨b, o + 1, none⟩ = some c1 ∧ w.cell? ⟨b, o + 2, none⟩ = some c2 ∧ w.cell? ⟨b, o + 3, none⟩ = some c3 ∧ w.cell? ⟨b, o + 4, none⟩ = some c4) : (Instr.loadAt 27 (.pointer (some ⟨b, o, none⟩))).run Tryd.prog w = .ok (.agg #[c0, c1, c2, c3, c4]) w :=
  run_loadAt_cells Tryd.underlying27 rfl infoT5 rfl fun j hj => by
    match j, hj with
    | 0, _ => exact h.1
    | 1, _ => exact h.2.1
    | 2, _ => exact h.2.2.1
    | 3, _ => exact h.2.2.2.1
    | 4, _ => exact h.2.2.2.2
set_option maxRecDepth 100000 in
theorem enter_tsort (vs : Array Value) (w : World) : (callFunc 16 vs).run Tryd.prog w = .ok (.enter 16 vs) w := by go_simp
set_option maxRecDepth 100000 in
theorem enter_tpis (vs : Array Value) (w : World) : (callFunc 15 vs).run Tryd.prog w = .ok (.enter 15 vs) w := by go_simp
set_option maxRecDepth 100000 in
theorem enter_tright (vs : Array Value) (w : World) : (callFunc 11 vs).run Tryd.prog w = .ok (.enter 11 vs) w := by go_simp
set_option maxRecDepth 100000 in
theorem geq_toR {x y : Int} {b : Bool} (p q : Operand) (w : World) (h : decide (y ≤ x) = b) : ((do eqGuard .geq 3 p q (.int .i64 x) (.int .i64 y); binOp .geq 3 (.int .i64 x) (.int .i64 y) : Sem Value)).run Tryd.prog w = .ok (.bool b) w := by
  rw [← h]
  go_simp
/-- a term made since -/
def NewF (u : Tm) (w w' : World) (x : Value) : Prop := FreshT w w' u x
theorem awayF_ok {Vs : List (Value → World → Prop)} {Ns : List (Nat × (World → World → Value → Prop))} {i j B : Nat} {u : Tm} (hij : i ≠ j) (h1 : Vl Vs i = fun x w => TmAt w w.heap.size u x) (h2 : Vl Vs j = BoxV B) (h3 : NlW Ns i = NewF u) (h4 : NlW Ns j = NewB) :
    PrOkW (fun w1 w2 : World => Below w1.heap.size w1 w2) Vs Ns [⟨i, j, AwayT u⟩] := by
  intro q hq
  obtain rfl : q = ⟨i, j, AwayT u⟩ := by simpa using hq
  simp only [h1, h2, h3, h4]
  refine ⟨hij, fun x v w w' hR q1 q2 q3 => ?_, fun x v w w' hR q1 q2 q3 => ?_, fun x y w w' hR p1 p2 h => ?_⟩
  · obtain ⟨g, rfl, p3⟩ := q3
    exact ⟨g, rfl, TmAt.keep hR.size (fun p hp => (World.cell?_of_block (setRow_other w' g p.block _ (by omega))).trans (hR.cell hp)) _ _ q1⟩
  · obtain ⟨g, rfl, _, p3⟩ := q1
    have hg := heap_some_lt p3
    refine ⟨g, rfl, tm_mono (Nat.le_refl _) (fun p u e => ?_) _ _ q3⟩
    obtain ⟨e1, e2⟩ := mask_cell _ _ _ _ e
    exact (World.cell?_of_block (setRow_other w' g p.block _ (fun h => e1 (List.mem_range.2 (by omega))))).trans e2
  · obtain ⟨g, rfl, _, p3⟩ := p2
    obtain ⟨g', e, hT⟩ := h
    obtain rfl : g = g' := by injection e with e; injection e with e; injection e
    have p4 := (hR.block g (heap_some_lt p3)).trans p3
    refine ⟨g, rfl, TmAt.keep hR.size (fun p hp => ?_) _ _ hT⟩
    rw [gone_cell w' g p4, gone_cell w g p3]
    split
    · rfl
    · exact hR.cell hp
/-- the term put into its variable -/
theorem away_put {wf wz : World} {g : Nat} {u : Tm} {v : Value} {cs : Array Value} {t : TypeId} (hg : wf.heap[g]? = some (.cells cs t (0, 0))) (hz : ∀ b, b ≠ g → wz.heap[b]? = wf.heap[b]?) (hs : wz.heap.size = wf.heap.size) (h : TmAt (wf.setRow g #[]) wf.heap.size u v) : TmAt wz wz.heap.size u v := by
  rw [hs]
  refine tm_mono (Nat.le_refl _) (fun p a e => ?_) _ _ h
  rw [gone_cell wf g hg] at e
  split at e
  · cases e
  · rename_i h1
    exact (World.cell?_of_block (hz _ h1)).trans e
end Go.Proofs.YtfgnnbpbbnnnhaaDoor
