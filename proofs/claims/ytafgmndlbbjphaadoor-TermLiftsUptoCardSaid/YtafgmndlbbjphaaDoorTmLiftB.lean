/- What Lift answers. -/
import Derived.Test.YtafgmndlbbjphaaDoorTmNodeB
namespace Go.Proofs.YtafgmndlbbjphaaDoor
open Go.RowKit Go.Maps

/-- five cells, stored one by one -/
def store5 (w : World) (b o : Nat) (c0 c1 c2 c3 c4 : Value) : World := ((((w.setCell ⟨b, o, none⟩ c0).setCell ⟨b, o + 1, none⟩ c1).setCell ⟨b, o + 2, none⟩ c2).setCell ⟨b, o + 3, none⟩ c3).setCell ⟨b, o + 4, none⟩ c4
theorem store5_post {w : World} {b : Nat} {cur : Array Value} {t : TypeId} {fr : Nat × Nat} (h : w.heap[b]? = some (.cells cur t fr)) {o : Nat} (hs : o + 5 ≤ cur.size) (c0 c1 c2 c3 c4 : Value) :
    w.grownBy (store5 w b o c0 c1 c2 c3 c4) (some b) ∧ (store5 w b o c0 c1 c2 c3 c4).heap.size = w.heap.size ∧ ∃ cur', (store5 w b o c0 c1 c2 c3 c4).heap[b]? = some (.cells cur' t fr) ∧ Only5 cur cur' o ∧ Cells5 cur' o c0 c1 c2 c3 c4 := by
  refine ⟨grown_set (grown_set (grown_set (grown_set (grown_set (grown_refl _ _) _ _) _ _) _ _) _ _) _ _, by simp [store5, World.setCell], _, set_same (set_same (set_same (set_same (set_same h _ _) _ _) _ _) _ _) _ _, ?_, ?_⟩
  · exact ((((Only5.set _ (by omega) (by omega)).trans (Only5.set _ (by omega) (by omega))).trans (Only5.set _ (by omega) (by omega))).trans (Only5.set _ (by omega) (by omega))).trans (Only5.set _ (by omega) (by omega))
  · have s0 : o < cur.size := by omega
    have s1 : o + 1 < cur.size := by omega
    have s2 : o + 2 < cur.size := by omega
    have s3 : o + 3 < cur.size := by omega
    have s4 : o + 4 < cur.size := by omega
    refine ⟨?_, ?_, ?_, ?_, ?_⟩ <;> simp [s0, s1, s2, s3, s4]
/-- a term of the call's own, told -/
def TermPost (w : World) (u : Tm) (e : Ending) (w' : World) : Prop := ∃ v, e = .returned v ∧ OwnTm w' w.heap.size w'.heap.size u v ∧ Below w.heap.size w w'
set_option maxRecDepth 100000 in
set_option maxHeartbeats 4000000 in
theorem term_of (W : World) (B D fid : Nat) (caps : Array Value) (tr : Turn) (hD : D ≤ 1073741824) (hB : 0 < B) (hK : KindsAt W) (hcall : ∀ vs w, (callFunc fid vs).run Tryd.prog w = .ok (.enter fid vs) w) (hT : TurnOk W B D fid caps tr)
    (k n a : Int) (lv : List (List (Int × Int))) (kids : List Tm) (hf : (Tm.mk k n a lv kids).fit) (d : Nat) (w : World) (Al Ak : Option Addr) (p1 c1 p2 c2 : Nat) (hd : d + (Tm.mk k n a lv kids).size ≤ D) (hb : Below B W w) (hBw : B ≤ w.heap.size) (hv : TmAt W B (.mk k n a lv kids) (.agg #[.int .i64 k, .int .i64 n, .int .i64 a, .slice Al p1 c1, .slice Ak p2 c2])) :
    Calls Tryd.prog 24 #[.agg #[.int .i64 (d : Int), .func (.func fid) #[] caps], .agg #[.int .i64 k, .int .i64 n, .int .i64 a, .slice Al p1 c1, .slice Ak p2 c2]] w (TermPost w ((Tm.mk k n a lv kids).walk tr d)) := by
  obtain ⟨w1, hw1⟩ : ∃ x, ((w.alloc (.cells #[.int .i64 (d : Int), .func (.func fid) #[] caps] 49)).alloc (.cells #[.int .i64 k, .int .i64 n, .int .i64 a, .slice Al p1 c1, .slice Ak p2 c2] 26)).alloc (.cells #[.int .i64 0, .int .i64 0, .int .i64 0, .slice none 0 0, .slice none 0 0] 26) = x := ⟨_, rfl⟩
  have hb1 : Below w.heap.size w w1 := by rw [← hw1]; exact (((Below.refl _ _).alloc (Nat.le_refl _) _).alloc (by simp) _).alloc (by simp; omega) _
  have hs1 : w1.heap.size = w.heap.size + 3 := by rw [← hw1]; simp
  obtain ⟨z1, z2, _⟩ := two_allocs w (.cells #[.int .i64 (d : Int), .func (.func fid) #[] caps] 49) (.cells #[.int .i64 k, .int .i64 n, .int .i64 a, .slice Al p1 c1, .slice Ak p2 c2] 26)
  have x0 : w1.heap[w.heap.size]? = some (.cells #[.int .i64 (d : Int), .func (.func fid) #[] caps] 49 (0, 0)) := by rw [← hw1, Below.heap_alloc _ _ _ (by simp; omega)]; exact z1
  have x1 : w1.heap[w.heap.size + 1]? = some (.cells #[.int .i64 k, .int .i64 n, .int .i64 a, .slice Al p1 c1, .slice Ak p2 c2] 26 (0, 0)) := by rw [← hw1, Below.heap_alloc _ _ _ (by simp)]; exact z2
  have x2 : w1.heap[w.heap.size + 1 + 1]? = some (.cells #[.int .i64 0, .int .i64 0, .int .i64 0, .slice none 0 0, .slice none 0 0] 26 (0, 0)) := by
    rw [← hw1]
    have := heap_alloc_new ((w.alloc (.cells #[.int .i64 (d : Int), .func (.func fid) #[] caps] 49)).alloc (.cells #[.int .i64 k, .int .i64 n, .int .i64 a, .slice Al p1 c1, .slice Ak p2 c2] 26)) (.cells #[.int .i64 0, .int .i64 0, .int .i64 0, .slice none 0 0, .slice none 0 0] 26)
    simpa using this
  obtain ⟨u, hu⟩ : ∃ u, (Tm.mk k n a lv kids).walk tr d = u := ⟨_, rfl⟩
  rw [hu]
  have HN : Hid (Calls Tryd.prog 37 #[.agg #[.int .i64 (d : Int), .func (.func fid) #[] caps], .pointer (some ⟨w.heap.size + 1, 0, none⟩)] w1 (NodePost w1 (w.heap.size + 1) 0 #[.int .i64 k, .int .i64 n, .int .i64 a, .slice Al p1 c1, .slice Ak p2 c2] u)) := by
    rw [← hu]
    exact node_any W B D fid caps tr hD hB hK hcall hT _ hf d w1 (w.heap.size + 1) 0 _ _ _ _ _ _ hd (hb.trans (hb1.mono hBw)) (by omega) x1 ⟨rfl, rfl, rfl, rfl, rfl⟩ hv
  have y0 := cell_of_row _ _ 0 _ _ (0, 0) x0
  have y1 := cell_of_row _ _ 1 _ _ (0, 0) x0
  have X2 := Lib.hid x2
  have HB1 := Lib.hid hb1
  have HS1 := Lib.hid hs1
  clear hu hT hK hcall hf hd hb hv x0 x1 x2 hb1 hs1 z1 z2
  go_enter Tryd.func24, Tryd.ntmps24
  go_wp2_with (fail)
  refine HN.out.mono ?_
  rintro e w2 ⟨rfl, hgr, cur2, c0, c1', c2', c3, c4, hx2, _, hc2, hown⟩
  obtain ⟨k2, n2, a2, lv2, kids2⟩ := u
  obtain ⟨vl, vk, m1, m2, xs, e, w1', ⟨A5, c5, rfl⟩, w2', w3'⟩ := hown.open
  obtain ⟨A6, c6, rfl, _⟩ := w2'.2.1
  obtain ⟨p5, hp5⟩ : ∃ p, lv2.length = p := ⟨_, rfl⟩
  obtain ⟨p6, hp6⟩ : ∃ p, kids2.length = p := ⟨_, rfl⟩
  rw [hp5, hp6] at e
  injection e with e
  injection e with e
  injection e with q0 e
  injection e with q1 e
  injection e with q2 e
  injection e with q3 e
  injection e with q4 _
  subst q0 q1 q2 q3 q4
  have f0 := row_cell hx2 hc2.1
  have f1 := row_cell hx2 hc2.2.1
  have f2 := row_cell hx2 hc2.2.2.1
  have f3 := row_cell hx2 hc2.2.2.2.1
  have f4 := row_cell hx2 hc2.2.2.2.2
  have hr2 := (hgr.block (w.heap.size + 1 + 1) (by have := HS1.out; omega) (fun e => by have := Option.some.inj e; omega)).trans X2.out
  have e0 := cell_of_row _ _ 0 _ _ (0, 0) hr2
  have e1 := cell_of_row _ _ 1 _ _ (0, 0) hr2
  have e2 := cell_of_row _ _ 2 _ _ (0, 0) hr2
  have e3 := cell_of_row _ _ 3 _ _ (0, 0) hr2
  have e4 := cell_of_row _ _ 4 _ _ (0, 0) hr2
  have t0 := thawed hr2 0
  have t1 := thawed hr2 1
  have t2 := thawed hr2 2
  have t3 := thawed hr2 3
  have t4 := thawed hr2 4
  have HGR := Lib.hid hgr
  have HX2 := Lib.hid hr2
  have HOWN := Lib.hid hown
  clear hgr hx2 hc2 hown hr2 HN w1' w2' w3' hp5 hp6
  obtain ⟨g9, s9, cur9, h9, _, hc9⟩ := store5_post HX2.out (o := 0) (by simp) (.int .i64 k2) (.int .i64 n2) (.int .i64 a2) (.slice A5 p5 c5) (.slice A6 p6 c6)
  have r0 := row_cell h9 hc9.1
  have r1 := row_cell h9 hc9.2.1
  have r2 := row_cell h9 hc9.2.2.1
  have r3 := row_cell h9 hc9.2.2.2.1
  have r4 := row_cell h9 hc9.2.2.2.2
  have HFIN : Hid (TermPost w (Tm.mk k2 n2 a2 lv2 kids2) (.returned (.agg #[.int .i64 k2, .int .i64 n2, .int .i64 a2, .slice A5 p5 c5, .slice A6 p6 c6])) (store5 w2 (w.heap.size + 1 + 1) 0 (.int .i64 k2) (.int .i64 n2) (.int .i64 a2) (.slice A5 p5 c5) (.slice A6 p6 c6))) := by
    have hs1 := HS1.out
    have hgs := HGR.out.size
    refine ⟨_, rfl, ?_, (HB1.out.trans (below_grown HGR.out (by omega) (by omega))).trans (below_grown g9 (by omega) (by omega))⟩
    rw [s9]
    exact (HOWN.out.kept (grown_kept g9 (by omega) (Nat.le_refl _))).wide (by omega) (Nat.le_refl _)
  unfold store5 at HFIN r0 r1 r2 r3 r4
  clear g9 s9 h9 hc9 HGR HX2 HOWN
  go_wp2
  exact bodyPost_ret (v := .agg #[.int .i64 k2, .int .i64 n2, .int .i64 a2, .slice A5 p5 c5, .slice A6 p6 c6]) (by simp [results, Tryd.results24, go_sem, r0, r1, r2, r3, r4]) rfl HFIN.out
/-- walk.term answers the term's walk. -/
theorem term_any (W : World) (B D fid : Nat) (caps : Array Value) (tr : Turn) (hD : D ≤ 1073741824) (hB : 0 < B) (hK : KindsAt W) (hcall : ∀ vs w, (callFunc fid vs).run Tryd.prog w = .ok (.enter fid vs) w) (hT : TurnOk W B D fid caps tr)
    (t : Tm) (hf : t.fit) (d : Nat) (v : Value) (w : World) (hd : d + t.size ≤ D) (hb : Below B W w) (hBw : B ≤ w.heap.size) (hv : TmAt W B t v) :
    Calls Tryd.prog 24 #[.agg #[.int .i64 (d : Int), .func (.func fid) #[] caps], v] w (TermPost w (t.walk tr d)) := by
  obtain ⟨k, n, a, lv, kids⟩ := t
  have hv' := hv
  obtain ⟨Al, cl, Ak, ck, rfl, _⟩ := hv.open
  exact term_of W B D fid caps tr hD hB hK hcall hT k n a lv kids hf d w Al Ak _ cl _ ck hd hb hBw hv'
end Go.Proofs.YtafgmndlbbjphaaDoor
namespace Go.Proofs.YtafgmndlbbjphaaDoor
open Go.RowKit Go.Maps

set_option maxRecDepth 100000 in
theorem enter_lift1 (vs : Array Value) (w : World) : (callFunc 25 vs).run Tryd.prog w = .ok (.enter 25 vs) w := by go_simp
theorem turnOk_lift (W : World) (B D pf pn : Nat) (n from' : Int) (hf : W.cell? ⟨pf, 0, none⟩ = some (.int .i64 from')) (hn : W.cell? ⟨pn, 0, none⟩ = some (.int .i64 n)) (hpf : pf < B) (hpn : pn < B) :
    TurnOk W B D 25 #[.pointer (some ⟨pf, 0, none⟩), .pointer (some ⟨pn, 0, none⟩)] (liftT n from') := by
  intro d k m a lv w g o cur Al cl vk _ hr hs hb hg hx h5 hl hz
  refine (turn_lift d k m n from' g o pf pn cur w hx h5.1 h5.2.1 hr ((hb.cell (p := ⟨pf, 0, none⟩) hpf).trans hf) ((hb.cell (p := ⟨pn, 0, none⟩) hpn).trans hn)).mono ?_
  rintro e w' ⟨rfl, hgr, hx'⟩
  refine ⟨hgr, rfl, hs.wide, _, Al, cl, hx', Only5.set _ (by omega) (by omega), h5.set1 _, ?_, hz⟩
  have hgl := heap_some_lt hx
  have hb2 : Below B w w' := below_grown hgr hg (by omega)
  exact (hl.keep (Nat.le_refl _) fun _ hp => hb.cell hp).keep (by have := hgr.size; omega) fun _ hp => hb2.cell hp

set_option maxRecDepth 100000 in
set_option maxHeartbeats 4000000 in
theorem lift_of (k n a : Int) (lv : List (List (Int × Int))) (kids : List Tm) (hf : (Tm.mk k n a lv kids).fit) (w : World) (Al Ak : Option Addr) (p1 c1 p2 c2 : Nat) (m from' : Int) (hd : (Tm.mk k n a lv kids).size ≤ 1073741824) (hK : KindsAt w)
    (hv : TmAt w w.heap.size (.mk k n a lv kids) (.agg #[.int .i64 k, .int .i64 n, .int .i64 a, .slice Al p1 c1, .slice Ak p2 c2])) :
    Calls Tryd.prog 11 #[.agg #[.int .i64 k, .int .i64 n, .int .i64 a, .slice Al p1 c1, .slice Ak p2 c2], .int .i64 m, .int .i64 from'] w (TermPost w ((Tm.mk k n a lv kids).walk (liftT m from') 0)) := by
  have h0 : 0 < w.heap.size := cell_lt (hK 0 (by decide))
  obtain ⟨wa, hwa⟩ : ∃ x, w.alloc (.cells #[.int .i64 k, .int .i64 n, .int .i64 a, .slice Al p1 c1, .slice Ak p2 c2] 26) = x := ⟨_, rfl⟩
  obtain ⟨w1, hw1⟩ : ∃ x, ((wa.alloc (.cells #[.int .i64 m] 3)).alloc (.cells #[.int .i64 from'] 3)).alloc (.cells #[.int .i64 0, .int .i64 0, .int .i64 0, .slice none 0 0, .slice none 0 0] 26) = x := ⟨_, rfl⟩
  have hsa : wa.heap.size = w.heap.size + 1 := by rw [← hwa]; simp
  have hba : Below w.heap.size w wa := by rw [← hwa]; exact (Below.refl _ _).alloc (Nat.le_refl _) _
  have hb1a : Below wa.heap.size wa w1 := by rw [← hw1]; exact (((Below.refl _ _).alloc (Nat.le_refl _) _).alloc (by simp) _).alloc (by simp; omega) _
  have hb1 := hba.trans (hb1a.mono (by omega))
  have hs1 : w1.heap.size = w.heap.size + 4 := by rw [← hw1]; simp [hsa]
  have xa : wa.heap[w.heap.size]? = some (.cells #[.int .i64 k, .int .i64 n, .int .i64 a, .slice Al p1 c1, .slice Ak p2 c2] 26 (0, 0)) := by rw [← hwa]; exact heap_alloc_new w _
  have x0 := (hb1a.block w.heap.size (by omega)).trans xa
  obtain ⟨z1, z2, _⟩ := two_allocs wa (.cells #[.int .i64 m] 3) (.cells #[.int .i64 from'] 3)
  rw [hsa] at z1 z2
  have x1 : w1.heap[w.heap.size + 1]? = some (.cells #[.int .i64 m] 3 (0, 0)) := by rw [← hw1, Below.heap_alloc _ _ _ (by simp [hsa])]; exact z1
  have x2 : w1.heap[w.heap.size + 1 + 1]? = some (.cells #[.int .i64 from'] 3 (0, 0)) := by rw [← hw1, Below.heap_alloc _ _ _ (by simp [hsa])]; exact z2
  have x3 : w1.heap[w.heap.size + 1 + 1 + 1]? = some (.cells #[.int .i64 0, .int .i64 0, .int .i64 0, .slice none 0 0, .slice none 0 0] 26 (0, 0)) := by
    rw [← hw1]
    have := heap_alloc_new ((wa.alloc (.cells #[.int .i64 m] 3)).alloc (.cells #[.int .i64 from'] 3)) (.cells #[.int .i64 0, .int .i64 0, .int .i64 0, .slice none 0 0, .slice none 0 0] 26)
    simpa [hsa] using this
  obtain ⟨u, hu⟩ : ∃ u, (Tm.mk k n a lv kids).walk (liftT m from') 0 = u := ⟨_, rfl⟩
  rw [hu]
  have HN : Hid (Calls Tryd.prog 24 #[.agg #[.int .i64 0, .func (.func 25) #[] #[.pointer (some ⟨w.heap.size + 1 + 1, 0, none⟩), .pointer (some ⟨w.heap.size + 1, 0, none⟩)]], .agg #[.int .i64 k, .int .i64 n, .int .i64 a, .slice Al p1 c1, .slice Ak p2 c2]] w1 (TermPost w1 u)) := by
    rw [← hu]
    exact term_any w1 w1.heap.size 1073741824 _ _ _ (Nat.le_refl _) (by omega) (hK.below hb1 h0) (fun vs w => enter_lift1 vs w) (turnOk_lift w1 _ _ _ _ m from' (cell_of_one x2) (cell_of_one x1) (heap_some_lt x2) (heap_some_lt x1)) _ hf 0 _ w1 (by omega) (Below.refl _ _) (Nat.le_refl _) (hv.below hb1 hb1.size)
  have y0 := cell_of_row _ _ 0 _ _ (0, 0) x0
  have y1 := cell_of_row _ _ 1 _ _ (0, 0) x0
  have y2 := cell_of_row _ _ 2 _ _ (0, 0) x0
  have y3 := cell_of_row _ _ 3 _ _ (0, 0) x0
  have y4 := cell_of_row _ _ 4 _ _ (0, 0) x0
  have X3 := Lib.hid x3
  have HB1 := Lib.hid hb1
  have HS1 := Lib.hid hs1
  have hmf : ∀ (W : World), (Instr.makeFunc (.func 25) #[] #[.pointer (some ⟨w.heap.size + 1 + 1, 0, none⟩), .pointer (some ⟨w.heap.size + 1, 0, none⟩)]).run Tryd.prog W = .ok (.func (.func 25) #[] #[.pointer (some ⟨w.heap.size + 1 + 1, 0, none⟩), .pointer (some ⟨w.heap.size + 1, 0, none⟩)]) W := fun _ => rfl
  clear hu hK hf hd hv x0 x1 x2 x3 xa hb1 hb1a hba hs1 z1 z2 h0
  go_enter Tryd.func11, Tryd.ntmps11
  go_wp2_with (fail)
  refine HN.out.mono ?_
  rintro e w2 ⟨v, rfl, hown, hb2⟩
  obtain ⟨k2, n2, a2, lv2, kids2⟩ := u
  obtain ⟨vl, vk, m1, m2, xs, ev, w1', ⟨A5, c5, rfl⟩, w2', w3'⟩ := hown.open
  obtain ⟨A6, c6, rfl, _⟩ := w2'.2.1
  obtain ⟨p5, hp5⟩ : ∃ p, lv2.length = p := ⟨_, rfl⟩
  obtain ⟨p6, hp6⟩ : ∃ p, kids2.length = p := ⟨_, rfl⟩
  rw [hp5, hp6] at ev
  subst ev
  have hr2 := (hb2.block (w.heap.size + 1 + 1 + 1) (by have := HS1.out; omega)).trans X3.out
  have e0 := cell_of_row _ _ 0 _ _ (0, 0) hr2
  have e1 := cell_of_row _ _ 1 _ _ (0, 0) hr2
  have e2 := cell_of_row _ _ 2 _ _ (0, 0) hr2
  have e3 := cell_of_row _ _ 3 _ _ (0, 0) hr2
  have e4 := cell_of_row _ _ 4 _ _ (0, 0) hr2
  have t0 := thawed hr2 0
  have t1 := thawed hr2 1
  have t2 := thawed hr2 2
  have t3 := thawed hr2 3
  have t4 := thawed hr2 4
  obtain ⟨g9, s9, cur9, h9, _, hc9⟩ := store5_post hr2 (o := 0) (by simp) (.int .i64 k2) (.int .i64 n2) (.int .i64 a2) (.slice A5 p5 c5) (.slice A6 p6 c6)
  have r0 := row_cell h9 hc9.1
  have r1 := row_cell h9 hc9.2.1
  have r2 := row_cell h9 hc9.2.2.1
  have r3 := row_cell h9 hc9.2.2.2.1
  have r4 := row_cell h9 hc9.2.2.2.2
  have HFIN : Hid (TermPost w (Tm.mk k2 n2 a2 lv2 kids2) (.returned (.agg #[.int .i64 k2, .int .i64 n2, .int .i64 a2, .slice A5 p5 c5, .slice A6 p6 c6])) (store5 w2 (w.heap.size + 1 + 1 + 1) 0 (.int .i64 k2) (.int .i64 n2) (.int .i64 a2) (.slice A5 p5 c5) (.slice A6 p6 c6))) := by
    have hs1 := HS1.out
    have hgs := hb2.size
    refine ⟨_, rfl, ?_, (HB1.out.trans (hb2.mono (by omega))).trans (below_grown g9 (by omega) (by omega))⟩
    rw [s9]
    exact (hown.kept (grown_kept g9 (by omega) (Nat.le_refl _))).wide (by omega) (Nat.le_refl _)
  unfold store5 at HFIN r0 r1 r2 r3 r4
  clear g9 s9 h9 hc9 hown hb2 hr2 w1' w2' w3' hp5 hp6 HN
  go_wp2
  exact bodyPost_ret (v := .agg #[.int .i64 k2, .int .i64 n2, .int .i64 a2, .slice A5 p5 c5, .slice A6 p6 c6]) (by simp [results, Tryd.results11, go_sem, r0, r1, r2, r3, r4]) rfl HFIN.out
/-- Lift answers the term lifted. -/
theorem lift_any (t : Tm) (hf : t.fit) (v : Value) (w : World) (m from' : Int) (hd : t.size ≤ 1073741824) (hK : KindsAt w) (hv : TmAt w w.heap.size t v) :
    Calls Tryd.prog 11 #[v, .int .i64 m, .int .i64 from'] w (TermPost w (t.walk (liftT m from') 0)) := by
  obtain ⟨k, n, a, lv, kids⟩ := t
  have hv' := hv
  obtain ⟨Al, cl, Ak, ck, rfl, _⟩ := hv.open
  exact lift_of k n a lv kids hf w Al Ak _ cl _ ck m from' hd hK hv'
end Go.Proofs.YtafgmndlbbjphaaDoor
