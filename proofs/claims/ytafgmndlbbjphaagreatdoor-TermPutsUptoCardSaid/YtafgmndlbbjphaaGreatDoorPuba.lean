/- Laws. -/
import Derived.Test.YtafgmndlbbjphaaGreatDoorPuis
import Derived.Test.YtafgmndlbbjphaaGreatDoorPuaz
set_option maxRecDepth 100000
namespace Go.Proofs.YtafgmndlbbjphaaGreatDoor
open Go.RowKit Go.Maps
def TmPost (w : World) (t : Tm) (e : Ending) (w' : World) : Prop := ∃ v, e = .returned v ∧ TmAt w' w'.heap.size t v ∧ Below w.heap.size w w'
theorem TermPost.tm {w : World} {t : Tm} {e : Ending} {w' : World} (h : TermPost w t e w') : TmPost w t e w' := by
 obtain ⟨v, h1, h2, h3⟩ := h
 exact ⟨v, h1, h2.tmAt, h3⟩
def vT (n : Int) : Tm := .mk 1 n 0 [] []
def appT (f a : Tm) : Tm := .mk 6 0 0 [] [f, a]
def lamT (a b : Tm) : Tm := .mk 5 0 0 [] [a, b]
theorem levs_nil (w : World) (B : Nat) (A : Option Addr) : Levs w B A [] := fun h => by simp at h
theorem tms_nil (w : World) (B : Nat) : Tms w B none 0 [] := ⟨fun _ => rfl, fun h => by simp at h⟩
theorem Five.of {w : World} {b : Nat} {cur : Array Value} {t : TypeId} {fr : Nat × Nat} (h : w.heap[b]? = some (.cells cur t fr)) {o : Nat} {c0 c1 c2 c3 c4 : Value} (h5 : Cells5 cur o c0 c1 c2 c3 c4) : Five w b o (.agg #[c0, c1, c2, c3, c4]) :=
 ⟨c0, c1, c2, c3, c4, rfl, row_cell h h5.1, row_cell h h5.2.1, row_cell h h5.2.2.1, row_cell h h5.2.2.2.1, row_cell h h5.2.2.2.2⟩
set_option maxHeartbeats 4000000 in
theorem v_any (n : Int) (w : World) : Calls Tryz.prog 23 #[.int .i64 n] w (TmPost w (vT n)) := by
 have HF : Hid (TmPost w (vT n) (.returned (.agg #[.int .i64 1, .int .i64 n, .int .i64 0, .slice none 0 0, .slice none 0 0])) (w.alloc (.cells #[.int .i64 1, .int .i64 n, .int .i64 0, .slice none 0 0, .slice none 0 0] 26))) :=
  ⟨_, rfl, TmAt.make (lv := []) (kids := []) (fun _ => rfl) (levs_nil _ _ _) (tms_nil _ _), (Below.refl _ _).alloc (Nat.le_refl _) _⟩
 go_enter Tryz.func23, Tryz.ntmps23
 go_wp2
 exact bodyPost_ret (v := .agg #[.int .i64 1, .int .i64 n, .int .i64 0, .slice none 0 0, .slice none 0 0]) (by simp [results, Tryz.results23, go_sem]) rfl HF.out
set_option maxHeartbeats 4000000 in
theorem app_of (t u : Tm) (k1 n1 a1 k2 n2 a2 : Int) (A1 A2 A3 A4 : Option Addr) (p1 c1 p2 c2 p3 c3 p4 c4 : Nat) (w : World) (hv : TmAt w w.heap.size t (.agg #[.int .i64 k1, .int .i64 n1, .int .i64 a1, .slice A1 p1 c1, .slice A2 p2 c2])) (hu : TmAt w w.heap.size u (.agg #[.int .i64 k2, .int .i64 n2, .int .i64 a2, .slice A3 p3 c3, .slice A4 p4 c4])) :
  Calls Tryz.prog 24 #[.agg #[.int .i64 k1, .int .i64 n1, .int .i64 a1, .slice A1 p1 c1, .slice A2 p2 c2], .agg #[.int .i64 k2, .int .i64 n2, .int .i64 a2, .slice A3 p3 c3, .slice A4 p4 c4]] w (TmPost w (appT t u)) := by
 obtain ⟨w1, hw1⟩ : ∃ x, ((w.alloc (.cells #[.int .i64 k1, .int .i64 n1, .int .i64 a1, .slice A1 p1 c1, .slice A2 p2 c2] 26)).alloc (.cells #[.int .i64 k2, .int .i64 n2, .int .i64 a2, .slice A3 p3 c3, .slice A4 p4 c4] 26)).alloc (.cells #[.int .i64 0, .int .i64 0, .int .i64 0, .slice none 0 0, .slice none 0 0] 26) = x := ⟨_, rfl⟩
 have hb1 : Below w.heap.size w w1 := by rw [← hw1]; exact (((Below.refl _ _).alloc (Nat.le_refl _) _).alloc (by simp) _).alloc (by simp; omega) _
 have hs1 : w1.heap.size = w.heap.size + 3 := by rw [← hw1]; simp
 obtain ⟨z1, z2, _⟩ := two_allocs w (.cells #[.int .i64 k1, .int .i64 n1, .int .i64 a1, .slice A1 p1 c1, .slice A2 p2 c2] 26) (.cells #[.int .i64 k2, .int .i64 n2, .int .i64 a2, .slice A3 p3 c3, .slice A4 p4 c4] 26)
 have x0 : w1.heap[w.heap.size]? = some (.cells #[.int .i64 k1, .int .i64 n1, .int .i64 a1, .slice A1 p1 c1, .slice A2 p2 c2] 26 (0, 0)) := by rw [← hw1, Below.heap_alloc _ _ _ (by simp; omega)]; exact z1
 have x1 : w1.heap[w.heap.size + 1]? = some (.cells #[.int .i64 k2, .int .i64 n2, .int .i64 a2, .slice A3 p3 c3, .slice A4 p4 c4] 26 (0, 0)) := by rw [← hw1, Below.heap_alloc _ _ _ (by simp)]; exact z2
 have x2 : w1.heap[w.heap.size + 1 + 1]? = some (.cells #[.int .i64 0, .int .i64 0, .int .i64 0, .slice none 0 0, .slice none 0 0] 26 (0, 0)) := by
  rw [← hw1]
  have := heap_alloc_new ((w.alloc (.cells #[.int .i64 k1, .int .i64 n1, .int .i64 a1, .slice A1 p1 c1, .slice A2 p2 c2] 26)).alloc (.cells #[.int .i64 k2, .int .i64 n2, .int .i64 a2, .slice A3 p3 c3, .slice A4 p4 c4] 26)) (.cells #[.int .i64 0, .int .i64 0, .int .i64 0, .slice none 0 0, .slice none 0 0] 26)
  simpa using this
 have y0 := cell_of_row _ _ 0 _ _ (0, 0) x0
 have y1 := cell_of_row _ _ 1 _ _ (0, 0) x0
 have y2 := cell_of_row _ _ 2 _ _ (0, 0) x0
 have y3 := cell_of_row _ _ 3 _ _ (0, 0) x0
 have y4 := cell_of_row _ _ 4 _ _ (0, 0) x0
 have y5 := cell_of_row _ _ 0 _ _ (0, 0) x1
 have y6 := cell_of_row _ _ 1 _ _ (0, 0) x1
 have y7 := cell_of_row _ _ 2 _ _ (0, 0) x1
 have y8 := cell_of_row _ _ 3 _ _ (0, 0) x1
 have y9 := cell_of_row _ _ 4 _ _ (0, 0) x1
 obtain ⟨w2, hw2⟩ : ∃ x, w1.alloc (.cells #[.int .i64 k1, .int .i64 n1, .int .i64 a1, .slice A1 p1 c1, .slice A2 p2 c2, .int .i64 k2, .int .i64 n2, .int .i64 a2, .slice A3 p3 c3, .slice A4 p4 c4] 26) = x := ⟨_, rfl⟩
 have hb2 : Below w1.heap.size w1 w2 := by rw [← hw2]; exact (Below.refl _ _).alloc (Nat.le_refl _) _
 have hs2 : w2.heap.size = w1.heap.size + 1 := by rw [← hw2]; simp
 have xr : w2.heap[w1.heap.size]? = some (.cells #[.int .i64 k1, .int .i64 n1, .int .i64 a1, .slice A1 p1 c1, .slice A2 p2 c2, .int .i64 k2, .int .i64 n2, .int .i64 a2, .slice A3 p3 c3, .slice A4 p4 c4] 26 (0, 0)) := by rw [← hw2]; exact heap_alloc_new w1 _
 have hr2 := (hb2.block (w.heap.size + 1 + 1) (by omega)).trans x2
 have e0 := cell_of_row _ _ 0 _ _ (0, 0) hr2
 have e1 := cell_of_row _ _ 1 _ _ (0, 0) hr2
 have e2 := cell_of_row _ _ 2 _ _ (0, 0) hr2
 have e3 := cell_of_row _ _ 3 _ _ (0, 0) hr2
 have e4 := cell_of_row _ _ 4 _ _ (0, 0) hr2
 have t0 := thawed hr2 0
 have t1 := thawed hr2 1
 have t2 := thawed hr2 2
 have t3 := thawed hr2 3
 have t4 := thawed hr2 4
 obtain ⟨g9, s9, cur9, h9, _, hc9⟩ := store5_post hr2 (o := 0) (by simp) (.int .i64 6) (.int .i64 0) (.int .i64 0) (.slice none 0 0) (.slice (some ⟨w1.heap.size, 0, none⟩) 2 2)
 have r0 := row_cell h9 hc9.1
 have r1 := row_cell h9 hc9.2.1
 have r2 := row_cell h9 hc9.2.2.1
 have r3 := row_cell h9 hc9.2.2.2.1
 have r4 := row_cell h9 hc9.2.2.2.2
 have HFIN : Hid (TmPost w (appT t u) (.returned (.agg #[.int .i64 6, .int .i64 0, .int .i64 0, .slice none 0 0, .slice (some ⟨w1.heap.size, 0, none⟩) 2 2])) (store5 w2 (w.heap.size + 1 + 1) 0 (.int .i64 6) (.int .i64 0) (.int .i64 0) (.slice none 0 0) (.slice (some ⟨w1.heap.size, 0, none⟩) 2 2))) := by
  have hgs := g9.size
  have hbf : Below w.heap.size w (store5 w2 (w.heap.size + 1 + 1) 0 (.int .i64 6) (.int .i64 0) (.int .i64 0) (.slice none 0 0) (.slice (some ⟨w1.heap.size, 0, none⟩) 2 2)) := (hb1.trans (hb2.mono (by omega))).trans (below_grownT g9 (by omega) (by omega))
  have hxf := (g9.block w1.heap.size (by omega) (fun e => by have := Option.some.inj e; omega)).trans xr
  refine ⟨_, rfl, TmAt.make (lv := []) (kids := [t, u]) (fun _ => rfl) (levs_nil _ _ _) ⟨(fun h => by cases h), fun _ => ⟨w1.heap.size, 0, rfl, by omega, ?_⟩⟩, hbf⟩
  unfold TmsAt
  refine ⟨⟨_, Five.of hxf (o := 0) ⟨rfl, rfl, rfl, rfl, rfl⟩, hv.below hbf hbf.size⟩, ?_⟩
  unfold TmsAt
  refine ⟨⟨_, Five.of hxf (o := 0 + 5) ⟨rfl, rfl, rfl, rfl, rfl⟩, hu.below hbf hbf.size⟩, ?_⟩
  unfold TmsAt
  trivial
 unfold store5 at HFIN r0 r1 r2 r3 r4
 clear g9 s9 h9 hc9 hb1 hb2 hr2 x0 x1 x2 xr hs1 hs2 z1 z2 hv hu
 go_enter Tryz.func24, Tryz.ntmps24
 go_wp2
 exact bodyPost_ret (v := .agg #[.int .i64 6, .int .i64 0, .int .i64 0, .slice none 0 0, .slice (some ⟨w1.heap.size, 0, none⟩) 2 2]) (by simp [results, Tryz.results24, go_sem, r0, r1, r2, r3, r4]) rfl HFIN.out
theorem app_any (t u : Tm) (v1 v2 : Value) (w : World) (hv : TmAt w w.heap.size t v1) (hu : TmAt w w.heap.size u v2) : Calls Tryz.prog 24 #[v1, v2] w (TmPost w (appT t u)) := by
 have hv' := hv
 have hu' := hu
 obtain ⟨k, n, a, lv, kids⟩ := t
 obtain ⟨k', n', a', lv', kids'⟩ := u
 obtain ⟨Al, cl, Ak, ck, rfl, _⟩ := hv.open
 obtain ⟨Al', cl', Ak', ck', rfl, _⟩ := hu.open
 exact app_of _ _ k n a k' n' a' Al Ak Al' Ak' _ cl _ ck _ cl' _ ck' w hv' hu'
set_option maxHeartbeats 4000000 in
theorem lam_of (t u : Tm) (k1 n1 a1 k2 n2 a2 : Int) (A1 A2 A3 A4 : Option Addr) (p1 c1 p2 c2 p3 c3 p4 c4 : Nat) (w : World) (hv : TmAt w w.heap.size t (.agg #[.int .i64 k1, .int .i64 n1, .int .i64 a1, .slice A1 p1 c1, .slice A2 p2 c2])) (hu : TmAt w w.heap.size u (.agg #[.int .i64 k2, .int .i64 n2, .int .i64 a2, .slice A3 p3 c3, .slice A4 p4 c4])) :
  Calls Tryz.prog 22 #[.agg #[.int .i64 k1, .int .i64 n1, .int .i64 a1, .slice A1 p1 c1, .slice A2 p2 c2], .agg #[.int .i64 k2, .int .i64 n2, .int .i64 a2, .slice A3 p3 c3, .slice A4 p4 c4]] w (TmPost w (lamT t u)) := by
 obtain ⟨w1, hw1⟩ : ∃ x, ((w.alloc (.cells #[.int .i64 k1, .int .i64 n1, .int .i64 a1, .slice A1 p1 c1, .slice A2 p2 c2] 26)).alloc (.cells #[.int .i64 k2, .int .i64 n2, .int .i64 a2, .slice A3 p3 c3, .slice A4 p4 c4] 26)).alloc (.cells #[.int .i64 0, .int .i64 0, .int .i64 0, .slice none 0 0, .slice none 0 0] 26) = x := ⟨_, rfl⟩
 have hb1 : Below w.heap.size w w1 := by rw [← hw1]; exact (((Below.refl _ _).alloc (Nat.le_refl _) _).alloc (by simp) _).alloc (by simp; omega) _
 have hs1 : w1.heap.size = w.heap.size + 3 := by rw [← hw1]; simp
 obtain ⟨z1, z2, _⟩ := two_allocs w (.cells #[.int .i64 k1, .int .i64 n1, .int .i64 a1, .slice A1 p1 c1, .slice A2 p2 c2] 26) (.cells #[.int .i64 k2, .int .i64 n2, .int .i64 a2, .slice A3 p3 c3, .slice A4 p4 c4] 26)
 have x0 : w1.heap[w.heap.size]? = some (.cells #[.int .i64 k1, .int .i64 n1, .int .i64 a1, .slice A1 p1 c1, .slice A2 p2 c2] 26 (0, 0)) := by rw [← hw1, Below.heap_alloc _ _ _ (by simp; omega)]; exact z1
 have x1 : w1.heap[w.heap.size + 1]? = some (.cells #[.int .i64 k2, .int .i64 n2, .int .i64 a2, .slice A3 p3 c3, .slice A4 p4 c4] 26 (0, 0)) := by rw [← hw1, Below.heap_alloc _ _ _ (by simp)]; exact z2
 have x2 : w1.heap[w.heap.size + 1 + 1]? = some (.cells #[.int .i64 0, .int .i64 0, .int .i64 0, .slice none 0 0, .slice none 0 0] 26 (0, 0)) := by
  rw [← hw1]
  have := heap_alloc_new ((w.alloc (.cells #[.int .i64 k1, .int .i64 n1, .int .i64 a1, .slice A1 p1 c1, .slice A2 p2 c2] 26)).alloc (.cells #[.int .i64 k2, .int .i64 n2, .int .i64 a2, .slice A3 p3 c3, .slice A4 p4 c4] 26)) (.cells #[.int .i64 0, .int .i64 0, .int .i64 0, .slice none 0 0, .slice none 0 0] 26)
  simpa using this
 have y0 := cell_of_row _ _ 0 _ _ (0, 0) x0
 have y1 := cell_of_row _ _ 1 _ _ (0, 0) x0
 have y2 := cell_of_row _ _ 2 _ _ (0, 0) x0
 have y3 := cell_of_row _ _ 3 _ _ (0, 0) x0
 have y4 := cell_of_row _ _ 4 _ _ (0, 0) x0
 have y5 := cell_of_row _ _ 0 _ _ (0, 0) x1
 have y6 := cell_of_row _ _ 1 _ _ (0, 0) x1
 have y7 := cell_of_row _ _ 2 _ _ (0, 0) x1
 have y8 := cell_of_row _ _ 3 _ _ (0, 0) x1
 have y9 := cell_of_row _ _ 4 _ _ (0, 0) x1
 obtain ⟨w2, hw2⟩ : ∃ x, w1.alloc (.cells #[.int .i64 k1, .int .i64 n1, .int .i64 a1, .slice A1 p1 c1, .slice A2 p2 c2, .int .i64 k2, .int .i64 n2, .int .i64 a2, .slice A3 p3 c3, .slice A4 p4 c4] 26) = x := ⟨_, rfl⟩
 have hb2 : Below w1.heap.size w1 w2 := by rw [← hw2]; exact (Below.refl _ _).alloc (Nat.le_refl _) _
 have hs2 : w2.heap.size = w1.heap.size + 1 := by rw [← hw2]; simp
 have xr : w2.heap[w1.heap.size]? = some (.cells #[.int .i64 k1, .int .i64 n1, .int .i64 a1, .slice A1 p1 c1, .slice A2 p2 c2, .int .i64 k2, .int .i64 n2, .int .i64 a2, .slice A3 p3 c3, .slice A4 p4 c4] 26 (0, 0)) := by rw [← hw2]; exact heap_alloc_new w1 _
 have hr2 := (hb2.block (w.heap.size + 1 + 1) (by omega)).trans x2
 have e0 := cell_of_row _ _ 0 _ _ (0, 0) hr2
 have e1 := cell_of_row _ _ 1 _ _ (0, 0) hr2
 have e2 := cell_of_row _ _ 2 _ _ (0, 0) hr2
 have e3 := cell_of_row _ _ 3 _ _ (0, 0) hr2
 have e4 := cell_of_row _ _ 4 _ _ (0, 0) hr2
 have t0 := thawed hr2 0
 have t1 := thawed hr2 1
 have t2 := thawed hr2 2
 have t3 := thawed hr2 3
 have t4 := thawed hr2 4
 obtain ⟨g9, s9, cur9, h9, _, hc9⟩ := store5_post hr2 (o := 0) (by simp) (.int .i64 5) (.int .i64 0) (.int .i64 0) (.slice none 0 0) (.slice (some ⟨w1.heap.size, 0, none⟩) 2 2)
 have r0 := row_cell h9 hc9.1
 have r1 := row_cell h9 hc9.2.1
 have r2 := row_cell h9 hc9.2.2.1
 have r3 := row_cell h9 hc9.2.2.2.1
 have r4 := row_cell h9 hc9.2.2.2.2
 have HFIN : Hid (TmPost w (lamT t u) (.returned (.agg #[.int .i64 5, .int .i64 0, .int .i64 0, .slice none 0 0, .slice (some ⟨w1.heap.size, 0, none⟩) 2 2])) (store5 w2 (w.heap.size + 1 + 1) 0 (.int .i64 5) (.int .i64 0) (.int .i64 0) (.slice none 0 0) (.slice (some ⟨w1.heap.size, 0, none⟩) 2 2))) := by
  have hgs := g9.size
  have hbf : Below w.heap.size w (store5 w2 (w.heap.size + 1 + 1) 0 (.int .i64 5) (.int .i64 0) (.int .i64 0) (.slice none 0 0) (.slice (some ⟨w1.heap.size, 0, none⟩) 2 2)) := (hb1.trans (hb2.mono (by omega))).trans (below_grownT g9 (by omega) (by omega))
  have hxf := (g9.block w1.heap.size (by omega) (fun e => by have := Option.some.inj e; omega)).trans xr
  refine ⟨_, rfl, TmAt.make (lv := []) (kids := [t, u]) (fun _ => rfl) (levs_nil _ _ _) ⟨(fun h => by cases h), fun _ => ⟨w1.heap.size, 0, rfl, by omega, ?_⟩⟩, hbf⟩
  unfold TmsAt
  refine ⟨⟨_, Five.of hxf (o := 0) ⟨rfl, rfl, rfl, rfl, rfl⟩, hv.below hbf hbf.size⟩, ?_⟩
  unfold TmsAt
  refine ⟨⟨_, Five.of hxf (o := 0 + 5) ⟨rfl, rfl, rfl, rfl, rfl⟩, hu.below hbf hbf.size⟩, ?_⟩
  unfold TmsAt
  trivial
 unfold store5 at HFIN r0 r1 r2 r3 r4
 clear g9 s9 h9 hc9 hb1 hb2 hr2 x0 x1 x2 xr hs1 hs2 z1 z2 hv hu
 go_enter Tryz.func22, Tryz.ntmps22
 go_wp2
 exact bodyPost_ret (v := .agg #[.int .i64 5, .int .i64 0, .int .i64 0, .slice none 0 0, .slice (some ⟨w1.heap.size, 0, none⟩) 2 2]) (by simp [results, Tryz.results22, go_sem, r0, r1, r2, r3, r4]) rfl HFIN.out
theorem lam_any (t u : Tm) (v1 v2 : Value) (w : World) (hv : TmAt w w.heap.size t v1) (hu : TmAt w w.heap.size u v2) : Calls Tryz.prog 22 #[v1, v2] w (TmPost w (lamT t u)) := by
 have hv' := hv
 have hu' := hu
 obtain ⟨k, n, a, lv, kids⟩ := t
 obtain ⟨k', n', a', lv', kids'⟩ := u
 obtain ⟨Al, cl, Ak, ck, rfl, _⟩ := hv.open
 obtain ⟨Al', cl', Ak', ck', rfl, _⟩ := hu.open
 exact lam_of _ _ k n a k' n' a' Al Ak Al' Ak' _ cl _ ck _ cl' _ ck' w hv' hu'
theorem fit_v (n : Int) (h : Rng n) : (vT n).fit := (Tm.fit_mk ..).2 ⟨h, ⟨by simp, by simp⟩, by simp, by rw [Tm.fitL]; trivial⟩
theorem fit_two {k : Int} {t u : Tm} (h : t.fit) (h' : u.fit) : (Tm.mk k 0 0 [] [t, u]).fit := (Tm.fit_mk ..).2 ⟨by unfold Rng; omega, ⟨by simp, by simp⟩, by simp, by rw [Tm.fitL, Tm.fitL, Tm.fitL]; exact ⟨h, h', trivial⟩⟩
def aT : Tm := .mk 22 3 0 [] []
def belowT : Tm := lamT (vT 7) (appT (vT 0) (vT 8))
theorem fit_a : aT.fit := (Tm.fit_mk ..).2 ⟨by unfold Rng; omega, ⟨by simp, by simp⟩, by simp, by rw [Tm.fitL]; trivial⟩
theorem fit_below : belowT.fit := fit_two (fit_v _ (by unfold Rng; omega)) (fit_two (fit_v _ (by unfold Rng; omega)) (fit_v _ (by unfold Rng; omega)))
theorem awake_put1 : (appT (vT 0) (vT 1)).walk (putT [aT]) 0 = appT aT (vT 0) := by rfl
theorem awake_put2 : (lamT (vT 0) (appT (vT 0) (vT 1))).walk (putT [vT 7]) 0 = belowT := by rfl
theorem awake_right : belowT.right = true := by decide
theorem awake_wrong : (Tm.mk 6 0 0 [] []).right = false := by decide
theorem TmAt.cells {w : World} {B : Nat} {t : Tm} {v : Value} (h : TmAt w B t v) : ∃ c0 c1 c2 c3 c4, v = .agg #[c0, c1, c2, c3, c4] := by
 obtain ⟨k, n, a, lv, kids⟩ := t
 obtain ⟨Al, cl, Ak, ck, rfl, _⟩ := h.open
 exact ⟨_, _, _, _, _, rfl⟩
theorem slice_tm {t : Tm} {v : Value} {w : World} (h : TmAt w w.heap.size t v) : (Instr.buildSlice 24 1 [(0, v)].toArray).run Tryz.prog w = .ok (.slice (some ⟨w.heap.size, 0, none⟩) 1 1) (w.alloc (.cells v.cells 26)) := by
 obtain ⟨k, n, a, lv, kids⟩ := t
 obtain ⟨Al, cl, Ak, ck, rfl, _⟩ := h.open
 go_simp
def TmsV (ts : List Tm) (x : Value) (w : World) : Prop := ∃ A c, x = .slice A ts.length c ∧ Tms w w.heap.size A c ts
theorem TmsV.mono {ts : List Tm} {x : Value} {w w' : World} (h : TmsV ts x w) (hR : Below w.heap.size w w') : TmsV ts x w' := by
 obtain ⟨A, c, h1, h2⟩ := h
 exact ⟨A, c, h1, h2.below hR hR.size⟩
theorem tmsV_one {t : Tm} {v : Value} {w : World} (h : TmAt w w.heap.size t v) : TmsV [t] (.slice (some ⟨w.heap.size, 0, none⟩) 1 1) (w.alloc (.cells v.cells 26)) := by
 have hb : Below w.heap.size w (w.alloc (.cells v.cells 26)) := (Below.refl _ _).alloc (Nat.le_refl _) _
 have hx := heap_alloc_new w (.cells v.cells 26)
 obtain ⟨c0, c1, c2, c3, c4, rfl⟩ := h.cells
 refine ⟨_, _, rfl, (fun h => by cases h), fun _ => ⟨w.heap.size, 0, rfl, by simp, ?_⟩⟩
 unfold TmsAt
 refine ⟨⟨_, Five.of hx (o := 0) ⟨rfl, rfl, rfl, rfl, rfl⟩, h.below hb hb.size⟩, ?_⟩
 unfold TmsAt
 trivial
theorem enter_vTm (vs : Array Value) (w : World) : (callFunc 23 vs).run Tryz.prog w = .ok (.enter 23 vs) w := by go_simp
theorem enter_appTm (vs : Array Value) (w : World) : (callFunc 24 vs).run Tryz.prog w = .ok (.enter 24 vs) w := by go_simp
theorem enter_lamTm (vs : Array Value) (w : World) : (callFunc 22 vs).run Tryz.prog w = .ok (.enter 22 vs) w := by go_simp
theorem enter_sameTm2 (vs : Array Value) (w : World) : (callFunc 14 vs).run Tryz.prog w = .ok (.enter 14 vs) w := by go_simp
theorem enter_putTm (vs : Array Value) (w : World) : (callFunc 12 vs).run Tryz.prog w = .ok (.enter 12 vs) w := by go_simp
theorem enter_rightTm (vs : Array Value) (w : World) : (callFunc 25 vs).run Tryz.prog w = .ok (.enter 25 vs) w := by go_simp
theorem enter_sizeTm (vs : Array Value) (w : World) : (callFunc 26 vs).run Tryz.prog w = .ok (.enter 26 vs) w := by go_simp
theorem build_bare (k : Int) (w : World) : (Instr.build 26 [(0, Value.int .i64 k)].toArray).run Tryz.prog w = .ok (.agg #[.int .i64 k, .int .i64 0, .int .i64 0, .slice none 0 0, .slice none 0 0]) w := by go_simp
theorem put_tm (t : Tm) (by' : List Tm) (v x : Value) (w : World) (hf : t.fit) (hd : t.size ≤ 1073741824) (hK : KindsAll w) (hv : TmAt w w.heap.size t v) (hn : by'.length ≤ 1048576) (hx : TmsV by' x w) (hfit : ∀ b ∈ by', b.fit ∧ b.size ≤ 1073741824) :
  Calls Tryz.prog 12 #[v, x] w (TmPost w (t.walk (putT by') 0)) := by
 obtain ⟨A, c, rfl, h⟩ := hx
 exact (putTm_any t by' hf v A _ c w hd hK.binds hv rfl hn h hfit).mono fun e w' h => TermPost.tm h
set_option maxHeartbeats 8000000 in
theorem awake_any (w : World) (hK : KindsAll w) : Calls Tryz.prog 8 #[] w (HasPost w true) := by
 have h0 : 0 < w.heap.size := cell_lt (hK 0 (by decide)).1
 obtain ⟨wa, hwa⟩ : ∃ x, w.alloc (.cells #[.int .i64 22, .int .i64 3, .int .i64 0, .slice none 0 0, .slice none 0 0] 26) = x := ⟨_, rfl⟩
 have hba : Below w.heap.size w wa := by rw [← hwa]; exact (Below.refl _ _).alloc (Nat.le_refl _) _
 have hsa : wa.heap.size = w.heap.size + 1 := by rw [← hwa]; simp
 have xa : wa.heap[w.heap.size]? = some (.cells #[.int .i64 22, .int .i64 3, .int .i64 0, .slice none 0 0, .slice none 0 0] 26 (0, 0)) := by rw [← hwa]; exact heap_alloc_new w _
 have XA := Lib.hid xa
 have HWA := Lib.hid hwa
 have HBA := Lib.hid hba
 have HSA := Lib.hid hsa
 have HK := Lib.hid hK
 have H0 := Lib.hid h0
 clear xa hba hsa hK h0 hwa
 go_enter Tryz.func8, Tryz.ntmps8
 go_upto_region 2 with (fail)
 rw [HWA.out]
 go_wp2_with (fail)
 refine (v_any 0 wa).mono ?_
 rintro e w4 ⟨v4, rfl, h4, hb4⟩
 have H4 := Lib.hid h4
 have HB4 := Lib.hid hb4
 clear h4 hb4
 go_wp2_with (fail)
 refine (v_any 0 w4).mono ?_
 rintro e w5 ⟨v5, rfl, h5, hb5⟩
 have H5 := Lib.hid h5
 have HB5 := Lib.hid hb5
 clear h5 hb5
 go_wp2_with (fail)
 refine (v_any 1 w5).mono ?_
 rintro e w6 ⟨v6, rfl, h6, hb6⟩
 have H6 := Lib.hid h6
 have HB6 := Lib.hid hb6
 clear h6 hb6
 go_wp2_with (fail)
 refine (app_any _ _ v5 v6 w6 (H5.out.below HB6.out HB6.out.size) H6.out).mono ?_
 rintro e w7 ⟨v7, rfl, h7, hb7⟩
 have H7 := Lib.hid h7
 have HB7 : Hid (Below w4.heap.size w4 w7) := HB5.out.trans ((HB6.out.trans (hb7.mono HB6.out.size)).mono HB5.out.size)
 clear h7 hb7
 go_wp2_with (fail)
 refine (lam_any _ _ v4 v7 w7 (H4.out.below HB7.out HB7.out.size) H7.out).mono ?_
 rintro e w8 ⟨v8, rfl, h8, hb8⟩
 have H8 := Lib.hid h8
 have HB8 : Hid (Below wa.heap.size wa w8) := HB4.out.trans ((HB7.out.trans (hb8.mono HB7.out.size)).mono HB4.out.size)
 clear h8 hb8 HB4 HB5 HB6 HB7 H4 H5 H6 H7
 go_wp2_with (fail)
 refine (v_any 7 w8).mono ?_
 rintro e w9 ⟨v9, rfl, h9, hb9⟩
 have h8 := H8.out.below hb9 hb9.size
 have HB9 : Hid (Below wa.heap.size wa w9) := HB8.out.trans (hb9.mono HB8.out.size)
 obtain ⟨A1, c1, A2, c2, ev, _⟩ := h9.open
 have ev : v9 = .agg #[.int .i64 1, .int .i64 7, .int .i64 0, .slice A1 0 c1, .slice A2 0 c2] := ev
 subst ev
 have hba9 : Below w9.heap.size w9 (w9.alloc (.cells #[.int .i64 1, .int .i64 7, .int .i64 0, .slice A1 0 c1, .slice A2 0 c2] 26)) := (Below.refl _ _).alloc (Nat.le_refl _) _
 have HB10 : Hid (Below wa.heap.size wa (w9.alloc (.cells #[.int .i64 1, .int .i64 7, .int .i64 0, .slice A1 0 c1, .slice A2 0 c2] 26))) := HB9.out.trans (hba9.mono HB9.out.size)
 have HP : Hid (Calls Tryz.prog 12 #[v8, .slice (some ⟨w9.heap.size, 0, none⟩) 1 1] (w9.alloc (.cells #[.int .i64 1, .int .i64 7, .int .i64 0, .slice A1 0 c1, .slice A2 0 c2] 26)) (TmPost (w9.alloc (.cells #[.int .i64 1, .int .i64 7, .int .i64 0, .slice A1 0 c1, .slice A2 0 c2] 26)) belowT)) := by
  rw [← awake_put2]
  refine put_tm _ [vT 7] v8 _ _ (fit_two (fit_v _ (by unfold Rng; omega)) (fit_two (fit_v _ (by unfold Rng; omega)) (fit_v _ (by unfold Rng; omega)))) (by decide) ((HK.out.below HBA.out H0.out).below HB10.out (by have := HSA.out; omega)) (h8.below hba9 hba9.size) (by decide) (tmsV_one h9) ?_
  intro b hb
  obtain rfl : b = vT 7 := by simpa using hb
  exact ⟨fit_v _ (by unfold Rng; omega), by decide⟩
 clear h9 hb9 h8 hba9 H8 HB8 HB9
 go_wp2_with (fail)
 refine HP.out.mono ?_
 rintro e w11 ⟨v11, rfl, h11, hb11⟩
 have HB11 : Hid (Below wa.heap.size wa w11) := HB10.out.trans (hb11.mono HB10.out.size)
 obtain ⟨A5, c5, A6, c6, ev, _⟩ := h11.open
 have ev : v11 = .agg #[.int .i64 5, .int .i64 0, .int .i64 0, .slice A5 0 c5, .slice A6 2 c6] := ev
 subst ev
 obtain ⟨wb, hwb⟩ : ∃ x, w11.alloc (.cells #[.int .i64 5, .int .i64 0, .int .i64 0, .slice A5 0 c5, .slice A6 2 c6] 26) = x := ⟨_, rfl⟩
 have hbb : Below w11.heap.size w11 wb := by rw [← hwb]; exact (Below.refl _ _).alloc (Nat.le_refl _) _
 have xb : wb.heap[w11.heap.size]? = some (.cells #[.int .i64 5, .int .i64 0, .int .i64 0, .slice A5 0 c5, .slice A6 2 c6] 26 (0, 0)) := by rw [← hwb]; exact heap_alloc_new w11 _
 have HBB : Hid (Below wa.heap.size wa wb) := HB11.out.trans (hbb.mono HB11.out.size)
 have xa := (HBB.out.block w.heap.size (by have := HSA.out; omega)).trans XA.out
 have HB0 : Hid (TmAt wb wb.heap.size belowT (.agg #[.int .i64 5, .int .i64 0, .int .i64 0, .slice A5 0 c5, .slice A6 2 c6])) := h11.below hbb hbb.size
 have a0 := cell_of_row _ _ 0 _ _ (0, 0) xa
 have a1 := cell_of_row _ _ 1 _ _ (0, 0) xa
 have a2 := cell_of_row _ _ 2 _ _ (0, 0) xa
 have a3 := cell_of_row _ _ 3 _ _ (0, 0) xa
 have a4 := cell_of_row _ _ 4 _ _ (0, 0) xa
 have b0 := cell_of_row _ _ 0 _ _ (0, 0) xb
 have b1 := cell_of_row _ _ 1 _ _ (0, 0) xb
 have b2 := cell_of_row _ _ 2 _ _ (0, 0) xb
 have b3 := cell_of_row _ _ 3 _ _ (0, 0) xb
 have b4 := cell_of_row _ _ 4 _ _ (0, 0) xb
 have la := heap_some_lt xa
 have lb := heap_some_lt xb
 have HKB : Hid (∀ w', Below wb.heap.size wb w' → KindsAll w') := fun w' hx => (HK.out.below HBA.out H0.out).below (HBB.out.trans (hx.mono HBB.out.size)) (by have := HSA.out; omega)
 have HEND : Hid (∀ w', Below wb.heap.size wb w' → Below w.heap.size w w') := fun w' hx => HBA.out.trans ((HBB.out.trans (hx.mono HBB.out.size)).mono HBA.out.size)
 have HWB := Lib.hid hwb
 clear hb11 h11 hbb xa xb HP HB10 HB11 HBB HK HBA XA HWA HSA H0 hwb
 go_upto_region 3 with (fail)
 rw [HWB.out]
 have hS : Below wb.heap.size wb wb.drew := (Below.refl _ _).drew
 refine wp_region_tab (fun w' => Below wb.heap.size wb w') BR [(fun (x : Value) (w : World) => TmAt w w.heap.size (vT 0) x), (fun (x : Value) (w : World) => TmAt w w.heap.size (vT 1) x), (fun (x : Value) (w : World) => TmAt w w.heap.size (appT (vT 0) (vT 1)) x), (Is (.agg #[.int .i64 22, .int .i64 3, .int .i64 0, .slice none 0 0, .slice none 0 0])), (fun (x : Value) (w : World) => TmsV [aT] x w), (fun (x : Value) (w : World) => TmAt w w.heap.size (appT aT (vT 0)) x), (Is (.agg #[.int .i64 22, .int .i64 3, .int .i64 0, .slice none 0 0, .slice none 0 0])), (fun (x : Value) (w : World) => TmAt w w.heap.size (vT 0) x), (fun (x : Value) (w : World) => TmAt w w.heap.size (appT aT (vT 0)) x), (Is (.bool true)), (Is (.bool true)), (Is (.agg #[.int .i64 5, .int .i64 0, .int .i64 0, .slice A5 0 c5, .slice A6 2 c6])), (fun (x : Value) (w : World) => TmAt w w.heap.size (vT 7) x), (fun (x : Value) (w : World) => TmAt w w.heap.size (vT 0) x), (fun (x : Value) (w : World) => TmAt w w.heap.size (vT 8) x), (fun (x : Value) (w : World) => TmAt w w.heap.size (appT (vT 0) (vT 8)) x), (fun (x : Value) (w : World) => TmAt w w.heap.size belowT x), (Is (.bool true)), (Is (.bool true)), (Is (.bool true)), (Is (.agg #[.int .i64 5, .int .i64 0, .int .i64 0, .slice A5 0 c5, .slice A6 2 c6])), (Is (.bool true)), (Is (.bool true)), (Is (.bool true)), (Is (.agg #[.int .i64 6, .int .i64 0, .int .i64 0, .slice none 0 0, .slice none 0 0])), (Is (.bool false)), (Is (.bool true)), (Is (.bool true)), (Is (.bool true)), (Is (.agg #[.int .i64 5, .int .i64 0, .int .i64 0, .slice A5 0 c5, .slice A6 2 c6])), (Is (.int .i64 5)), (Is (.bool true)), (Is (.bool true)), (Is (.bool true))] [⟨some 12, .call { callee := .value (.func 23), args := #[.const (.int .i64 0)], argTypes := #[3] }, none, []⟩, ⟨some 13, .call { callee := .value (.func 23), args := #[.const (.int .i64 1)], argTypes := #[3] }, none, []⟩, ⟨some 14, .call { callee := .value (.func 24), args := #[.tmp 12, .tmp 13], argTypes := #[26, 26] }, none, [(12, 0), (13, 1)]⟩, ⟨some 15, .load 26 (.tmp 1), none, []⟩, ⟨some 16, .buildSlice 24 1 #[(0, .tmp 15)], none, [(15, 3)]⟩, ⟨some 17, .call { callee := .value (.func 12), args := #[.tmp 14, .tmp 16], argTypes := #[26, 24] }, none, [(14, 2), (16, 4)]⟩, ⟨some 18, .load 26 (.tmp 1), none, []⟩, ⟨some 19, .call { callee := .value (.func 23), args := #[.const (.int .i64 0)], argTypes := #[3] }, none, []⟩, ⟨some 20, .call { callee := .value (.func 24), args := #[.tmp 18, .tmp 19], argTypes := #[26, 26] }, none, [(18, 6), (19, 7)]⟩, ⟨some 21, .call { callee := .value (.func 14), args := #[.tmp 17, .tmp 20], argTypes := #[26, 26] }, none, [(17, 5), (20, 8)]⟩, ⟨some 22, .move (.tmp 21), none, [(21, 9)]⟩, ⟨some 23, .load 26 (.tmp 2), some (some 22, true), [(22, 10)]⟩, ⟨some 24, .call { callee := .value (.func 23), args := #[.const (.int .i64 7)], argTypes := #[3] }, some (some 22, true), [(22, 10)]⟩, ⟨some 25, .call { callee := .value (.func 23), args := #[.const (.int .i64 0)], argTypes := #[3] }, some (some 22, true), [(22, 10)]⟩, ⟨some 26, .call { callee := .value (.func 23), args := #[.const (.int .i64 8)], argTypes := #[3] }, some (some 22, true), [(22, 10)]⟩, ⟨some 27, .call { callee := .value (.func 24), args := #[.tmp 25, .tmp 26], argTypes := #[26, 26] }, some (some 22, true), [(22, 10), (25, 13), (26, 14)]⟩, ⟨some 28, .call { callee := .value (.func 22), args := #[.tmp 24, .tmp 27], argTypes := #[26, 26] }, some (some 22, true), [(22, 10), (24, 12), (27, 15)]⟩, ⟨some 29, .call { callee := .value (.func 14), args := #[.tmp 23, .tmp 28], argTypes := #[26, 26] }, some (some 22, true), [(22, 10), (23, 11), (28, 16)]⟩, ⟨some 30, .pick (.tmp 22) (.tmp 29) (.const (Value.bool false)), none, [(22, 10), (29, 17)]⟩, ⟨some 31, .move (.tmp 30), none, [(30, 18)]⟩, ⟨some 32, .load 26 (.tmp 2), some (some 31, true), [(31, 19)]⟩, ⟨some 33, .call { callee := .value (.func 25), args := #[.tmp 32], argTypes := #[26] }, some (some 31, true), [(31, 19), (32, 20)]⟩, ⟨some 34, .pick (.tmp 31) (.tmp 33) (.const (Value.bool false)), none, [(31, 19), (33, 21)]⟩, ⟨some 35, .move (.tmp 34), none, [(34, 22)]⟩, ⟨some 36, .build 26 #[(0, .const (.int .i64 6))], some (some 35, true), [(35, 23)]⟩, ⟨some 37, .call { callee := .value (.func 25), args := #[.tmp 36], argTypes := #[26] }, some (some 35, true), [(35, 23), (36, 24)]⟩, ⟨some 38, .unOp .not 4 (.tmp 37), some (some 35, true), [(35, 23), (37, 25)]⟩, ⟨some 39, .pick (.tmp 35) (.tmp 38) (.const (Value.bool false)), none, [(35, 23), (38, 26)]⟩, ⟨some 40, .move (.tmp 39), none, [(39, 27)]⟩, ⟨some 41, .load 26 (.tmp 2), some (some 40, true), [(40, 28)]⟩, ⟨some 42, .call { callee := .value (.func 26), args := #[.tmp 41], argTypes := #[26] }, some (some 40, true), [(40, 28), (41, 29)]⟩, ⟨some 43, .binOp .eql 3 (.tmp 42) (.const (.int .i64 5)) 3, some (some 40, true), [(40, 28), (42, 30)]⟩, ⟨some 44, .pick (.tmp 40) (.tmp 43) (.const (Value.bool false)), none, [(40, 28), (43, 31)]⟩, ⟨some 0, .assign (.tmp 44), none, [(44, 32)]⟩] [some 12, some 13, some 14, some 15, some 16, some 17, some 18, some 19, some 20, some 21, some 22, some 23, some 24, some 25, some 26, some 27, some 28, some 29, some 30, some 31, some 32, some 33, some 34, some 35, some 36, some 37, some 38, some 39, some 40, some 41, some 42, some 43, some 44, some 0] (by kernel_rfl) (by kernel_rfl) (by kernel_rfl) (by kernel_rfl) (by kernel_rfl) ?hS ?hmono ?hsteps ?hfin
 case hS => exact hS
 case hmono =>
  refine .cons (fun x w1 w2 _ _ hR hx => ?_) ?_
  ·exact hx.below hR hR.size
  refine .cons (fun x w1 w2 _ _ hR hx => ?_) ?_
  ·exact hx.below hR hR.size
  refine .cons (fun x w1 w2 _ _ hR hx => ?_) ?_
  ·exact hx.below hR hR.size
  refine .cons (fun x w1 w2 _ _ _ hx => hx) ?_
  refine .cons (fun x w1 w2 _ _ hR hx => ?_) ?_
  ·exact hx.mono hR
  refine .cons (fun x w1 w2 _ _ hR hx => ?_) ?_
  ·exact hx.below hR hR.size
  refine .cons (fun x w1 w2 _ _ _ hx => hx) ?_
  refine .cons (fun x w1 w2 _ _ hR hx => ?_) ?_
  ·exact hx.below hR hR.size
  refine .cons (fun x w1 w2 _ _ hR hx => ?_) ?_
  ·exact hx.below hR hR.size
  iterate 3 refine .cons (fun x w1 w2 _ _ _ hx => hx) ?_
  refine .cons (fun x w1 w2 _ _ hR hx => ?_) ?_
  ·exact hx.below hR hR.size
  refine .cons (fun x w1 w2 _ _ hR hx => ?_) ?_
  ·exact hx.below hR hR.size
  refine .cons (fun x w1 w2 _ _ hR hx => ?_) ?_
  ·exact hx.below hR hR.size
  refine .cons (fun x w1 w2 _ _ hR hx => ?_) ?_
  ·exact hx.below hR hR.size
  refine .cons (fun x w1 w2 _ _ hR hx => ?_) ?_
  ·exact hx.below hR hR.size
  iterate 17 refine .cons (fun x w1 w2 _ _ _ hx => hx) ?_
  exact .nil
 case hsteps =>
  refine .cons (fun (x : Value) (w : World) => TmAt w w.heap.size (vT 0) x) [] rfl rfl (fun oq hop _ wq hQS => ?_) ?_
  ·exact .call hop (vs := [(.int .i64 0)]) (by kernel_rfl) (fun w => enter_vTm _ w) (by kernel_rfl) ((v_any 0 wq).mono fun e w9 h9 => by obtain ⟨v, q1, q2, q3⟩ := h9; exact ⟨_, q1, hQS.trans (q3.mono hQS.size), q3, q2⟩)
  refine .cons (fun (x : Value) (w : World) => TmAt w w.heap.size (vT 1) x) [] rfl rfl (fun oq hop _ wq hQS => ?_) ?_
  ·exact .call hop (vs := [(.int .i64 1)]) (by kernel_rfl) (fun w => enter_vTm _ w) (by kernel_rfl) ((v_any 1 wq).mono fun e w9 h9 => by obtain ⟨v, q1, q2, q3⟩ := h9; exact ⟨_, q1, hQS.trans (q3.mono hQS.size), q3, q2⟩)
  refine .cons (fun (x : Value) (w : World) => TmAt w w.heap.size (appT (vT 0) (vT 1)) x) _ rfl rfl (fun oq hop _ wq hQS => ?_) ?_
  ·refine .more fun x12 h12 => ?_
   obtain h12 := h12
   refine .more fun x13 h13 => ?_
   obtain h13 := h13
   exact .call hop (vs := [(x12 : Value), (x13 : Value)]) (by kernel_rfl) (fun w => enter_appTm _ w) (by kernel_rfl) ((app_any _ _ x12 x13 wq h12 h13).mono fun e w9 h9 => by obtain ⟨v, q1, q2, q3⟩ := h9; exact ⟨_, q1, hQS.trans (q3.mono hQS.size), q3, q2⟩)
  refine .cons (Is (.agg #[.int .i64 22, .int .i64 3, .int .i64 0, .slice none 0 0, .slice none 0 0])) [] rfl rfl (fun oq hop _ wq hQS => ?_) ?_
  ·exact .load hop (p := (.pointer (some ⟨w.heap.size, 0, none⟩))) (by kernel_rfl) (load_term ((hQS.cell (p := ⟨w.heap.size, 0, none⟩) la).trans a0) ((hQS.cell (p := ⟨w.heap.size, 0 + 1, none⟩) la).trans a1) ((hQS.cell (p := ⟨w.heap.size, 0 + 2, none⟩) la).trans a2) ((hQS.cell (p := ⟨w.heap.size, 0 + 3, none⟩) la).trans a3) ((hQS.cell (p := ⟨w.heap.size, 0 + 4, none⟩) la).trans a4)) (by kernel_rfl) hQS (.refl _ _) rfl
  refine .cons (fun (x : Value) (w : World) => TmsV [aT] x w) _ rfl rfl (fun oq hop _ wq hQS => ?_) ?_
  ·refine .more_eq (.agg #[.int .i64 22, .int .i64 3, .int .i64 0, .slice none 0 0, .slice none 0 0]) ?_
   exact .slice hop (vs := [(0, .agg #[.int .i64 22, .int .i64 3, .int .i64 0, .slice none 0 0, .slice none 0 0])]) (by kernel_rfl) (slice_tm (t := aT) (TmAt.make (lv := []) (kids := []) (fun _ => rfl) (levs_nil _ _ _) (tms_nil _ _))) (by kernel_rfl) (hQS.alloc hQS.size _) ((Below.refl _ _).alloc (Nat.le_refl _) _) (tmsV_one (TmAt.make (lv := []) (kids := []) (fun _ => rfl) (levs_nil _ _ _) (tms_nil _ _)))
  refine .cons (fun (x : Value) (w : World) => TmAt w w.heap.size (appT aT (vT 0)) x) _ rfl rfl (fun oq hop _ wq hQS => ?_) ?_
  ·refine .more fun x14 h14 => ?_
   obtain h14 := h14
   refine .more fun x16 h16 => ?_
   obtain h16 := h16
   exact .call hop (vs := [(x14 : Value), (x16 : Value)]) (by kernel_rfl) (fun w => enter_putTm _ w) (by kernel_rfl) (((show Calls Tryz.prog 12 #[x14, x16] wq (TmPost wq (appT aT (vT 0))) from awake_put1 ▸ put_tm (appT (vT 0) (vT 1)) [aT] x14 x16 wq (fit_two (fit_v 0 (by unfold Rng; omega)) (fit_v 1 (by unfold Rng; omega))) (by decide) (HKB.out wq hQS) h14 (by decide) h16 (fun b hb => by obtain rfl : b = aT := (by simpa using hb); exact ⟨fit_a, by decide⟩))).mono fun e w9 h9 => by obtain ⟨v, q1, q2, q3⟩ := h9; exact ⟨_, q1, hQS.trans (q3.mono hQS.size), q3, q2⟩)
  refine .cons (Is (.agg #[.int .i64 22, .int .i64 3, .int .i64 0, .slice none 0 0, .slice none 0 0])) [] rfl rfl (fun oq hop _ wq hQS => ?_) ?_
  ·exact .load hop (p := (.pointer (some ⟨w.heap.size, 0, none⟩))) (by kernel_rfl) (load_term ((hQS.cell (p := ⟨w.heap.size, 0, none⟩) la).trans a0) ((hQS.cell (p := ⟨w.heap.size, 0 + 1, none⟩) la).trans a1) ((hQS.cell (p := ⟨w.heap.size, 0 + 2, none⟩) la).trans a2) ((hQS.cell (p := ⟨w.heap.size, 0 + 3, none⟩) la).trans a3) ((hQS.cell (p := ⟨w.heap.size, 0 + 4, none⟩) la).trans a4)) (by kernel_rfl) hQS (.refl _ _) rfl
  refine .cons (fun (x : Value) (w : World) => TmAt w w.heap.size (vT 0) x) [] rfl rfl (fun oq hop _ wq hQS => ?_) ?_
  ·exact .call hop (vs := [(.int .i64 0)]) (by kernel_rfl) (fun w => enter_vTm _ w) (by kernel_rfl) ((v_any 0 wq).mono fun e w9 h9 => by obtain ⟨v, q1, q2, q3⟩ := h9; exact ⟨_, q1, hQS.trans (q3.mono hQS.size), q3, q2⟩)
  refine .cons (fun (x : Value) (w : World) => TmAt w w.heap.size (appT aT (vT 0)) x) _ rfl rfl (fun oq hop _ wq hQS => ?_) ?_
  ·refine .more_eq (.agg #[.int .i64 22, .int .i64 3, .int .i64 0, .slice none 0 0, .slice none 0 0]) ?_
   refine .more fun x19 h19 => ?_
   obtain h19 := h19
   exact .call hop (vs := [(.agg #[.int .i64 22, .int .i64 3, .int .i64 0, .slice none 0 0, .slice none 0 0]), (x19 : Value)]) (by kernel_rfl) (fun w => enter_appTm _ w) (by kernel_rfl) ((app_any aT (vT 0) _ x19 wq (TmAt.make (lv := []) (kids := []) (fun _ => rfl) (levs_nil _ _ _) (tms_nil _ _) : TmAt wq wq.heap.size aT (.agg #[.int .i64 22, .int .i64 3, .int .i64 0, .slice none 0 0, .slice none 0 0])) h19).mono fun e w9 h9 => by obtain ⟨v, q1, q2, q3⟩ := h9; exact ⟨_, q1, hQS.trans (q3.mono hQS.size), q3, q2⟩)
  refine .cons (Is (.bool true)) _ rfl rfl (fun oq hop _ wq hQS => ?_) ?_
  ·refine .more fun x17 h17 => ?_
   obtain h17 := h17
   refine .more fun x20 h20 => ?_
   obtain h20 := h20
   exact .call hop (vs := [(x17 : Value), (x20 : Value)]) (by kernel_rfl) (fun w => enter_sameTm2 _ w) (by kernel_rfl) ((same2_any (appT aT (vT 0)) (appT aT (vT 0)) x17 x20 wq true (fit_two fit_a (fit_v 0 (by unfold Rng; omega))) (fit_two fit_a (fit_v 0 (by unfold Rng; omega))) h17 h20 (by simp)).mono fun e w9 h9 => by obtain ⟨q1, q2⟩ := h9; exact ⟨_, q1, hQS.trans (q2.mono hQS.size), q2, rfl⟩)
  refine .cons (Is (.bool true)) _ rfl rfl (fun oq hop _ wq hQS => ?_) ?_
  ·refine .more_eq (.bool true) ?_
   exact .move hop (v := (.bool true)) (by kernel_rfl) (by kernel_rfl) hQS (.refl _ _) rfl
  refine .cons (Is (.agg #[.int .i64 5, .int .i64 0, .int .i64 0, .slice A5 0 c5, .slice A6 2 c6])) _ rfl rfl (fun oq hop _ wq hQS => ?_) ?_
  ·refine .more_eq (.bool true) ?_
   exact .load hop (p := (.pointer (some ⟨w11.heap.size, 0, none⟩))) (by kernel_rfl) (load_term ((hQS.cell (p := ⟨w11.heap.size, 0, none⟩) lb).trans b0) ((hQS.cell (p := ⟨w11.heap.size, 0 + 1, none⟩) lb).trans b1) ((hQS.cell (p := ⟨w11.heap.size, 0 + 2, none⟩) lb).trans b2) ((hQS.cell (p := ⟨w11.heap.size, 0 + 3, none⟩) lb).trans b3) ((hQS.cell (p := ⟨w11.heap.size, 0 + 4, none⟩) lb).trans b4)) (by kernel_rfl) hQS (.refl _ _) rfl
  refine .cons (fun (x : Value) (w : World) => TmAt w w.heap.size (vT 7) x) _ rfl rfl (fun oq hop _ wq hQS => ?_) ?_
  ·refine .more_eq (.bool true) ?_
   exact .call hop (vs := [(.int .i64 7)]) (by kernel_rfl) (fun w => enter_vTm _ w) (by kernel_rfl) ((v_any 7 wq).mono fun e w9 h9 => by obtain ⟨v, q1, q2, q3⟩ := h9; exact ⟨_, q1, hQS.trans (q3.mono hQS.size), q3, q2⟩)
  refine .cons (fun (x : Value) (w : World) => TmAt w w.heap.size (vT 0) x) _ rfl rfl (fun oq hop _ wq hQS => ?_) ?_
  ·refine .more_eq (.bool true) ?_
   exact .call hop (vs := [(.int .i64 0)]) (by kernel_rfl) (fun w => enter_vTm _ w) (by kernel_rfl) ((v_any 0 wq).mono fun e w9 h9 => by obtain ⟨v, q1, q2, q3⟩ := h9; exact ⟨_, q1, hQS.trans (q3.mono hQS.size), q3, q2⟩)
  refine .cons (fun (x : Value) (w : World) => TmAt w w.heap.size (vT 8) x) _ rfl rfl (fun oq hop _ wq hQS => ?_) ?_
  ·refine .more_eq (.bool true) ?_
   exact .call hop (vs := [(.int .i64 8)]) (by kernel_rfl) (fun w => enter_vTm _ w) (by kernel_rfl) ((v_any 8 wq).mono fun e w9 h9 => by obtain ⟨v, q1, q2, q3⟩ := h9; exact ⟨_, q1, hQS.trans (q3.mono hQS.size), q3, q2⟩)
  refine .cons (fun (x : Value) (w : World) => TmAt w w.heap.size (appT (vT 0) (vT 8)) x) _ rfl rfl (fun oq hop _ wq hQS => ?_) ?_
  ·refine .more_eq (.bool true) ?_
   refine .more fun x25 h25 => ?_
   obtain h25 := h25
   refine .more fun x26 h26 => ?_
   obtain h26 := h26
   exact .call hop (vs := [(x25 : Value), (x26 : Value)]) (by kernel_rfl) (fun w => enter_appTm _ w) (by kernel_rfl) ((app_any _ _ x25 x26 wq h25 h26).mono fun e w9 h9 => by obtain ⟨v, q1, q2, q3⟩ := h9; exact ⟨_, q1, hQS.trans (q3.mono hQS.size), q3, q2⟩)
  refine .cons (fun (x : Value) (w : World) => TmAt w w.heap.size belowT x) _ rfl rfl (fun oq hop _ wq hQS => ?_) ?_
  ·refine .more_eq (.bool true) ?_
   refine .more fun x24 h24 => ?_
   obtain h24 := h24
   refine .more fun x27 h27 => ?_
   obtain h27 := h27
   exact .call hop (vs := [(x24 : Value), (x27 : Value)]) (by kernel_rfl) (fun w => enter_lamTm _ w) (by kernel_rfl) ((lam_any _ _ x24 x27 wq h24 h27).mono fun e w9 h9 => by obtain ⟨v, q1, q2, q3⟩ := h9; exact ⟨_, q1, hQS.trans (q3.mono hQS.size), q3, q2⟩)
  refine .cons (Is (.bool true)) _ rfl rfl (fun oq hop _ wq hQS => ?_) ?_
  ·refine .more_eq (.bool true) (.more_eq (.agg #[.int .i64 5, .int .i64 0, .int .i64 0, .slice A5 0 c5, .slice A6 2 c6]) ?_)
   refine .more fun x28 h28 => ?_
   obtain h28 := h28
   exact .call hop (vs := [(.agg #[.int .i64 5, .int .i64 0, .int .i64 0, .slice A5 0 c5, .slice A6 2 c6]), (x28 : Value)]) (by kernel_rfl) (fun w => enter_sameTm2 _ w) (by kernel_rfl) ((same2_any belowT belowT _ x28 wq true fit_below fit_below (HB0.out.below hQS hQS.size) h28 (by simp)).mono fun e w9 h9 => by obtain ⟨q1, q2⟩ := h9; exact ⟨_, q1, hQS.trans (q2.mono hQS.size), q2, rfl⟩)
  refine .cons (Is (.bool true)) _ rfl rfl (fun oq hop _ wq hQS => ?_) ?_
  ·refine .more_eq (.bool true) (.more_eq (.bool true) ?_)
   exact .pick hop (b := true) (vx := (.bool true)) (vy := (.bool false)) (by kernel_rfl) (by kernel_rfl) (by kernel_rfl) (by kernel_rfl) hQS (.refl _ _) rfl
  refine .cons (Is (.bool true)) _ rfl rfl (fun oq hop _ wq hQS => ?_) ?_
  ·refine .more_eq (.bool true) ?_
   exact .move hop (v := (.bool true)) (by kernel_rfl) (by kernel_rfl) hQS (.refl _ _) rfl
  refine .cons (Is (.agg #[.int .i64 5, .int .i64 0, .int .i64 0, .slice A5 0 c5, .slice A6 2 c6])) _ rfl rfl (fun oq hop _ wq hQS => ?_) ?_
  ·refine .more_eq (.bool true) ?_
   exact .load hop (p := (.pointer (some ⟨w11.heap.size, 0, none⟩))) (by kernel_rfl) (load_term ((hQS.cell (p := ⟨w11.heap.size, 0, none⟩) lb).trans b0) ((hQS.cell (p := ⟨w11.heap.size, 0 + 1, none⟩) lb).trans b1) ((hQS.cell (p := ⟨w11.heap.size, 0 + 2, none⟩) lb).trans b2) ((hQS.cell (p := ⟨w11.heap.size, 0 + 3, none⟩) lb).trans b3) ((hQS.cell (p := ⟨w11.heap.size, 0 + 4, none⟩) lb).trans b4)) (by kernel_rfl) hQS (.refl _ _) rfl
  refine .cons (Is (.bool true)) _ rfl rfl (fun oq hop _ wq hQS => ?_) ?_
  ·refine .more_eq (.bool true) (.more_eq (.agg #[.int .i64 5, .int .i64 0, .int .i64 0, .slice A5 0 c5, .slice A6 2 c6]) ?_)
   exact .call hop (vs := [(.agg #[.int .i64 5, .int .i64 0, .int .i64 0, .slice A5 0 c5, .slice A6 2 c6])]) (by kernel_rfl) (fun w => enter_rightTm _ w) (by kernel_rfl) (((show Calls Tryz.prog 25 #[.agg #[.int .i64 5, .int .i64 0, .int .i64 0, .slice A5 0 c5, .slice A6 2 c6]] wq (HasPost wq true) from awake_right ▸ rightOf_any belowT fit_below _ wq (HKB.out wq hQS) (HB0.out.below hQS hQS.size))).mono fun e w9 h9 => by obtain ⟨q1, q2⟩ := h9; exact ⟨_, q1, hQS.trans (q2.mono hQS.size), q2, rfl⟩)
  refine .cons (Is (.bool true)) _ rfl rfl (fun oq hop _ wq hQS => ?_) ?_
  ·refine .more_eq (.bool true) (.more_eq (.bool true) ?_)
   exact .pick hop (b := true) (vx := (.bool true)) (vy := (.bool false)) (by kernel_rfl) (by kernel_rfl) (by kernel_rfl) (by kernel_rfl) hQS (.refl _ _) rfl
  refine .cons (Is (.bool true)) _ rfl rfl (fun oq hop _ wq hQS => ?_) ?_
  ·refine .more_eq (.bool true) ?_
   exact .move hop (v := (.bool true)) (by kernel_rfl) (by kernel_rfl) hQS (.refl _ _) rfl
  refine .cons (Is (.agg #[.int .i64 6, .int .i64 0, .int .i64 0, .slice none 0 0, .slice none 0 0])) _ rfl rfl (fun oq hop _ wq hQS => ?_) ?_
  ·refine .more_eq (.bool true) ?_
   exact .build hop (vs := [(0, .int .i64 6)]) (by kernel_rfl) (build_bare _ _) (by kernel_rfl) hQS (.refl _ _) rfl
  refine .cons (Is (.bool false)) _ rfl rfl (fun oq hop _ wq hQS => ?_) ?_
  ·refine .more_eq (.bool true) (.more_eq (.agg #[.int .i64 6, .int .i64 0, .int .i64 0, .slice none 0 0, .slice none 0 0]) ?_)
   exact .call hop (vs := [(.agg #[.int .i64 6, .int .i64 0, .int .i64 0, .slice none 0 0, .slice none 0 0])]) (by kernel_rfl) (fun w => enter_rightTm _ w) (by kernel_rfl) (((show Calls Tryz.prog 25 #[.agg #[.int .i64 6, .int .i64 0, .int .i64 0, .slice none 0 0, .slice none 0 0]] wq (HasPost wq false) from awake_wrong ▸ rightOf_any (Tm.mk 6 0 0 [] []) ((Tm.fit_mk ..).2 ⟨by unfold Rng; omega, ⟨by simp, by simp⟩, by simp, by rw [Tm.fitL]; trivial⟩) _ wq (HKB.out wq hQS) (TmAt.make (lv := []) (kids := []) (fun _ => rfl) (levs_nil _ _ _) (tms_nil _ _)))).mono fun e w9 h9 => by obtain ⟨q1, q2⟩ := h9; exact ⟨_, q1, hQS.trans (q2.mono hQS.size), q2, rfl⟩)
  refine .cons (Is (.bool true)) _ rfl rfl (fun oq hop _ wq hQS => ?_) ?_
  ·refine .more_eq (.bool true) (.more_eq (.bool false) ?_)
   exact .not hop (b := false) (by kernel_rfl) (by kernel_rfl) hQS (.refl _ _) rfl
  refine .cons (Is (.bool true)) _ rfl rfl (fun oq hop _ wq hQS => ?_) ?_
  ·refine .more_eq (.bool true) (.more_eq (.bool true) ?_)
   exact .pick hop (b := true) (vx := (.bool true)) (vy := (.bool false)) (by kernel_rfl) (by kernel_rfl) (by kernel_rfl) (by kernel_rfl) hQS (.refl _ _) rfl
  refine .cons (Is (.bool true)) _ rfl rfl (fun oq hop _ wq hQS => ?_) ?_
  ·refine .more_eq (.bool true) ?_
   exact .move hop (v := (.bool true)) (by kernel_rfl) (by kernel_rfl) hQS (.refl _ _) rfl
  refine .cons (Is (.agg #[.int .i64 5, .int .i64 0, .int .i64 0, .slice A5 0 c5, .slice A6 2 c6])) _ rfl rfl (fun oq hop _ wq hQS => ?_) ?_
  ·refine .more_eq (.bool true) ?_
   exact .load hop (p := (.pointer (some ⟨w11.heap.size, 0, none⟩))) (by kernel_rfl) (load_term ((hQS.cell (p := ⟨w11.heap.size, 0, none⟩) lb).trans b0) ((hQS.cell (p := ⟨w11.heap.size, 0 + 1, none⟩) lb).trans b1) ((hQS.cell (p := ⟨w11.heap.size, 0 + 2, none⟩) lb).trans b2) ((hQS.cell (p := ⟨w11.heap.size, 0 + 3, none⟩) lb).trans b3) ((hQS.cell (p := ⟨w11.heap.size, 0 + 4, none⟩) lb).trans b4)) (by kernel_rfl) hQS (.refl _ _) rfl
  refine .cons (Is (.int .i64 5)) _ rfl rfl (fun oq hop _ wq hQS => ?_) ?_
  ·refine .more_eq (.bool true) (.more_eq (.agg #[.int .i64 5, .int .i64 0, .int .i64 0, .slice A5 0 c5, .slice A6 2 c6]) ?_)
   exact .call hop (vs := [(.agg #[.int .i64 5, .int .i64 0, .int .i64 0, .slice A5 0 c5, .slice A6 2 c6])]) (by kernel_rfl) (fun w => enter_sizeTm _ w) (by kernel_rfl) ((size_any belowT (by decide) _ wq (HB0.out.below hQS hQS.size)).mono fun e w9 h9 => by obtain ⟨q1, q2⟩ := h9; exact ⟨_, q1, hQS.trans (q2.mono hQS.size), q2, rfl⟩)
  refine .cons (Is (.bool true)) _ rfl rfl (fun oq hop _ wq hQS => ?_) ?_
  ·refine .more_eq (.bool true) (.more_eq (.int .i64 5) ?_)
   exact .bin hop (vx := (.int .i64 5)) (vy := (.int .i64 5)) (by kernel_rfl) (by kernel_rfl) (eql_ints _ _ _ _ _) (by kernel_rfl) hQS (.refl _ _) rfl
  refine .cons (Is (.bool true)) _ rfl rfl (fun oq hop _ wq hQS => ?_) ?_
  ·refine .more_eq (.bool true) (.more_eq (.bool true) ?_)
   exact .pick hop (b := true) (vx := (.bool true)) (vy := (.bool false)) (by kernel_rfl) (by kernel_rfl) (by kernel_rfl) (by kernel_rfl) hQS (.refl _ _) rfl
  refine .cons (Is (.bool true)) _ rfl rfl (fun oq hop _ wq hQS => ?_) ?_
  ·refine .more_eq (.bool true) ?_
   exact .assign hop (v := (.bool true)) (by kernel_rfl) (by kernel_rfl) hQS (.refl _ _) rfl
  exact .nil
 case hfin =>
  intro wf hFS
  iterate 33 refine .more fun _ _ => ?_
  refine .more fun x0 h0 => ?_
  refine .done ?_
  have HF : Hid (HasPost w true (.returned x0) wf) := ⟨by rw [h0], HEND.out wf hFS⟩
  clear hS hFS
  simp only [Act.put, List.setIfInBounds_toArray, List.set_cons_zero, List.set_cons_succ]
  go_wp2
  go_ret
  exact HF.out
end Go.Proofs.YtafgmndlbbjphaaGreatDoor
