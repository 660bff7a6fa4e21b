/- Laws. -/
import Derived.Test.YtfgnnbpbbnnnhaaDoorRrak
import Derived.Test.YtfgnnbpbbnnnhaaDoorRral
import Derived.Test.YtfgnnbpbbnnnhaaDoorRrar
import Derived.Deep.RegionHeld3
namespace Go.Proofs.YtfgnnbpbbnnnhaaDoor
open Go.RowKit Go.Maps
theorem lev_meet {w1 w2 w3 : World} {B : Nat} (H : ∀ (p : Addr) (a b : Value), w1.cell? p = some a → w2.cell? p = some b → a = b ∧ w3.cell? p = some a) {A : Option Addr} {ps : List (Int × Int)} (h1 : Lev w1 B A ps) (h2 : Lev w2 B A ps) : Lev w3 B A ps := fun hp => by
  obtain ⟨b, o, e, hb, hc⟩ := h1 hp
  obtain ⟨b', o', e', _, hc'⟩ := h2 hp
  rw [e] at e'
  injection e' with e'
  injection e' with e1 e2
  subst e1 e2
  exact ⟨b, o, e, hb, fun i hi => ⟨(H _ _ _ (hc i hi).1 (hc' i hi).1).2, (H _ _ _ (hc i hi).2 (hc' i hi).2).2⟩⟩
theorem levs_meet {w1 w2 w3 : World} {B : Nat} (H : ∀ (p : Addr) (a b : Value), w1.cell? p = some a → w2.cell? p = some b → a = b ∧ w3.cell? p = some a) {A : Option Addr} {ls : List (List (Int × Int))} (h1 : Levs w1 B A ls) (h2 : Levs w2 B A ls) : Levs w3 B A ls := fun hp => by
  obtain ⟨b, o, e, hb, hc⟩ := h1 hp
  obtain ⟨b', o', e', _, hc'⟩ := h2 hp
  rw [e] at e'
  injection e' with e'
  injection e' with e1 e2
  subst e1 e2
  refine ⟨b, o, e, hb, fun i hi => ?_⟩
  obtain ⟨Ai, ci, q1, q2, q3, q4⟩ := hc i hi
  obtain ⟨Aj, cj, r1, r2, r3, r4⟩ := hc' i hi
  obtain ⟨s1, s2⟩ := H _ _ _ q1 r1
  injection s1 with s1 _ s3
  subst s1 s3
  exact ⟨Ai, ci, s2, lev_meet H q2 r2, q3, q4⟩
theorem tm_meet {w1 w2 w3 : World} {B : Nat} (H : ∀ (p : Addr) (a b : Value), w1.cell? p = some a → w2.cell? p = some b → a = b ∧ w3.cell? p = some a) (t : Tm) : ∀ v, TmAt w1 B t v → TmAt w2 B t v → TmAt w3 B t v := by
  induction t using Tm.ind with
  | h k n a lv kids ih =>
    intro v h1 h2
    obtain ⟨Al, cl, Ak, ck, rfl, q1, q2, q3⟩ := h1.open
    obtain ⟨Al', cl', Ak', ck', e, r1, r2, r3⟩ := h2.open
    injection e with e
    injection e with e
    injection e with _ e
    injection e with _ e
    injection e with _ e
    injection e with e3 e
    injection e with e4 _
    injection e3 with e5 _ e6
    injection e4 with e7 _ e8
    subst e5 e6 e7 e8
    refine TmAt.make q1 (levs_meet H q2 r2) ⟨q3.1, fun hp => ?_⟩
    obtain ⟨b, o, eA, hb, hts⟩ := q3.2 hp
    obtain ⟨b', o', eA', _, hts'⟩ := r3.2 hp
    rw [eA] at eA'
    injection eA' with eA'
    injection eA' with f1 f2
    subst f1 f2
    refine ⟨b, o, eA, hb, TmsAt.of fun i t hi => ?_⟩
    obtain ⟨b1, o1, v1, x1, _, x2, x3⟩ := q3.get hi
    obtain ⟨b2, o2, v2, y1, _, y2, y3⟩ := r3.get hi
    rw [eA] at x1 y1
    injection x1 with x1
    injection x1 with x1 x4
    injection y1 with y1
    injection y1 with y1 y4
    subst x1 x4 y1 y4
    obtain ⟨c0, c1, c2, c3, c4, rfl, m0, m1, m2, m3, m4⟩ := x2
    obtain ⟨d0, d1, d2, d3, d4, rfl, n0, n1, n2, n3, n4⟩ := y2
    obtain ⟨z0, w0⟩ := H _ _ _ m0 n0
    obtain ⟨z1, w1'⟩ := H _ _ _ m1 n1
    obtain ⟨z2, w2'⟩ := H _ _ _ m2 n2
    obtain ⟨z3, w3'⟩ := H _ _ _ m3 n3
    obtain ⟨z4, w4'⟩ := H _ _ _ m4 n4
    subst z0 z1 z2 z3 z4
    exact ⟨_, ⟨_, _, _, _, _, rfl, w0, w1', w2', w3', w4'⟩, ih t (List.mem_of_getElem? hi) _ x3 y3⟩
/-- a block emptied -/
theorem gone_cell (w : World) (g : Nat) {cs : Array Value} {t : TypeId} (h : w.heap[g]? = some (.cells cs t (0, 0))) (p : Addr) : (w.setRow g #[]).cell? p = if p.block = g then none else w.cell? p := by
  by_cases e : p.block = g
  · rw [if_pos e]
    have h2 := setRow_heap w g _ #[] _ _ h
    obtain ⟨b, o, sp⟩ := p
    have e : b = g := e
    subst e
    simp [World.cell?, h2]
  · rw [if_neg e]
    exact World.cell?_of_block (setRow_other w g p.block _ e)
/-- a term that is none of a variable's memory -/
def AwayT (u : Tm) (w : World) (x y : Value) : Prop := ∃ g, y = .pointer (some ⟨g, 0, none⟩) ∧ TmAt (w.setRow g #[]) w.heap.size u x
end Go.Proofs.YtfgnnbpbbnnnhaaDoor
namespace Go.Proofs.YtfgnnbpbbnnnhaaDoor
open Go.RowKit Go.Maps
theorem liftN_none (t : Tm) : ∀ (d : Nat), t.fit → t.walk (liftT 0 0) d = t := by
  induction t using Tm.ind with
  | h k num pos lv kids ih =>
    intro d hf
    rw [Tm.fit_mk] at hf
    have hn : liftN d k num 0 0 = num := by
      unfold liftN
      split
      · unfold Rng at hf; rw [Int.add_zero, IntWalk.i64_in _ (by omega)]
      · rfl
    rw [Tm.walk_go (tr := liftT 0 0) (n' := liftN d k num 0 0) (lv' := lv) rfl, hn]
    congr 1
    refine List.ext_getElem? fun j => ?_
    rw [Tm.walkL_get]
    cases e : kids[j]? with
    | none => simp
    | some t =>
      have ht := List.mem_of_getElem? e
      simp only [Option.map_some]
      rw [ih t ht _ ((Tm.fitL_iff kids).1 hf.2.2.2 t ht)]
/-- blocks emptied -/
def maskW (gs : List Nat) (w : World) : World := { w with heap := w.heap.mapIdx fun b o => if b ∈ gs then .cells #[] 0 (0, 0) else o }
theorem mask_size (gs : List Nat) (w : World) : (maskW gs w).heap.size = w.heap.size := by simp [maskW]
theorem mask_heap (gs : List Nat) (w : World) (b : Nat) (h : b ∉ gs) : (maskW gs w).heap[b]? = w.heap[b]? := by
  simp only [maskW, Array.getElem?_mapIdx, if_neg h]
  cases w.heap[b]? <;> rfl
theorem mask_none (gs : List Nat) (w : World) (p : Addr) (h : p.block ∈ gs) : (maskW gs w).cell? p = none := by
  cases e : w.heap[p.block]? with
  | none => simp [World.cell?, maskW, Array.getElem?_mapIdx, e]
  | some o => simp [World.cell?, maskW, Array.getElem?_mapIdx, e, h]
theorem mask_cell (gs : List Nat) (w : World) (p : Addr) (u : Value) (h : (maskW gs w).cell? p = some u) : p.block ∉ gs ∧ w.cell? p = some u := by
  by_cases e : p.block ∈ gs
  · rw [mask_none gs w p e] at h; cases h
  · exact ⟨e, by rw [← World.cell?_of_block (mask_heap gs w p.block e)]; exact h⟩
theorem tm_mono {w w' : World} {B B' : Nat} (hB : B ≤ B') (H : ∀ (p : Addr) (u : Value), w.cell? p = some u → w'.cell? p = some u) (t : Tm) (v : Value) (h : TmAt w B t v) : TmAt w' B' t v :=
  TmAt.keep hB (fun _ _ => rfl) t v (tm_meet (fun p a b ha hb => ⟨by rw [ha] at hb; injection hb, H p a ha⟩) t v h h)
/-- a term that is none of these blocks' memory -/
def AwayS (gs : List Nat) (w : World) (t : Tm) (v : Value) : Prop := TmAt (maskW gs w) w.heap.size t v
theorem AwayS.tm {gs : List Nat} {w : World} {t : Tm} {v : Value} (h : AwayS gs w t v) : TmAt w w.heap.size t v := tm_mono (Nat.le_refl _) (fun p u e => (mask_cell gs w p u e).2) t v h
theorem AwayS.step {gs : List Nat} {w w' : World} {t : Tm} {v : Value} (h : AwayS gs w t v) (hs : w.heap.size ≤ w'.heap.size) (H : ∀ (p : Addr) (u : Value), p.block ∉ gs → w.cell? p = some u → w'.cell? p = some u) : AwayS gs w' t v :=
  tm_mono hs (fun p u e => by
    obtain ⟨e1, e2⟩ := mask_cell gs w p u e
    rw [World.cell?_of_block (mask_heap gs w' p.block e1)]
    exact H p u e1 e2) t v h
theorem AwayS.below {gs : List Nat} {w w' : World} {t : Tm} {v : Value} (h : AwayS gs w t v) (hb : Below w.heap.size w w') : AwayS gs w' t v :=
  h.step hb.size fun p u _ e => by
    cases ho : w.heap[p.block]? with
    | none => simp [World.cell?, ho] at e
    | some o => exact (hb.cell (heap_some_lt ho)).trans e
theorem AwayS.own {gs : List Nat} {w : World} {lo : Nat} {t : Tm} {v : Value} (h : OwnTm w lo w.heap.size t v) (hg : ∀ b ∈ gs, b < lo) : AwayS gs w t v :=
  (h.kept (fun b h1 _ => mask_heap gs w b (fun e => by have := hg b e; omega))).tmAt
theorem AwayS.fewer {gs gs' : List Nat} {w : World} {t : Tm} {v : Value} (h : AwayS gs w t v) (hg : ∀ b ∈ gs', b ∈ gs) : AwayS gs' w t v :=
  tm_mono (Nat.le_refl _) (fun p u e => by
    obtain ⟨e1, e2⟩ := mask_cell gs w p u e
    rw [World.cell?_of_block (mask_heap gs' w p.block (fun e => e1 (hg _ e)))]
    exact e2) t v h
set_option maxRecDepth 100000 in
set_option maxHeartbeats 4000000 in
theorem ofB9_any (k : Int) (A : Option Addr) (n c : Nat) (w : World) : Calls Tryd.prog 74 #[.int .i64 k, .slice A n c] w (fun e w' => e = .returned (.agg #[.int .i64 k, .int .i64 0, .int .i64 0, .slice none 0 0, .slice A n c]) ∧ Below w.heap.size w w') := by
  obtain ⟨w1, hw1⟩ : ∃ x, w.alloc (.cells #[.int .i64 0, .int .i64 0, .int .i64 0, .slice none 0 0, .slice none 0 0] 27) = x := ⟨_, rfl⟩
  have hb1 : Below w.heap.size w w1 := by rw [← hw1]; exact (Below.refl _ _).alloc (Nat.le_refl _) _
  have z2 : w1.heap[w.heap.size]? = some (.cells #[.int .i64 0, .int .i64 0, .int .i64 0, .slice none 0 0, .slice none 0 0] 27 (0, 0)) := by rw [← hw1]; exact heap_alloc_new w _
  have u0 := thawed z2 0
  have u1 := thawed z2 1
  have u2 := thawed z2 2
  have u3 := thawed z2 3
  have u4 := thawed z2 4
  have x0 := cell_of_row _ _ 0 _ _ (0, 0) z2
  have x1 := cell_of_row _ _ 1 _ _ (0, 0) z2
  have x2 := cell_of_row _ _ 2 _ _ (0, 0) z2
  have x3 := cell_of_row _ _ 3 _ _ (0, 0) z2
  have x4 := cell_of_row _ _ 4 _ _ (0, 0) z2
  have h5 := set_same (set_same (set_same (set_same (set_same z2 0 (.int .i64 k)) 1 (.int .i64 0)) 2 (.int .i64 0)) 3 (.slice none 0 0)) 4 (.slice A n c)
  have hset : Hid (Below w.heap.size w (((((w1.setCell ⟨w.heap.size, 0, none⟩ (.int .i64 k)).setCell ⟨w.heap.size, 1, none⟩ (.int .i64 0)).setCell ⟨w.heap.size, 2, none⟩ (.int .i64 0)).setCell ⟨w.heap.size, 3, none⟩ (.slice none 0 0)).setCell ⟨w.heap.size, 4, none⟩ (.slice A n c))) := ((((hb1.setCell (Nat.le_refl _) _).setCell (Nat.le_refl _) _).setCell (Nat.le_refl _) _).setCell (Nat.le_refl _) _).setCell (Nat.le_refl _) _
  have r0 := row_cell h5 (j := 0) (v := .int .i64 k) rfl
  have r1 := row_cell h5 (j := 1) (v := .int .i64 0) rfl
  have r2 := row_cell h5 (j := 2) (v := .int .i64 0) rfl
  have r3 := row_cell h5 (j := 3) (v := .slice none 0 0) rfl
  have r4 := row_cell h5 (j := 4) (v := .slice A n c) rfl
  clear hb1 z2 h5
  go_enter Tryd.func74, Tryd.ntmps74
  go_wp2
  exact bodyPost_ret (v := .agg #[.int .i64 k, .int .i64 0, .int .i64 0, .slice none 0 0, .slice A n c]) (by simp [results, Tryd.results74, go_sem, r0, r1, r2, r3, r4]) rfl ⟨rfl, hset.out⟩
/-- a block's five cells written anew -/
theorem five_set {w : World} {g : Nat} {c0 c1 c2 c3 c4 : Value} {t : TypeId} (h : w.heap[g]? = some (.cells #[c0, c1, c2, c3, c4] t (0, 0))) (d0 d1 d2 d3 d4 : Value) : (((((w.setCell ⟨g, 0, none⟩ d0).setCell ⟨g, 1, none⟩ d1).setCell ⟨g, 2, none⟩ d2).setCell ⟨g, 3, none⟩ d3).setCell ⟨g, 4, none⟩ d4).heap[g]? = some (.cells #[d0, d1, d2, d3, d4] t (0, 0)) :=
  set_same (set_same (set_same (set_same (set_same h 0 d0) 1 d1) 2 d2) 3 d3) 4 d4
theorem five_other (w : World) {g b : Nat} (hb : b ≠ g) (d0 d1 d2 d3 d4 : Value) : (((((w.setCell ⟨g, 0, none⟩ d0).setCell ⟨g, 1, none⟩ d1).setCell ⟨g, 2, none⟩ d2).setCell ⟨g, 3, none⟩ d3).setCell ⟨g, 4, none⟩ d4).heap[b]? = w.heap[b]? :=
  (Below.heap_setCell _ ⟨g, 4, none⟩ d4 b hb).trans ((Below.heap_setCell _ ⟨g, 3, none⟩ d3 b hb).trans ((Below.heap_setCell _ ⟨g, 2, none⟩ d2 b hb).trans ((Below.heap_setCell _ ⟨g, 1, none⟩ d1 b hb).trans (Below.heap_setCell _ ⟨g, 0, none⟩ d0 b hb))))
theorem five_below {w0 w : World} {n₀ g : Nat} (h : Below n₀ w0 w) (hg : n₀ ≤ g) (d0 d1 d2 d3 d4 : Value) : Below n₀ w0 (((((w.setCell ⟨g, 0, none⟩ d0).setCell ⟨g, 1, none⟩ d1).setCell ⟨g, 2, none⟩ d2).setCell ⟨g, 3, none⟩ d3).setCell ⟨g, 4, none⟩ d4) :=
  ((((h.setCell hg _).setCell hg _).setCell hg _).setCell hg _).setCell hg _
theorem five_size (w : World) (g : Nat) (d0 d1 d2 d3 d4 : Value) : (((((w.setCell ⟨g, 0, none⟩ d0).setCell ⟨g, 1, none⟩ d1).setCell ⟨g, 2, none⟩ d2).setCell ⟨g, 3, none⟩ d3).setCell ⟨g, 4, none⟩ d4).heap.size = w.heap.size := by simp [World.setCell]
set_option maxRecDepth 100000 in
set_option maxHeartbeats 4000000 in
/-- a term in memory of its own -/
theorem tcopy_any (t : Tm) (hf : t.fit) (v : Value) (w : World) (hd : t.size ≤ 1073741824) (hK : KindsAt w) (hv : TmAt w w.heap.size t v) : Calls Tryd.prog 72 #[v] w (TermPost w t) := by
  obtain ⟨k, n, a, lv, kids⟩ := t
  have hv' := hv
  obtain ⟨Al, cl, Ak, ck, rfl, _⟩ := hv'.open
  have hw0 : 0 < w.heap.size := cell_lt (hK 0 (by decide))
  obtain ⟨p1, hp1⟩ : ∃ x, lv.length = x := ⟨_, rfl⟩
  obtain ⟨p2, hp2⟩ : ∃ x, kids.length = x := ⟨_, rfl⟩
  rw [hp1, hp2] at hv ⊢
  obtain ⟨w1, hw1⟩ : ∃ x, (w.alloc (.cells #[.int .i64 k, .int .i64 n, .int .i64 a, .slice Al p1 cl, .slice Ak p2 ck] 27)).alloc (.cells #[.int .i64 0, .int .i64 0, .int .i64 0, .slice none 0 0, .slice none 0 0] 27) = x := ⟨_, rfl⟩
  have hb1 : Below w.heap.size w w1 := by rw [← hw1]; exact ((Below.refl _ _).alloc (Nat.le_refl _) _).alloc (by simp) _
  have hs1 : w1.heap.size = w.heap.size + 2 := by rw [← hw1]; simp
  obtain ⟨z1, z2, _⟩ := two_allocs w (.cells #[.int .i64 k, .int .i64 n, .int .i64 a, .slice Al p1 cl, .slice Ak p2 ck] 27) (.cells #[.int .i64 0, .int .i64 0, .int .i64 0, .slice none 0 0, .slice none 0 0] 27)
  rw [hw1] at z1 z2
  have x0 := cell_of_row _ _ 0 _ _ (0, 0) z1
  have x1 := cell_of_row _ _ 1 _ _ (0, 0) z1
  have x2 := cell_of_row _ _ 2 _ _ (0, 0) z1
  have x3 := cell_of_row _ _ 3 _ _ (0, 0) z1
  have x4 := cell_of_row _ _ 4 _ _ (0, 0) z1
  have hl := lift_any (.mk k n a lv kids) hf _ w1 0 0 hd (hK.below hb1 hw0) (hv.below hb1 hb1.size)
  rw [liftN_none _ 0 hf] at hl
  have HL := Lib.hid hl
  have HB1 := Lib.hid hb1
  have HS1 := Lib.hid hs1
  have Z2 := Lib.hid z2
  clear hl hb1 hs1 z1 z2 hv hf hd hK hw0 hp1 hp2
  go_enter Tryd.func72, Tryd.ntmps72
  go_wp2_with (fail)
  refine HL.out.mono ?_
  rintro e w2 ⟨v, rfl, hO, hb2⟩
  obtain ⟨Bl, dl, Bk, dk, e2, _⟩ := (hO.tmAt).open
  obtain ⟨q1, hq1⟩ : ∃ x, lv.length = x := ⟨_, rfl⟩
  obtain ⟨q2, hq2⟩ : ∃ x, kids.length = x := ⟨_, rfl⟩
  rw [hq1, hq2] at e2
  subst e2
  have y := (hb2.block _ (heap_some_lt Z2.out)).trans Z2.out
  have u0 := thawed y 0
  have u1 := thawed y 1
  have u2 := thawed y 2
  have u3 := thawed y 3
  have u4 := thawed y 4
  have y0 := cell_of_row _ _ 0 _ _ (0, 0) y
  have y1 := cell_of_row _ _ 1 _ _ (0, 0) y
  have y2 := cell_of_row _ _ 2 _ _ (0, 0) y
  have y3 := cell_of_row _ _ 3 _ _ (0, 0) y
  have y4 := cell_of_row _ _ 4 _ _ (0, 0) y
  have h5 := five_set y (.int .i64 k) (.int .i64 n) (.int .i64 a) (.slice Bl q1 dl) (.slice Bk q2 dk)
  have hsz := five_size w2 (w.heap.size + 1) (.int .i64 k) (.int .i64 n) (.int .i64 a) (.slice Bl q1 dl) (.slice Bk q2 dk)
  have hbf : Hid (Below w.heap.size w (((((w2.setCell ⟨w.heap.size + 1, 0, none⟩ (.int .i64 k)).setCell ⟨w.heap.size + 1, 1, none⟩ (.int .i64 n)).setCell ⟨w.heap.size + 1, 2, none⟩ (.int .i64 a)).setCell ⟨w.heap.size + 1, 3, none⟩ (.slice Bl q1 dl)).setCell ⟨w.heap.size + 1, 4, none⟩ (.slice Bk q2 dk))) := five_below (HB1.out.trans (hb2.mono HB1.out.size)) (by omega) _ _ _ _ _
  have hO' : Hid (OwnTm (((((w2.setCell ⟨w.heap.size + 1, 0, none⟩ (.int .i64 k)).setCell ⟨w.heap.size + 1, 1, none⟩ (.int .i64 n)).setCell ⟨w.heap.size + 1, 2, none⟩ (.int .i64 a)).setCell ⟨w.heap.size + 1, 3, none⟩ (.slice Bl q1 dl)).setCell ⟨w.heap.size + 1, 4, none⟩ (.slice Bk q2 dk)) w.heap.size (((((w2.setCell ⟨w.heap.size + 1, 0, none⟩ (.int .i64 k)).setCell ⟨w.heap.size + 1, 1, none⟩ (.int .i64 n)).setCell ⟨w.heap.size + 1, 2, none⟩ (.int .i64 a)).setCell ⟨w.heap.size + 1, 3, none⟩ (.slice Bl q1 dl)).setCell ⟨w.heap.size + 1, 4, none⟩ (.slice Bk q2 dk)).heap.size (.mk k n a lv kids) (.agg #[.int .i64 k, .int .i64 n, .int .i64 a, .slice Bl q1 dl, .slice Bk q2 dk])) := by
    rw [hsz]
    exact (hO.kept (fun b h1 _ => five_other w2 (by have := HS1.out; omega) _ _ _ _ _)).wide (by have := HS1.out; omega) (Nat.le_refl _)
  have r0 := row_cell h5 (j := 0) rfl
  have r1 := row_cell h5 (j := 1) rfl
  have r2 := row_cell h5 (j := 2) rfl
  have r3 := row_cell h5 (j := 3) rfl
  have r4 := row_cell h5 (j := 4) rfl
  clear hO hb2 y h5 hsz hw1 x0 x1 x2 x3 x4
  go_wp2_with (fail)
  exact bodyPost_ret (v := .agg #[.int .i64 k, .int .i64 n, .int .i64 a, .slice Bl q1 dl, .slice Bk q2 dk]) (by simp [results, Tryd.results72, go_sem, r0, r1, r2, r3, r4]) rfl ⟨_, rfl, hO'.out, hbf.out⟩
end Go.Proofs.YtfgnnbpbbnnnhaaDoor
