/- Laws. -/
import Derived.Test.YtafgmndlbbjphaaGreatDoorPuis
import Derived.Test.YtafgmndlbbjphaaGreatDoorPubc
import Derived.Test.YtafgmndlbbjphaaGreatDoorPubf
import Derived.Test.YtafgmndlbbjphaaGreatDoorPubg
import Derived.Test.YtafgmndlbbjphaaGreatDoorPubh
set_option maxRecDepth 100000
namespace Go.Proofs.YtafgmndlbbjphaaGreatDoor
open Go.RowKit Go.Maps
theorem wpList_append_run {P : Program} {w : World} {ops : Array Oper} {rest : List Oper} {o : Oper} {a : Act} {Q : Exit → Act → World → Prop} (hgd : o.guard = none) (s x : Operand) (t : TypeId)
  (ho : o.op = .call { callee := .builtin .append, args := #[s, x], argTypes := #[t, t] }) (vx vy : Value) (hs : a.eval s = vx) (hx : a.eval x = vy) {v' : Value} {w' : World}
  (hr : (Builtin.append_ #[t, t] o.type #[vx, vy]).run P w = .ok v' w') (h : wpList P ops Q rest (a.put o.dst v') w') : wpList P ops Q (o :: rest) a w := by
 refine wpList_plain hgd fun K hK => ?_
 unfold Oper.wp execOp
 simp only [ho, resolve, invoke, builtin, Sem.run_bind, Sem.run_pure, Result.andThen_ok, List.map_toArray, List.map_cons, List.map_nil, hs, hx, hr]
 exact hK _ _ h
theorem full_one {t : Tm} {c0 c1 c2 c3 c4 : Value} {w : World} (h : TmAt w w.heap.size t (.agg #[c0, c1, c2, c3, c4])) : TmsFull [t] (.slice (some ⟨w.heap.size, 0, none⟩) 1 1) (w.alloc (.cells #[c0, c1, c2, c3, c4] 26)) :=
 full_alloc (ts := [t]) rfl fun i s hi => by
  match i, hi with
  | 0, hi => injection hi with hi; subst hi; exact ⟨_, _, _, _, _, rfl, rfl, rfl, rfl, rfl, h⟩
theorem lent_shape {w : World} {B : Nat} {t : Tm} {v : Value} (h : LentAt w B t v) : ∃ (i j l : Int) (A B : Option Addr) (n c m d : Nat), v = .agg #[.int .i64 i, .int .i64 j, .int .i64 l, .slice A n c, .slice B m d] := by
 obtain ⟨k, n, a, lv, kids⟩ := t
 obtain ⟨gl, cl, gk, ck, ys, rfl, _⟩ := h.open
 exact ⟨_, _, _, _, _, _, _, _, _, rfl⟩
theorem bel_drew {w w' : World} (h : Below w.heap.size w w') : Below w.heap.size w w'.drew := h.drew
theorem bel_set {w w' : World} {b i : Nat} {v : Value} (h : Below w.heap.size w w') (hb : w.heap.size ≤ b) : Below w.heap.size w (w'.setCell ⟨b, i, none⟩ v) := h.setCell hb v
theorem bel_alloc {w w' : World} {o : Obj} (h : Below w.heap.size w w') : Below w.heap.size w (w'.alloc o) := h.alloc h.size _
theorem bn1 {w w' : World} {cs : Array Value} {t : TypeId} (h : Below (w.alloc (.cells cs t)).heap.size (w.alloc (.cells cs t)) w') : w'.heap[w.heap.size]? = some (.cells cs t (0, 0)) := (h.block _ (heap_some_lt (heap_alloc_new w _))).trans (heap_alloc_new w _)
theorem bn2 {w w' : World} {cs ds : Array Value} {t u : TypeId} (h : Below ((w.alloc (.cells cs t)).alloc (.cells ds u)).heap.size ((w.alloc (.cells cs t)).alloc (.cells ds u)) w') : w'.heap[w.heap.size]? = some (.cells cs t (0, 0)) := by
 obtain ⟨z1, _, _⟩ := two_allocs w (.cells cs t) (.cells ds u)
 exact (h.block _ (heap_some_lt z1)).trans z1
theorem bn3 {w w' : World} {cs ds : Array Value} {t u : TypeId} (h : Below ((w.alloc (.cells cs t)).alloc (.cells ds u)).heap.size ((w.alloc (.cells cs t)).alloc (.cells ds u)) w') : w'.heap[w.heap.size + 1]? = some (.cells ds u (0, 0)) := by
 obtain ⟨_, z2, _⟩ := two_allocs w (.cells cs t) (.cells ds u)
 exact (h.block _ (heap_some_lt z2)).trans z2
theorem bk1 {w w' : World} {cs : Array Value} {t : TypeId} (h : Below (w.alloc (.cells cs t)).drew.heap.size (w.alloc (.cells cs t)).drew w') : w'.heap[w.heap.size]? = some (.cells cs t (0, 0)) := (h.block _ (heap_some_lt (w := w.alloc (.cells cs t)) (heap_alloc_new w _))).trans (heap_alloc_new w _)
theorem bk2 {w w' : World} {cs ds : Array Value} {t u : TypeId} (h : Below ((w.alloc (.cells cs t)).alloc (.cells ds u)).drew.heap.size ((w.alloc (.cells cs t)).alloc (.cells ds u)).drew w') : w'.heap[w.heap.size]? = some (.cells cs t (0, 0)) := by
 obtain ⟨z1, _, _⟩ := two_allocs w (.cells cs t) (.cells ds u)
 exact (h.block _ (heap_some_lt z1)).trans z1
theorem bk3 {w w' : World} {cs ds : Array Value} {t u : TypeId} (h : Below ((w.alloc (.cells cs t)).alloc (.cells ds u)).drew.heap.size ((w.alloc (.cells cs t)).alloc (.cells ds u)).drew w') : w'.heap[w.heap.size + 1]? = some (.cells ds u (0, 0)) := by
 obtain ⟨_, z2, _⟩ := two_allocs w (.cells cs t) (.cells ds u)
 exact (h.block _ (heap_some_lt z2)).trans z2
theorem ck0 {w w' : World} {b : Nat} {o : Obj} (h : w.heap[b]? = some o) (hb : Below w.heap.size w w') : w'.heap[b]? = some o := (hb.block b (heap_some_lt h)).trans h
theorem ck1 {w w' : World} {b : Nat} {o p : Obj} (h : w.heap[b]? = some o) (hb : Below (w.alloc p).heap.size (w.alloc p) w') : w'.heap[b]? = some o := ck0 (((Below.refl w.heap.size w).alloc (Nat.le_refl _) p).block b (heap_some_lt h) |>.trans h) hb
theorem enter_rPut (vs : Array Value) (w : World) : (callFunc 15 vs).run Tryz.prog w = .ok (.enter 15 vs) w := by go_simp
theorem enter_rLevels (vs : Array Value) (w : World) : (callFunc 16 vs).run Tryz.prog w = .ok (.enter 16 vs) w := by go_simp
def Small (t : Tm) (ts : List Tm) (bys : List (List (Int × Int))) : Prop := t.count + Tm.countL ts ≤ 600 ∧ lensSum bys ≤ 600 ∧ t.count * (Tm.countL ts + 1) ≤ 60000
def TwoOwn (w4 : World) (u : Tm) (sa sb : Value) (wx : World) : Prop := ∃ (pa pb lo1 hi1 lo2 hi2 : Nat) (a1 a2 a3 : Int) (A1 A2 : Option Addr) (m1 e1 m2 e2 : Nat) (b1 b2 b3 : Int) (B1 B2 : Option Addr) (n1 f1 n2 f2 : Nat),
 sa = .pointer (some ⟨pa, 0, none⟩) ∧ sb = .pointer (some ⟨pb, 0, none⟩) ∧ wx.heap[pa]? = some (.cells #[.int .i64 a1, .int .i64 a2, .int .i64 a3, .slice A1 m1 e1, .slice A2 m2 e2] 26 (0, 0)) ∧ wx.heap[pb]? = some (.cells #[.int .i64 b1, .int .i64 b2, .int .i64 b3, .slice B1 n1 f1, .slice B2 n2 f2] 26 (0, 0)) ∧
 w4.heap.size ≤ lo1 ∧ OwnTm wx lo1 hi1 u (.agg #[.int .i64 a1, .int .i64 a2, .int .i64 a3, .slice A1 m1 e1, .slice A2 m2 e2]) ∧ hi1 ≤ lo2 ∧ OwnTm wx lo2 hi2 u (.agg #[.int .i64 b1, .int .i64 b2, .int .i64 b3, .slice B1 n1 f1, .slice B2 n2 f2]) ∧ hi2 ≤ wx.heap.size ∧ Below w4.heap.size w4 wx
theorem two_fin {w4 wA wB wx : World} {u : Tm} {pa pb lo1 lo2 : Nat} {a1 a2 a3 : Int} {A1 A2 : Option Addr} {m1 e1 m2 e2 : Nat} {b1 b2 b3 : Int} {B1 B2 : Option Addr} {n1 f1 n2 f2 : Nat} (hoA : OwnTm wA lo1 wA.heap.size u (.agg #[.int .i64 a1, .int .i64 a2, .int .i64 a3, .slice A1 m1 e1, .slice A2 m2 e2])) (hoB : OwnTm wB lo2 wB.heap.size u (.agg #[.int .i64 b1, .int .i64 b2, .int .i64 b3, .slice B1 n1 f1, .slice B2 n2 f2])) (h1 : w4.heap.size ≤ lo1) (h2 : wA.heap.size ≤ lo2) (hAB : Below wA.heap.size wA wB) (hk : ∀ b, b < wB.heap.size → b ≠ pa → b ≠ pb → wx.heap[b]? = wB.heap[b]?)
  (hpa : pa < lo1 ∨ (wA.heap.size ≤ pa ∧ pa < lo2) ∨ wB.heap.size ≤ pa) (hpb : pb < lo1 ∨ (wA.heap.size ≤ pb ∧ pb < lo2) ∨ wB.heap.size ≤ pb) (hca : wx.heap[pa]? = some (.cells #[.int .i64 a1, .int .i64 a2, .int .i64 a3, .slice A1 m1 e1, .slice A2 m2 e2] 26 (0, 0))) (hcb : wx.heap[pb]? = some (.cells #[.int .i64 b1, .int .i64 b2, .int .i64 b3, .slice B1 n1 f1, .slice B2 n2 f2] 26 (0, 0))) (hs : wB.heap.size ≤ wx.heap.size) (hB : Below w4.heap.size w4 wx) :
  TwoOwn w4 u (.pointer (some ⟨pa, 0, none⟩)) (.pointer (some ⟨pb, 0, none⟩)) wx := by
 have z1 := hAB.size
 have z2 := hoA.le
 have z3 := hoB.le
 exact ⟨pa, pb, lo1, wA.heap.size, lo2, wB.heap.size, a1, a2, a3, A1, A2, m1, e1, m2, e2, b1, b2, b3, B1, B2, n1, f1, n2, f2, rfl, rfl, hca, hcb, h1, (hoA.kept (keptIn_below hAB (Nat.le_refl _))).kept fun b q1 q2 => hk b (by omega) (by omega) (by omega), h2, hoB.kept fun b q1 q2 => hk b q2 (by omega) (by omega), hs, hB⟩
theorem box_store {w : World} {p : Nat} (h : w.heap[p]? = some (.cells #[.int .i64 0, .int .i64 0, .int .i64 0, .slice none 0 0, .slice none 0 0] 26 (0, 0))) (c0 c1 c2 c3 c4 : Value) : (((((w.setCell ⟨p, 0, none⟩ (c0)).setCell ⟨p, 1, none⟩ (c1)).setCell ⟨p, 2, none⟩ (c2)).setCell ⟨p, 3, none⟩ (c3)).setCell ⟨p, 4, none⟩ (c4)).heap.size = w.heap.size ∧ (((((w.setCell ⟨p, 0, none⟩ (c0)).setCell ⟨p, 1, none⟩ (c1)).setCell ⟨p, 2, none⟩ (c2)).setCell ⟨p, 3, none⟩ (c3)).setCell ⟨p, 4, none⟩ (c4)).heap[p]? = some (.cells #[c0, c1, c2, c3, c4] 26 (0, 0)) ∧ ∀ b, b ≠ p → (((((w.setCell ⟨p, 0, none⟩ (c0)).setCell ⟨p, 1, none⟩ (c1)).setCell ⟨p, 2, none⟩ (c2)).setCell ⟨p, 3, none⟩ (c3)).setCell ⟨p, 4, none⟩ (c4)).heap[b]? = w.heap[b]? := by
 obtain ⟨g, s, cur, q1, q2, q3⟩ := store5_post h (o := 0) (by simp) c0 c1 c2 c3 c4
 obtain rfl := cells5_eq (by rw [q2.1]; rfl) q3
 refine ⟨s, q1, fun b hb => ?_⟩
 exact (Below.heap_setCell _ _ _ b hb).trans ((Below.heap_setCell _ _ _ b hb).trans ((Below.heap_setCell _ _ _ b hb).trans ((Below.heap_setCell _ _ _ b hb).trans (Below.heap_setCell _ _ _ b hb))))
theorem fin_i {w4 wA wB : World} {u : Tm} {lo1 lo2 : Nat} {a1 a2 a3 : Int} {A1 A2 : Option Addr} {m1 e1 m2 e2 : Nat} {b1 b2 b3 : Int} {B1 B2 : Option Addr} {n1 f1 n2 f2 : Nat} (hoA : OwnTm wA lo1 wA.heap.size u (.agg #[.int .i64 a1, .int .i64 a2, .int .i64 a3, .slice A1 m1 e1, .slice A2 m2 e2])) (hoB : OwnTm wB lo2 wB.heap.size u (.agg #[.int .i64 b1, .int .i64 b2, .int .i64 b3, .slice B1 n1 f1, .slice B2 n2 f2])) (h1 : w4.heap.size ≤ lo1) (h2 : wA.heap.size ≤ lo2) (hAB : Below wA.heap.size wA wB) (hyB : Below w4.heap.size w4 wB) :
  TwoOwn w4 u (.pointer (some ⟨wB.heap.size, 0, none⟩)) (.pointer (some ⟨wB.heap.size + 1, 0, none⟩)) ((wB.alloc (.cells #[.int .i64 a1, .int .i64 a2, .int .i64 a3, .slice A1 m1 e1, .slice A2 m2 e2] 26)).alloc (.cells #[.int .i64 b1, .int .i64 b2, .int .i64 b3, .slice B1 n1 f1, .slice B2 n2 f2] 26)) := by
 obtain ⟨z1, z2, z3⟩ := two_allocs wB (.cells #[.int .i64 a1, .int .i64 a2, .int .i64 a3, .slice A1 m1 e1, .slice A2 m2 e2] 26) (.cells #[.int .i64 b1, .int .i64 b2, .int .i64 b3, .slice B1 n1 f1, .slice B2 n2 f2] 26)
 exact two_fin (pa := wB.heap.size) (pb := wB.heap.size + 1) hoA hoB h1 h2 hAB (fun b g1 _ _ => z3 b g1) (Or.inr (Or.inr (Nat.le_refl _))) (Or.inr (Or.inr (Nat.le_succ _))) z1 z2 (by simp; omega) (bel_alloc (bel_alloc hyB))
theorem fin_ir {w4 wA wB : World} {u : Tm} {lo1 lo2 : Nat} {a1 a2 a3 : Int} {A1 A2 : Option Addr} {m1 e1 m2 e2 : Nat} {b1 b2 b3 : Int} {B1 B2 : Option Addr} {n1 f1 n2 f2 : Nat} (hoA : OwnTm wA lo1 wA.heap.size u (.agg #[.int .i64 a1, .int .i64 a2, .int .i64 a3, .slice A1 m1 e1, .slice A2 m2 e2])) (hoB : OwnTm wB lo2 wB.heap.size u (.agg #[.int .i64 b1, .int .i64 b2, .int .i64 b3, .slice B1 n1 f1, .slice B2 n2 f2])) (h1 : w4.heap.size ≤ lo1) (h2 : wA.heap.size ≤ lo2) (hAB : Below wA.heap.size wA wB) (hyB : Below w4.heap.size w4 wB) :
  TwoOwn w4 u (.pointer (some ⟨wB.heap.size + 1, 0, none⟩)) (.pointer (some ⟨wB.heap.size, 0, none⟩)) ((wB.alloc (.cells #[.int .i64 b1, .int .i64 b2, .int .i64 b3, .slice B1 n1 f1, .slice B2 n2 f2] 26)).alloc (.cells #[.int .i64 a1, .int .i64 a2, .int .i64 a3, .slice A1 m1 e1, .slice A2 m2 e2] 26)) := by
 obtain ⟨z1, z2, z3⟩ := two_allocs wB (.cells #[.int .i64 b1, .int .i64 b2, .int .i64 b3, .slice B1 n1 f1, .slice B2 n2 f2] 26) (.cells #[.int .i64 a1, .int .i64 a2, .int .i64 a3, .slice A1 m1 e1, .slice A2 m2 e2] 26)
 exact two_fin (pa := wB.heap.size + 1) (pb := wB.heap.size) hoA hoB h1 h2 hAB (fun b g1 _ _ => z3 b g1) (Or.inr (Or.inr (Nat.le_succ _))) (Or.inr (Or.inr (Nat.le_refl _))) z2 z1 (by simp; omega) (bel_alloc (bel_alloc hyB))
theorem fin_iia {w4 wA wB : World} {u : Tm} {p0 lo1 lo2 : Nat} {a1 a2 a3 : Int} {A1 A2 : Option Addr} {m1 e1 m2 e2 : Nat} {b1 b2 b3 : Int} {B1 B2 : Option Addr} {n1 f1 n2 f2 : Nat} (hoA : OwnTm wA lo1 wA.heap.size u (.agg #[.int .i64 a1, .int .i64 a2, .int .i64 a3, .slice A1 m1 e1, .slice A2 m2 e2])) (hoB : OwnTm wB lo2 wB.heap.size u (.agg #[.int .i64 b1, .int .i64 b2, .int .i64 b3, .slice B1 n1 f1, .slice B2 n2 f2])) (h1 : w4.heap.size ≤ lo1) (h2 : wA.heap.size ≤ lo2) (hAB : Below wA.heap.size wA wB) (hyB : Below w4.heap.size w4 wB) (hq : wB.heap[p0]? = some (.cells #[.int .i64 0, .int .i64 0, .int .i64 0, .slice none 0 0, .slice none 0 0] 26 (0, 0))) (h4 : w4.heap.size ≤ p0) (hp : p0 < lo1 ∨ (wA.heap.size ≤ p0 ∧ p0 < lo2)) :
  TwoOwn w4 u (.pointer (some ⟨p0, 0, none⟩)) (.pointer (some ⟨wB.heap.size, 0, none⟩)) ((((((wB.setCell ⟨p0, 0, none⟩ (.int .i64 a1)).setCell ⟨p0, 1, none⟩ (.int .i64 a2)).setCell ⟨p0, 2, none⟩ (.int .i64 a3)).setCell ⟨p0, 3, none⟩ (.slice A1 m1 e1)).setCell ⟨p0, 4, none⟩ (.slice A2 m2 e2)).alloc (.cells #[.int .i64 b1, .int .i64 b2, .int .i64 b3, .slice B1 n1 f1, .slice B2 n2 f2] 26)) := by
 obtain ⟨q1, q2, q3⟩ := box_store hq (.int .i64 a1) (.int .i64 a2) (.int .i64 a3) (.slice A1 m1 e1) (.slice A2 m2 e2)
 obtain ⟨ws, hws⟩ : ∃ x, (((((wB.setCell ⟨p0, 0, none⟩ (.int .i64 a1)).setCell ⟨p0, 1, none⟩ (.int .i64 a2)).setCell ⟨p0, 2, none⟩ (.int .i64 a3)).setCell ⟨p0, 3, none⟩ (.slice A1 m1 e1)).setCell ⟨p0, 4, none⟩ (.slice A2 m2 e2)) = x := ⟨_, rfl⟩
 rw [hws] at q1 q2 q3 ⊢
 have hb : Below w4.heap.size w4 ws := by rw [← hws]; exact bel_set (bel_set (bel_set (bel_set (bel_set hyB h4) h4) h4) h4) h4
 have hlt := heap_some_lt hq
 have hbs : Below ws.heap.size ws (ws.alloc (.cells #[.int .i64 b1, .int .i64 b2, .int .i64 b3, .slice B1 n1 f1, .slice B2 n2 f2] 26)) := (Below.refl _ _).alloc (Nat.le_refl _) _
 have hz : (ws.alloc (.cells #[.int .i64 b1, .int .i64 b2, .int .i64 b3, .slice B1 n1 f1, .slice B2 n2 f2] 26)).heap[wB.heap.size]? = some (.cells #[.int .i64 b1, .int .i64 b2, .int .i64 b3, .slice B1 n1 f1, .slice B2 n2 f2] 26 (0, 0)) := by rw [← q1]; exact heap_alloc_new ws _
 refine two_fin (pa := p0) (pb := wB.heap.size) hoA hoB h1 h2 hAB (fun b g1 g2 g3 => (hbs.block b (by omega)).trans (q3 b (by omega))) (hp.imp id Or.inl) (Or.inr (Or.inr (Nat.le_refl _))) ((hbs.block _ (by omega)).trans q2) hz (by have := hbs.size; omega) (bel_alloc hb)
theorem fin_iib {w4 wA wB : World} {u : Tm} {p0 lo1 lo2 : Nat} {a1 a2 a3 : Int} {A1 A2 : Option Addr} {m1 e1 m2 e2 : Nat} {b1 b2 b3 : Int} {B1 B2 : Option Addr} {n1 f1 n2 f2 : Nat} (hoA : OwnTm wA lo1 wA.heap.size u (.agg #[.int .i64 a1, .int .i64 a2, .int .i64 a3, .slice A1 m1 e1, .slice A2 m2 e2])) (hoB : OwnTm wB lo2 wB.heap.size u (.agg #[.int .i64 b1, .int .i64 b2, .int .i64 b3, .slice B1 n1 f1, .slice B2 n2 f2])) (h1 : w4.heap.size ≤ lo1) (h2 : wA.heap.size ≤ lo2) (hAB : Below wA.heap.size wA wB) (hyB : Below w4.heap.size w4 wB) (hq : wB.heap[p0]? = some (.cells #[.int .i64 0, .int .i64 0, .int .i64 0, .slice none 0 0, .slice none 0 0] 26 (0, 0))) (h4 : w4.heap.size ≤ p0) (hp : p0 < lo1 ∨ (wA.heap.size ≤ p0 ∧ p0 < lo2)) :
  TwoOwn w4 u (.pointer (some ⟨wB.heap.size, 0, none⟩)) (.pointer (some ⟨p0, 0, none⟩)) ((((((wB.setCell ⟨p0, 0, none⟩ (.int .i64 b1)).setCell ⟨p0, 1, none⟩ (.int .i64 b2)).setCell ⟨p0, 2, none⟩ (.int .i64 b3)).setCell ⟨p0, 3, none⟩ (.slice B1 n1 f1)).setCell ⟨p0, 4, none⟩ (.slice B2 n2 f2)).alloc (.cells #[.int .i64 a1, .int .i64 a2, .int .i64 a3, .slice A1 m1 e1, .slice A2 m2 e2] 26)) := by
 obtain ⟨q1, q2, q3⟩ := box_store hq (.int .i64 b1) (.int .i64 b2) (.int .i64 b3) (.slice B1 n1 f1) (.slice B2 n2 f2)
 obtain ⟨ws, hws⟩ : ∃ x, (((((wB.setCell ⟨p0, 0, none⟩ (.int .i64 b1)).setCell ⟨p0, 1, none⟩ (.int .i64 b2)).setCell ⟨p0, 2, none⟩ (.int .i64 b3)).setCell ⟨p0, 3, none⟩ (.slice B1 n1 f1)).setCell ⟨p0, 4, none⟩ (.slice B2 n2 f2)) = x := ⟨_, rfl⟩
 rw [hws] at q1 q2 q3 ⊢
 have hb : Below w4.heap.size w4 ws := by rw [← hws]; exact bel_set (bel_set (bel_set (bel_set (bel_set hyB h4) h4) h4) h4) h4
 have hlt := heap_some_lt hq
 have hbs : Below ws.heap.size ws (ws.alloc (.cells #[.int .i64 a1, .int .i64 a2, .int .i64 a3, .slice A1 m1 e1, .slice A2 m2 e2] 26)) := (Below.refl _ _).alloc (Nat.le_refl _) _
 have hz : (ws.alloc (.cells #[.int .i64 a1, .int .i64 a2, .int .i64 a3, .slice A1 m1 e1, .slice A2 m2 e2] 26)).heap[wB.heap.size]? = some (.cells #[.int .i64 a1, .int .i64 a2, .int .i64 a3, .slice A1 m1 e1, .slice A2 m2 e2] 26 (0, 0)) := by rw [← q1]; exact heap_alloc_new ws _
 refine two_fin (pa := wB.heap.size) (pb := p0) hoA hoB h1 h2 hAB (fun b g1 g2 g3 => (hbs.block b (by omega)).trans (q3 b (by omega))) (Or.inr (Or.inr (Nat.le_refl _))) (hp.imp id Or.inl) hz ((hbs.block _ (by omega)).trans q2) (by have := hbs.size; omega) (bel_alloc hb)
theorem fin_iii {w4 wA wB : World} {u : Tm} {p0 p1 lo1 lo2 : Nat} {a1 a2 a3 : Int} {A1 A2 : Option Addr} {m1 e1 m2 e2 : Nat} {b1 b2 b3 : Int} {B1 B2 : Option Addr} {n1 f1 n2 f2 : Nat} (hoA : OwnTm wA lo1 wA.heap.size u (.agg #[.int .i64 a1, .int .i64 a2, .int .i64 a3, .slice A1 m1 e1, .slice A2 m2 e2])) (hoB : OwnTm wB lo2 wB.heap.size u (.agg #[.int .i64 b1, .int .i64 b2, .int .i64 b3, .slice B1 n1 f1, .slice B2 n2 f2])) (h1 : w4.heap.size ≤ lo1) (h2 : wA.heap.size ≤ lo2) (hAB : Below wA.heap.size wA wB) (hyB : Below w4.heap.size w4 wB) (hq : wB.heap[p0]? = some (.cells #[.int .i64 0, .int .i64 0, .int .i64 0, .slice none 0 0, .slice none 0 0] 26 (0, 0))) (hq1 : wB.heap[p1]? = some (.cells #[.int .i64 0, .int .i64 0, .int .i64 0, .slice none 0 0, .slice none 0 0] 26 (0, 0))) (h4 : w4.heap.size ≤ p0) (h5 : w4.heap.size ≤ p1) (hp : p0 < lo1 ∨ (wA.heap.size ≤ p0 ∧ p0 < lo2)) (hp1 : p1 < lo1 ∨ (wA.heap.size ≤ p1 ∧ p1 < lo2)) (hne : p0 ≠ p1) :
  TwoOwn w4 u (.pointer (some ⟨p0, 0, none⟩)) (.pointer (some ⟨p1, 0, none⟩)) ((((((((((wB.setCell ⟨p0, 0, none⟩ (.int .i64 a1)).setCell ⟨p0, 1, none⟩ (.int .i64 a2)).setCell ⟨p0, 2, none⟩ (.int .i64 a3)).setCell ⟨p0, 3, none⟩ (.slice A1 m1 e1)).setCell ⟨p0, 4, none⟩ (.slice A2 m2 e2)).setCell ⟨p1, 0, none⟩ (.int .i64 b1)).setCell ⟨p1, 1, none⟩ (.int .i64 b2)).setCell ⟨p1, 2, none⟩ (.int .i64 b3)).setCell ⟨p1, 3, none⟩ (.slice B1 n1 f1)).setCell ⟨p1, 4, none⟩ (.slice B2 n2 f2)) := by
 obtain ⟨q1, q2, q3⟩ := box_store hq (.int .i64 a1) (.int .i64 a2) (.int .i64 a3) (.slice A1 m1 e1) (.slice A2 m2 e2)
 obtain ⟨ws, hws⟩ : ∃ x, (((((wB.setCell ⟨p0, 0, none⟩ (.int .i64 a1)).setCell ⟨p0, 1, none⟩ (.int .i64 a2)).setCell ⟨p0, 2, none⟩ (.int .i64 a3)).setCell ⟨p0, 3, none⟩ (.slice A1 m1 e1)).setCell ⟨p0, 4, none⟩ (.slice A2 m2 e2)) = x := ⟨_, rfl⟩
 rw [hws] at q1 q2 q3 ⊢
 have hb : Below w4.heap.size w4 ws := by rw [← hws]; exact bel_set (bel_set (bel_set (bel_set (bel_set hyB h4) h4) h4) h4) h4
 obtain ⟨r1, r2, r3⟩ := box_store ((q3 p1 (Ne.symm hne)).trans hq1) (.int .i64 b1) (.int .i64 b2) (.int .i64 b3) (.slice B1 n1 f1) (.slice B2 n2 f2)
 exact two_fin (pa := p0) (pb := p1) hoA hoB h1 h2 hAB (fun b g1 g2 g3 => (r3 b g3).trans (q3 b g2)) (hp.imp id Or.inl) (hp1.imp id Or.inl) ((r3 p0 hne).trans q2) r2 (by omega) (bel_set (bel_set (bel_set (bel_set (bel_set hb h5) h5) h5) h5) h5)
theorem bal1 {w w' : World} {o : Obj} (h : Below (w.alloc o).heap.size (w.alloc o) w') : Below w.heap.size w w' := ((Below.refl w.heap.size w).alloc (Nat.le_refl _) o).trans (h.mono (by simp))
theorem bal2 {w w' : World} {o p : Obj} (h : Below ((w.alloc o).alloc p).heap.size ((w.alloc o).alloc p) w') : Below w.heap.size w w' := bal1 (bal1 h)
set_option maxHeartbeats 32000000 in
theorem tputs_of (t : Tm) (ts : List Tm) (bys : List (List (Int × Int))) (s0 s1 s2 s3 s4 : Value) (Ab Az : Option Addr) (nt cb nz cz : Nat) (w : World) (hK : KindsAll w) (ht : TmAt w w.heap.size t (.agg #[s0, s1, s2, s3, s4])) (hts : Tms w w.heap.size Ab cb ts) (hnt : ts.length = nt) (hz : Levs w w.heap.size Az bys) (hnz : bys.length = nz)
  (ft : t.fit) (fts : ∀ b ∈ ts, b.fit) (hc : Tm.countL (t :: ts) ≤ 1048576) (hl : lensSum bys ≤ 1048576) :
  Calls Tryz.prog 3 #[.agg #[s0, s1, s2, s3, s4], .slice Ab nt cb, .slice Az nz cz] w (HasPost w true) := by
 have h0 : 0 < w.heap.size := cell_lt (hK 0 (by decide)).1
 obtain ⟨w1, hw1⟩ : ∃ x, w.alloc (.cells #[s0, s1, s2, s3, s4] 26) = x := ⟨_, rfl⟩
 have hb1 : Below w.heap.size w w1 := by rw [← hw1]; exact (Below.refl _ _).alloc (Nat.le_refl _) _
 have hs1 : w.heap.size + 1 ≤ w1.heap.size ∧ w1.heap.size ≤ w.heap.size + 1 := by rw [← hw1]; simp
 have x0 : w1.heap[w.heap.size]? = some (.cells #[s0, s1, s2, s3, s4] 26 (0, 0)) := by rw [← hw1]; exact heap_alloc_new w _
 have BW : ∀ w', Below w1.heap.size w1 w' → Below w.heap.size w w' := fun w' hx => hb1.trans (hx.mono hb1.size)
 have TT : Hid (∀ w', Below w1.heap.size w1 w' → TmAt w' w'.heap.size t (.agg #[s0, s1, s2, s3, s4])) := fun w' hx => ht.below (BW w' hx) (BW w' hx).size
 have TTS : Hid (∀ w', Below w1.heap.size w1 w' → Tms w' w'.heap.size Ab cb ts) := fun w' hx => hts.below (BW w' hx) (BW w' hx).size
 have TZ : Hid (∀ w', Below w1.heap.size w1 w' → Levs w' w'.heap.size Az bys) := fun w' hx => (hz.below (BW w' hx)).more (BW w' hx).size
 have KK : Hid (∀ w', Below w1.heap.size w1 w' → KindsAll w') := fun w' hx => hK.below (BW w' hx) h0
 have HAW : Hid (∀ w', Below w1.heap.size w1 w' → Calls Tryz.prog 8 #[] w' (HasPost w' true)) := fun w' hx => awake_any w' (KK.out w' hx)
 have XB : Hid (∀ w', Below w1.heap.size w1 w' → w'.heap[w.heap.size]? = some (.cells #[s0, s1, s2, s3, s4] 26 (0, 0))) := fun w' hx => (hx.block _ (by omega)).trans x0
 have HBW := Lib.hid BW
 have HNT := Lib.hid hnt
 have HNZ := Lib.hid hnz
 have FT := Lib.hid ft
 have FTS := Lib.hid fts
 have hc' : t.count + Tm.countL ts ≤ 1048576 := by rw [Tm.countL] at hc; exact hc
 have hnt9 : nt ≤ 1048576 := by have := Tm.countL_length ts; omega
 have HC := Lib.hid hc'
 have HL := Lib.hid hl
 clear hK ht hts hnt hz hnz ft fts hc hl h0 hb1 BW hc'
 go_enter Tryz.func3, Tryz.ntmps3
 go_upto_region 1 with (fail)
 go_cut [32] from 14 to 32 (fun s wc => ∃ r : Bool, s = .bool r ∧ (r = false → Small t ts bys) ∧ Below w1.heap.size w1 wc)
 case first =>
  have y0 := cell_of_row _ _ 0 _ _ (0, 0) x0
  have y1 := cell_of_row _ _ 1 _ _ (0, 0) x0
  have y2 := cell_of_row _ _ 2 _ _ (0, 0) x0
  have y3 := cell_of_row _ _ 3 _ _ (0, 0) x0
  have y4 := cell_of_row _ _ 4 _ _ (0, 0) x0
  have hb2 : Below w1.heap.size w1 (w1.alloc (.cells #[s0, s1, s2, s3, s4] 26)) := (Below.refl _ _).alloc (Nat.le_refl _) _
  obtain ⟨v3, w3, hr3, hb3, hv3⟩ := append_tms 24 (full_one (TT.out w1 (Below.refl _ _))) (us := ts) (y := .slice Ab nt cb) ⟨Ab, cb, by rw [HNT.out], TTS.out _ hb2⟩ (by simp) (by simp) (by rw [HNT.out]; exact hnt9)
  obtain ⟨A3, c3, rfl, h3⟩ := hv3
  have hlen : ([t] ++ ts).length = nt + 1 := by rw [List.length_append, HNT.out, Nat.add_comm]; rfl
  rw [hlen] at hr3
  have hbb3 : Below w1.heap.size w1 w3 := hb2.trans (hb3.mono hb2.size)
  have HG : Hid (Calls Tryz.prog 4 #[.slice A3 (nt + 1) c3] w3 (HasPost w3 (decide (600 < Tm.countL ([t] ++ ts))))) := great_any _ A3 c3 _ w3 hlen (by have := HC.out; simp only [List.cons_append, List.nil_append, Tm.countL]; omega) h3
  obtain ⟨gr, hgr⟩ : ∃ x, decide (600 < Tm.countL ([t] ++ ts)) = x := ⟨_, rfl⟩
  rw [hgr] at HG
  have HGR := Lib.hid hgr
  have HR3 := Lib.hid hr3
  have HB3 := Lib.hid hbb3
  clear x0 hb2 hb3 hbb3 h3 hgr hr3 hlen
  go_wp2_with (at_builtin; refine wpList_append_run rfl _ _ 24 rfl _ _ rfl rfl HR3.out ?_)
  refine HG.out.mono ?_
  rintro e w4 ⟨rfl, hb4⟩
  have HB4 : Hid (Below w1.heap.size w1 w4) := HB3.out.trans (hb4.mono HB3.out.size)
  clear hb4 y0 y1 y2 y3 y4 HG HR3
  cases gr with
  | true =>
   go_wp2
   go_meet
   case rel => exact ⟨true, rfl, (fun h => by cases h), HB4.out⟩
  | false =>
   have HLO : Hid (Calls Tryz.prog 5 #[.slice Az nz cz, .int .i64 600] w4 (CountPost w4 (lensSum bys) 600)) := levelsOf_m Az bys cz 600 nz w4 HNZ.out HL.out (by decide) (TZ.out w4 HB4.out)
   go_wp2_with (fail)
   refine HLO.out.mono ?_
   rintro e w5 ⟨r1, rfl, h1, h2, hb5⟩
   have HB5 : Hid (Below w1.heap.size w1 w5) := HB4.out.trans (hb5.mono HB4.out.size)
   have H2 := Lib.hid h2
   clear hb5 h2 HLO
   by_cases hz6 : (600 : Int) < (r1 : Int)
   ·go_wp2
    go_meet
    case rel => exact ⟨true, rfl, (fun h => by cases h), HB5.out⟩
   ·have x5 := XB.out w5 HB5.out
    have y0 := cell_of_row _ _ 0 _ _ (0, 0) x5
    have y1 := cell_of_row _ _ 1 _ _ (0, 0) x5
    have y2 := cell_of_row _ _ 2 _ _ (0, 0) x5
    have y3 := cell_of_row _ _ 3 _ _ (0, 0) x5
    have y4 := cell_of_row _ _ 4 _ _ (0, 0) x5
    have HTO : Hid (Calls Tryz.prog 6 #[.agg #[s0, s1, s2, s3, s4], .int .i64 600] w5 (CountPost w5 t.count 600)) := termOf_any t (by have := HC.out; omega) 600 _ w5 (by decide) (TT.out w5 HB5.out)
    clear x5
    go_wp2_with (fail)
    refine HTO.out.mono ?_
    rintro e w6 ⟨r2, rfl, h3, h4, hb6⟩
    have HB6 : Hid (Below w1.heap.size w1 w6) := HB5.out.trans (hb6.mono HB5.out.size)
    have H4 := Lib.hid h4
    have HTSO : Hid (Calls Tryz.prog 7 #[.slice Ab nt cb, .int .i64 600] w6 (CountPost w6 (Tm.countL ts) 600)) := termsOf_any ts Ab cb 600 nt w6 HNT.out (by have := HC.out; omega) (by decide) (TTS.out w6 HB6.out)
    clear hb6 h4 HTO y0 y1 y2 y3 y4
    go_wp2_with (fail)
    refine HTSO.out.mono ?_
    rintro e w7 ⟨r3, rfl, h5, h6, hb7⟩
    have HB7 : Hid (Below w1.heap.size w1 w7) := HB6.out.trans (hb7.mono HB6.out.size)
    obtain ⟨p, hp⟩ : ∃ p, r2 * (r3 + 1) = p := ⟨_, rfl⟩
    have hcc := HC.out
    have hp9 : p ≤ 1048576 * 1048577 := by rw [← hp]; exact Nat.mul_le_mul (by omega) (by omega)
    have q1 : IntKind.i64.wrap ((r3 : Int) + 1) = (r3 : Int) + 1 := IntWalk.i64_in _ (by omega)
    have hpi : (r2 : Int) * ((r3 : Int) + 1) = (p : Int) := by rw [← hp]; simp
    have q2 : IntKind.i64.wrap ((r2 : Int) * ((r3 : Int) + 1)) = (p : Int) := by rw [hpi]; exact IntWalk.i64_in _ (by omega)
    have HPP : Hid (p ≤ 60000 → Small t ts bys) := fun hp6 => by
     have g1 := of_decide_eq_false HGR.out
     have g2 : Tm.countL ([t] ++ ts) = t.count + Tm.countL ts := by simp only [List.cons_append, List.nil_append, Tm.countL]
     have e1 := H2.out (by omega)
     have e2 := H4.out (by omega)
     have e3 := h6 (by omega)
     refine ⟨by omega, by omega, ?_⟩
     rw [← e2, ← e3, hp]
     exact hp6
    clear hb7 h6 hp hpi hcc HTSO
    by_cases hp6 : (60000 : Int) < (p : Int)
    ·go_wp2
     go_meet
     case rel => exact ⟨true, rfl, (fun h => by cases h), HB7.out⟩
    ·have HSM := Lib.hid (HPP.out (by omega))
     go_wp2
     go_meet
     case rel => exact ⟨false, by first | rfl | (rw [decide_eq_false (by omega : ¬ (600 : Int) < (r1 : Int)), decide_eq_false (by omega : ¬ (60000 : Int) < (p : Int))]; rfl), (fun _ => HSM.out), HB7.out⟩
 case rest =>
  obtain ⟨r, rfl, hr, hbz⟩ := hcut
  have HBC := Lib.hid hbz
  clear hbz x0
  cases r with
  | true =>
   clear hr
   go_wp2_with (fail)
   refine (HAW.out _ HBC.out).mono ?_
   rintro e w3 ⟨rfl, hb3⟩
   have HF : Hid (HasPost w true (.returned (.bool true)) w3) := ⟨rfl, HBW.out _ (HBC.out.trans (hb3.mono HBC.out.size))⟩
   clear hb3
   go_wp2
   go_ret
   exact HF.out
  | false =>
   have HSM := Lib.hid (hr rfl)
   obtain ⟨m1, m2, m3⟩ := hr rfl
   have hnz9 : nz ≤ 600 := by have := lensSum_length bys; have := HNZ.out; omega
   have hnt6 : nt ≤ 600 := by have := Tm.countL_length ts; have := HNT.out; omega
   have H60 : Hid (∀ l ∈ bys, l.length ≤ 600) := fun l hl => lensSum_small hl m2
   clear hr m3
   have x5 := XB.out _ HBC.out
   have y0 := cell_of_row _ _ 0 _ _ (0, 0) x5
   have y1 := cell_of_row _ _ 1 _ _ (0, 0) x5
   have y2 := cell_of_row _ _ 2 _ _ (0, 0) x5
   have y3 := cell_of_row _ _ 3 _ _ (0, 0) x5
   have y4 := cell_of_row _ _ 4 _ _ (0, 0) x5
   have HC1 := Lib.hid (lentTerm_any t _ wc (by omega) (TT.out wc HBC.out))
   clear x5
   go_wp2_with (fail)
   refine HC1.out.mono ?_
   rintro e wa ⟨vx, rfl, hlx, hba⟩
   have HBA : Hid (Below w1.heap.size w1 wa) := HBC.out.trans (hba.mono HBC.out.size)
   have HC2 := Lib.hid (lentTerms_any ts Ab cb nt wa HNT.out (by omega) (TTS.out wa HBA.out))
   have HLX := Lib.hid hlx
   clear hlx hba HC1 y0 y1 y2 y3 y4
   go_wp2_with (fail)
   refine HC2.out.mono ?_
   rintro e wb ⟨gy, ky, rfl, hly, hbb⟩
   have HBB : Hid (Below w1.heap.size w1 wb) := HBA.out.trans (hbb.mono HBA.out.size)
   have HC3 := Lib.hid (lentLevels_any Az bys cz nz wb HNZ.out (by omega) (fun l hl => by have := H60.out l hl; omega) (TZ.out wb HBB.out))
   have HLX2 := Lib.hid (HLX.out.below hbb)
   have HLY := Lib.hid hly
   clear hly hbb HC2 HLX
   go_wp2_with (fail)
   refine HC3.out.mono ?_
   rintro e wd ⟨gz, kz, rfl, hlz, hbd⟩
   have HBD : Hid (Below w1.heap.size w1 wd) := HBB.out.trans (hbd.mono HBB.out.size)
   have HLX3 := Lib.hid (HLX2.out.below hbd)
   have HLY3 := Lib.hid (HLY.out.below hbd)
   have HLZ := Lib.hid hlz
   clear hlz hbd HC3 HLX2 HLY
   obtain ⟨i1, i2, i3, X1, X2, j1, d1, j2, d2, rfl⟩ := lent_shape HLX3.out
   go_upto_region 4 with (fail)
   obtain ⟨w4, hw4⟩ : ∃ x, wd.alloc (.cells #[.int .i64 i1, .int .i64 i2, .int .i64 i3, .slice X1 j1 d1, .slice X2 j2 d2] 26) = x := ⟨_, rfl⟩
   obtain ⟨gx, hgx⟩ : ∃ x, wd.heap.size = x := ⟨_, rfl⟩
   have hb4 : Below wd.heap.size wd w4 := by rw [← hw4]; exact (Below.refl _ _).alloc (Nat.le_refl _) _
   have x4 : w4.heap[gx]? = some (.cells #[.int .i64 i1, .int .i64 i2, .int .i64 i3, .slice X1 j1 d1, .slice X2 j2 d2] 26 (0, 0)) := by rw [← hw4, ← hgx]; exact heap_alloc_new wd _
   have HB4 : Hid (Below w1.heap.size w1 w4) := HBD.out.trans (hb4.mono HBD.out.size)
   have HLX4 := Lib.hid (HLX3.out.below hb4)
   have HLY4 := Lib.hid (HLY3.out.below hb4)
   have HLZ4 := Lib.hid (HLZ.out.below hb4)
   rw [hw4]
   first | rw [hgx] | skip
   clear hb4 HLX3 HLY3 HLZ HBD HBB HBA hw4 hgx
   have hgx4 := heap_some_lt x4
   have X4 := Lib.hid x4
   have B14 : Hid (∀ w', Below w4.heap.size w4 w' → Below w1.heap.size w1 w') := fun w' hx => HB4.out.trans (hx.mono HB4.out.size)
   have LX : Hid (∀ w', Below w4.heap.size w4 w' → TmAt w' w'.heap.size t (.agg #[.int .i64 i1, .int .i64 i2, .int .i64 i3, .slice X1 j1 d1, .slice X2 j2 d2])) := fun w' hx => (HLX4.out.below hx).tm _ (by have := HSM.out.1; omega)
   have LY : Hid (∀ w', Below w4.heap.size w4 w' → Tms w' w'.heap.size (some ⟨gy, 0, none⟩) ky ts) := fun w' hx => (HLY4.out.below hx).tms HNT.out (by have := HSM.out.1; omega)
   have LZ : Hid (∀ w', Below w4.heap.size w4 w' → Levs w' w'.heap.size (some ⟨gz, 0, none⟩) bys) := fun w' hx => (HLZ4.out.below hx).levs HNZ.out (fun l hl => by have := H60.out l hl; omega)
   have HB9 : Hid (∀ b ∈ bys, b.length ≤ 900) := fun b hb => by have := H60.out b hb; omega
   have hsz := Tm.size_le_count t
   have HBF : Hid (∀ b ∈ ts, b.fit ∧ b.size ≤ 1073741824) := fun b hb => ⟨FTS.out b hb, by have := Tm.countL_mem hb; have := Tm.size_le_count b; omega⟩
   obtain ⟨tp, htp⟩ : ∃ u, t.walk (putT ts) 0 = u := ⟨_, rfl⟩
   obtain ⟨tl, htl⟩ : ∃ u, t.walk (levT bys) 0 = u := ⟨_, rfl⟩
   have HTP := Lib.hid htp
   have HTL := Lib.hid htl
   have CP : Hid (∀ wq, Below w4.heap.size w4 wq → Calls Tryz.prog 12 #[.agg #[.int .i64 i1, .int .i64 i2, .int .i64 i3, .slice X1 j1 d1, .slice X2 j2 d2], .slice (some ⟨gy, 0, none⟩) nt ky] wq (fun e w' => ∃ (a1 a2 a3 : Int) (A1 A2 : Option Addr) (m1 e1 m2 e2 : Nat), e = .returned (.agg #[.int .i64 a1, .int .i64 a2, .int .i64 a3, .slice A1 m1 e1, .slice A2 m2 e2]) ∧ OwnTm w' wq.heap.size w'.heap.size tp (.agg #[.int .i64 a1, .int .i64 a2, .int .i64 a3, .slice A1 m1 e1, .slice A2 m2 e2]) ∧ Below wq.heap.size wq w' ∧ Below w4.heap.size w4 w')) := fun wq hx => by
    have h := putTm_any t ts FT.out _ (some ⟨gy, 0, none⟩) nt ky wq (by omega) (KK.out wq (B14.out wq hx)).binds (LX.out wq hx) HNT.out hnt9 (LY.out wq hx) HBF.out
    rw [HTP.out] at h
    refine h.mono ?_
    rintro e w' ⟨v, h1, h2, h3⟩
    obtain ⟨a1, a2, a3, A1, A2, m1, e1, m2, e2, rfl⟩ := own_shape h2
    exact ⟨a1, a2, a3, A1, A2, m1, e1, m2, e2, h1, h2, h3, hx.trans (h3.mono hx.size)⟩
   have CL : Hid (∀ wq, Below w4.heap.size w4 wq → Calls Tryz.prog 13 #[.agg #[.int .i64 i1, .int .i64 i2, .int .i64 i3, .slice X1 j1 d1, .slice X2 j2 d2], .slice (some ⟨gz, 0, none⟩) nz kz] wq (fun e w' => ∃ (a1 a2 a3 : Int) (A1 A2 : Option Addr) (m1 e1 m2 e2 : Nat), e = .returned (.agg #[.int .i64 a1, .int .i64 a2, .int .i64 a3, .slice A1 m1 e1, .slice A2 m2 e2]) ∧ OwnTm w' wq.heap.size w'.heap.size tl (.agg #[.int .i64 a1, .int .i64 a2, .int .i64 a3, .slice A1 m1 e1, .slice A2 m2 e2]) ∧ Below wq.heap.size wq w' ∧ Below w4.heap.size w4 w')) := fun wq hx => by
    have h := levels_any t bys FT.out _ (some ⟨gz, 0, none⟩) nz kz wq (by omega) (KK.out wq (B14.out wq hx)).binds (LX.out wq hx) HNZ.out ⟨by have := HNZ.out; omega, fun b hb => by have := H60.out b hb; omega⟩ (LZ.out wq hx)
    rw [HTL.out] at h
    refine h.mono ?_
    rintro e w' ⟨v, h1, h2, h3⟩
    obtain ⟨a1, a2, a3, A1, A2, m1, e1, m2, e2, rfl⟩ := own_shape h2
    exact ⟨a1, a2, a3, A1, A2, m1, e1, m2, e2, h1, h2, h3, hx.trans (h3.mono hx.size)⟩
   clear htp htl x4
   have HS4 : Hid (∀ w', Below w4.heap.size w4 w' → (fun w' => w'.cell? ⟨gx, 0, none⟩ = some (.int .i64 i1) ∧ w'.cell? ⟨gx, 1, none⟩ = some (.int .i64 i2) ∧ w'.cell? ⟨gx, 2, none⟩ = some (.int .i64 i3) ∧ w'.cell? ⟨gx, 3, none⟩ = some (.slice X1 j1 d1) ∧ w'.cell? ⟨gx, 4, none⟩ = some (.slice X2 j2 d2)) w') := fun w' hx => by
    have h : w'.heap[gx]? = some (.cells #[.int .i64 i1, .int .i64 i2, .int .i64 i3, .slice X1 j1 d1, .slice X2 j2 d2] 26 (0, 0)) := (hx.block _ (heap_some_lt X4.out)).trans X4.out
    exact ⟨cell_of_row _ _ 0 _ _ (0, 0) h, cell_of_row _ _ 1 _ _ (0, 0) h, cell_of_row _ _ 2 _ _ (0, 0) h, cell_of_row _ _ 3 _ _ (0, 0) h, cell_of_row _ _ 4 _ _ (0, 0) h⟩
   have HD4 : Hid (Below w4.heap.size w4 w4.drew) := (Below.refl _ _).drew
   obtain ⟨z0, z1, z2, z3, z4⟩ := HS4.out w4 (Below.refl _ _)
   go_cut [10, 11] from 40 to 45 (fun sa sb wx => TwoOwn w4 tp sa sb wx)
   case first =>
    go_region_held3 (fun w' => w'.cell? ⟨gx, 0, none⟩ = some (.int .i64 i1) ∧ w'.cell? ⟨gx, 1, none⟩ = some (.int .i64 i2) ∧ w'.cell? ⟨gx, 2, none⟩ = some (.int .i64 i3) ∧ w'.cell? ⟨gx, 3, none⟩ = some (.slice X1 j1 d1) ∧ w'.cell? ⟨gx, 4, none⟩ = some (.slice X2 j2 d2))
     (first | (apply HS4.out; (repeat' with_reducible first | assumption | exact Below.refl _ _ | apply bel_alloc | apply bel_drew | apply bel_set | exact Nat.le_refl _ | exact Nat.le_succ _ | (apply Nat.le_succ_of_le; assumption))))
     (first
       | (go_at_call 12; have gg := hyA; refine (CP.out _ ?_).mono ?_; (focus (repeat' with_reducible first | assumption | exact Below.refl _ _ | apply bel_alloc | apply bel_drew | apply bel_set | exact Nat.le_refl _ | exact Nat.le_succ _ | (apply Nat.le_succ_of_le; assumption))); rintro e wB ⟨b1, b2, b3, B1, B2, n1, f1, n2, f2, rfl, hoB, hxB, hyB⟩; have hzB := hyB.size
          try (have P0 := Lib.hid (ck0 Q0.out hxB); have pc0 := cell_of_row _ _ 0 _ _ (0, 0) P0.out; have pt0 := thawed P0.out 0; have pc1 := cell_of_row _ _ 1 _ _ (0, 0) P0.out; have pt1 := thawed P0.out 1; have pc2 := cell_of_row _ _ 2 _ _ (0, 0) P0.out; have pt2 := thawed P0.out 2; have pc3 := cell_of_row _ _ 3 _ _ (0, 0) P0.out; have pt3 := thawed P0.out 3; have pc4 := cell_of_row _ _ 4 _ _ (0, 0) P0.out; have pt4 := thawed P0.out 4; have pne := Nat.ne_of_lt (heap_some_lt P0.out); have pnf := Ne.symm pne; have pnl := heap_some_lt P0.out)
          try (have P0 := Lib.hid (ck1 Q0.out hxB); have pc0 := cell_of_row _ _ 0 _ _ (0, 0) P0.out; have pt0 := thawed P0.out 0; have pc1 := cell_of_row _ _ 1 _ _ (0, 0) P0.out; have pt1 := thawed P0.out 1; have pc2 := cell_of_row _ _ 2 _ _ (0, 0) P0.out; have pt2 := thawed P0.out 2; have pc3 := cell_of_row _ _ 3 _ _ (0, 0) P0.out; have pt3 := thawed P0.out 3; have pc4 := cell_of_row _ _ 4 _ _ (0, 0) P0.out; have pt4 := thawed P0.out 4; have pne := Nat.ne_of_lt (heap_some_lt P0.out); have pnf := Ne.symm pne; have pnl := heap_some_lt P0.out)
          try (have P1 := Lib.hid (ck0 Q1.out hxB); have qc0 := cell_of_row _ _ 0 _ _ (0, 0) P1.out; have qt0 := thawed P1.out 0; have qc1 := cell_of_row _ _ 1 _ _ (0, 0) P1.out; have qt1 := thawed P1.out 1; have qc2 := cell_of_row _ _ 2 _ _ (0, 0) P1.out; have qt2 := thawed P1.out 2; have qc3 := cell_of_row _ _ 3 _ _ (0, 0) P1.out; have qt3 := thawed P1.out 3; have qc4 := cell_of_row _ _ 4 _ _ (0, 0) P1.out; have qt4 := thawed P1.out 4; have qne := Nat.ne_of_lt (heap_some_lt P1.out); have qnf := Ne.symm qne; have qnl := heap_some_lt P1.out)
          try (have R0 := Lib.hid (bn1 hxB); have rc0 := cell_of_row _ _ 0 _ _ (0, 0) R0.out; have rt0 := thawed R0.out 0; have rc1 := cell_of_row _ _ 1 _ _ (0, 0) R0.out; have rt1 := thawed R0.out 1; have rc2 := cell_of_row _ _ 2 _ _ (0, 0) R0.out; have rt2 := thawed R0.out 2; have rc3 := cell_of_row _ _ 3 _ _ (0, 0) R0.out; have rt3 := thawed R0.out 3; have rc4 := cell_of_row _ _ 4 _ _ (0, 0) R0.out; have rt4 := thawed R0.out 4; have rne := Nat.ne_of_lt (heap_some_lt R0.out); have rnf := Ne.symm rne; have rnl := heap_some_lt R0.out)
          try (have R0 := Lib.hid (bn2 hxB); have rc0 := cell_of_row _ _ 0 _ _ (0, 0) R0.out; have rt0 := thawed R0.out 0; have rc1 := cell_of_row _ _ 1 _ _ (0, 0) R0.out; have rt1 := thawed R0.out 1; have rc2 := cell_of_row _ _ 2 _ _ (0, 0) R0.out; have rt2 := thawed R0.out 2; have rc3 := cell_of_row _ _ 3 _ _ (0, 0) R0.out; have rt3 := thawed R0.out 3; have rc4 := cell_of_row _ _ 4 _ _ (0, 0) R0.out; have rt4 := thawed R0.out 4; have rne := Nat.ne_of_lt (heap_some_lt R0.out); have rnf := Ne.symm rne; have rnl := heap_some_lt R0.out)
          try (have R1 := Lib.hid (bn3 hxB); have sc0 := cell_of_row _ _ 0 _ _ (0, 0) R1.out; have st0 := thawed R1.out 0; have sc1 := cell_of_row _ _ 1 _ _ (0, 0) R1.out; have st1 := thawed R1.out 1; have sc2 := cell_of_row _ _ 2 _ _ (0, 0) R1.out; have st2 := thawed R1.out 2; have sc3 := cell_of_row _ _ 3 _ _ (0, 0) R1.out; have st3 := thawed R1.out 3; have sc4 := cell_of_row _ _ 4 _ _ (0, 0) R1.out; have st4 := thawed R1.out 4; have sne := Nat.ne_of_lt (heap_some_lt R1.out); have snf := Ne.symm sne; have snl := heap_some_lt R1.out))
       | (go_at_call 12; refine (CP.out _ ?_).mono ?_; (focus (repeat' with_reducible first | assumption | exact Below.refl _ _ | apply bel_alloc | apply bel_drew | apply bel_set | exact Nat.le_refl _ | exact Nat.le_succ _ | (apply Nat.le_succ_of_le; assumption))); rintro e wA ⟨a1, a2, a3, A1, A2, m1, e1, m2, e2, rfl, hoA, hxA, hyA⟩; have hzA := hyA.size
          try (have Q0 := Lib.hid (bk1 hxA); have uc0 := cell_of_row _ _ 0 _ _ (0, 0) Q0.out; have ut0 := thawed Q0.out 0; have uc1 := cell_of_row _ _ 1 _ _ (0, 0) Q0.out; have ut1 := thawed Q0.out 1; have uc2 := cell_of_row _ _ 2 _ _ (0, 0) Q0.out; have ut2 := thawed Q0.out 2; have uc3 := cell_of_row _ _ 3 _ _ (0, 0) Q0.out; have ut3 := thawed Q0.out 3; have uc4 := cell_of_row _ _ 4 _ _ (0, 0) Q0.out; have ut4 := thawed Q0.out 4; have une := Nat.ne_of_lt (heap_some_lt Q0.out); have unf := Ne.symm une; have unl := heap_some_lt Q0.out)
          try (have Q0 := Lib.hid (bk2 hxA); have uc0 := cell_of_row _ _ 0 _ _ (0, 0) Q0.out; have ut0 := thawed Q0.out 0; have uc1 := cell_of_row _ _ 1 _ _ (0, 0) Q0.out; have ut1 := thawed Q0.out 1; have uc2 := cell_of_row _ _ 2 _ _ (0, 0) Q0.out; have ut2 := thawed Q0.out 2; have uc3 := cell_of_row _ _ 3 _ _ (0, 0) Q0.out; have ut3 := thawed Q0.out 3; have uc4 := cell_of_row _ _ 4 _ _ (0, 0) Q0.out; have ut4 := thawed Q0.out 4; have une := Nat.ne_of_lt (heap_some_lt Q0.out); have unf := Ne.symm une; have unl := heap_some_lt Q0.out)
          try (have Q1 := Lib.hid (bk3 hxA); have vc0 := cell_of_row _ _ 0 _ _ (0, 0) Q1.out; have vt0 := thawed Q1.out 0; have vc1 := cell_of_row _ _ 1 _ _ (0, 0) Q1.out; have vt1 := thawed Q1.out 1; have vc2 := cell_of_row _ _ 2 _ _ (0, 0) Q1.out; have vt2 := thawed Q1.out 2; have vc3 := cell_of_row _ _ 3 _ _ (0, 0) Q1.out; have vt3 := thawed Q1.out 3; have vc4 := cell_of_row _ _ 4 _ _ (0, 0) Q1.out; have vt4 := thawed Q1.out 4; have vne := Nat.ne_of_lt (heap_some_lt Q1.out); have vnf := Ne.symm vne; have vnl := heap_some_lt Q1.out)))
    all_goals
     have hAB : Below wA.heap.size wA wB := by first | exact hxB | exact bal1 hxB | exact bal2 hxB
     have hzAB := hAB.size
     go_wp2_with fail
     go_meet
     case rel =>
      first
       | (with_reducible refine fin_i hoA hoB ?_ ?_ hAB hyB <;> first | (simp; done) | (simp; omega) | omega)
       | (with_reducible refine fin_ir hoA hoB ?_ ?_ hAB hyB <;> first | (simp; done) | (simp; omega) | omega)
       | (with_reducible refine fin_iia hoA hoB ?_ ?_ hAB hyB P0.out ?_ ?_ <;> first | (simp; done) | (simp; omega) | omega)
       | (with_reducible refine fin_iib hoA hoB ?_ ?_ hAB hyB P0.out ?_ ?_ <;> first | (simp; done) | (simp; omega) | omega)
       | (with_reducible refine fin_iia hoA hoB ?_ ?_ hAB hyB P1.out ?_ ?_ <;> first | (simp; done) | (simp; omega) | omega)
       | (with_reducible refine fin_iib hoA hoB ?_ ?_ hAB hyB P1.out ?_ ?_ <;> first | (simp; done) | (simp; omega) | omega)
       | (with_reducible refine fin_iia hoA hoB ?_ ?_ hAB hyB R0.out ?_ ?_ <;> first | (simp; done) | (simp; omega) | omega)
       | (with_reducible refine fin_iib hoA hoB ?_ ?_ hAB hyB R0.out ?_ ?_ <;> first | (simp; done) | (simp; omega) | omega)
       | (with_reducible refine fin_iia hoA hoB ?_ ?_ hAB hyB R1.out ?_ ?_ <;> first | (simp; done) | (simp; omega) | omega)
       | (with_reducible refine fin_iib hoA hoB ?_ ?_ hAB hyB R1.out ?_ ?_ <;> first | (simp; done) | (simp; omega) | omega)
       | (with_reducible refine fin_iii hoA hoB ?_ ?_ hAB hyB P0.out P1.out ?_ ?_ ?_ ?_ ?_ <;> first | (simp; done) | (simp; omega) | omega)
       | (with_reducible refine fin_iii hoA hoB ?_ ?_ hAB hyB P0.out R0.out ?_ ?_ ?_ ?_ ?_ <;> first | (simp; done) | (simp; omega) | omega)
       | (with_reducible refine fin_iii hoA hoB ?_ ?_ hAB hyB P0.out R1.out ?_ ?_ ?_ ?_ ?_ <;> first | (simp; done) | (simp; omega) | omega)
       | (with_reducible refine fin_iii hoA hoB ?_ ?_ hAB hyB P1.out P0.out ?_ ?_ ?_ ?_ ?_ <;> first | (simp; done) | (simp; omega) | omega)
       | (with_reducible refine fin_iii hoA hoB ?_ ?_ hAB hyB P1.out R0.out ?_ ?_ ?_ ?_ ?_ <;> first | (simp; done) | (simp; omega) | omega)
       | (with_reducible refine fin_iii hoA hoB ?_ ?_ hAB hyB P1.out R1.out ?_ ?_ ?_ ?_ ?_ <;> first | (simp; done) | (simp; omega) | omega)
       | (with_reducible refine fin_iii hoA hoB ?_ ?_ hAB hyB R0.out P0.out ?_ ?_ ?_ ?_ ?_ <;> first | (simp; done) | (simp; omega) | omega)
       | (with_reducible refine fin_iii hoA hoB ?_ ?_ hAB hyB R0.out P1.out ?_ ?_ ?_ ?_ ?_ <;> first | (simp; done) | (simp; omega) | omega)
       | (with_reducible refine fin_iii hoA hoB ?_ ?_ hAB hyB R0.out R1.out ?_ ?_ ?_ ?_ ?_ <;> first | (simp; done) | (simp; omega) | omega)
       | (with_reducible refine fin_iii hoA hoB ?_ ?_ hAB hyB R1.out P0.out ?_ ?_ ?_ ?_ ?_ <;> first | (simp; done) | (simp; omega) | omega)
       | (with_reducible refine fin_iii hoA hoB ?_ ?_ hAB hyB R1.out P1.out ?_ ?_ ?_ ?_ ?_ <;> first | (simp; done) | (simp; omega) | omega)
       | (with_reducible refine fin_iii hoA hoB ?_ ?_ hAB hyB R1.out R0.out ?_ ?_ ?_ ?_ ?_ <;> first | (simp; done) | (simp; omega) | omega)
   case rest =>
    obtain ⟨pa, pb, la1, ha1, la2, ha2, xa1, xa2, xa3, XA1, XA2, ya1, za1, ya2, za2, xb1, xb2, xb3, XB1, XB2, yb1, zb1, yb2, zb2, rfl, rfl, hca, hcb, hla, hoa, hlb, hob, hhb, hbc⟩ := hcut
    obtain ⟨w5, hw5⟩ : ∃ x, x = wc := ⟨_, rfl⟩
    rw [← hw5] at hca hcb hoa hob hhb hbc ⊢
    clear hw5 z0 z1 z2 z3 z4
    have CA5 := Lib.hid hca
    have CB5 := Lib.hid hcb
    have OA5 := Lib.hid hoa
    have OB5 := Lib.hid hob
    have B45 := Lib.hid hbc
    have X5 : Hid (w5.heap[gx]? = some (.cells #[.int .i64 i1, .int .i64 i2, .int .i64 i3, .slice X1 j1 d1, .slice X2 j2 d2] 26 (0, 0))) := (hbc.block _ hgx4).trans X4.out
    have hgx5 := heap_some_lt X5.out
    have z45 := hbc.size
    have CL5 : Hid (∀ wq, Below w5.heap.size w5 wq → Calls Tryz.prog 13 #[.agg #[.int .i64 i1, .int .i64 i2, .int .i64 i3, .slice X1 j1 d1, .slice X2 j2 d2], .slice (some ⟨gz, 0, none⟩) nz kz] wq (fun e w' => ∃ (a1 a2 a3 : Int) (A1 A2 : Option Addr) (m1 e1 m2 e2 : Nat), e = .returned (.agg #[.int .i64 a1, .int .i64 a2, .int .i64 a3, .slice A1 m1 e1, .slice A2 m2 e2]) ∧ OwnTm w' wq.heap.size w'.heap.size tl (.agg #[.int .i64 a1, .int .i64 a2, .int .i64 a3, .slice A1 m1 e1, .slice A2 m2 e2]) ∧ Below wq.heap.size wq w' ∧ Below w5.heap.size w5 w')) := fun wq hx => by
     refine (CL.out wq (B45.out.trans (hx.mono z45))).mono ?_
     rintro e w' ⟨a1, a2, a3, A1, A2, m1, e1, m2, e2, h1, h2, h3, _⟩
     exact ⟨a1, a2, a3, A1, A2, m1, e1, m2, e2, h1, h2, h3, hx.trans (h3.mono hx.size)⟩
    clear hca hcb hoa hob hbc
    go_upto_region 5 with (fail)
    have HS5 : Hid (∀ w', Below w5.heap.size w5 w' → (fun w' => w'.cell? ⟨gx, 0, none⟩ = some (.int .i64 i1) ∧ w'.cell? ⟨gx, 1, none⟩ = some (.int .i64 i2) ∧ w'.cell? ⟨gx, 2, none⟩ = some (.int .i64 i3) ∧ w'.cell? ⟨gx, 3, none⟩ = some (.slice X1 j1 d1) ∧ w'.cell? ⟨gx, 4, none⟩ = some (.slice X2 j2 d2)) w') := fun w' hx => by
     have h : w'.heap[gx]? = some (.cells #[.int .i64 i1, .int .i64 i2, .int .i64 i3, .slice X1 j1 d1, .slice X2 j2 d2] 26 (0, 0)) := (hx.block _ (heap_some_lt X5.out)).trans X5.out
     exact ⟨cell_of_row _ _ 0 _ _ (0, 0) h, cell_of_row _ _ 1 _ _ (0, 0) h, cell_of_row _ _ 2 _ _ (0, 0) h, cell_of_row _ _ 3 _ _ (0, 0) h, cell_of_row _ _ 4 _ _ (0, 0) h⟩
    have HD5 : Hid (Below w5.heap.size w5 w5.drew) := (Below.refl _ _).drew
    obtain ⟨z0, z1, z2, z3, z4⟩ := HS5.out w5 (Below.refl _ _)
    go_cut [12, 13] from 46 to 51 (fun sa sb wx => TwoOwn w5 tl sa sb wx)
    case first =>
     go_region_held3 (fun w' => w'.cell? ⟨gx, 0, none⟩ = some (.int .i64 i1) ∧ w'.cell? ⟨gx, 1, none⟩ = some (.int .i64 i2) ∧ w'.cell? ⟨gx, 2, none⟩ = some (.int .i64 i3) ∧ w'.cell? ⟨gx, 3, none⟩ = some (.slice X1 j1 d1) ∧ w'.cell? ⟨gx, 4, none⟩ = some (.slice X2 j2 d2))
      (first | (apply HS5.out; (repeat' with_reducible first | assumption | exact Below.refl _ _ | apply bel_alloc | apply bel_drew | apply bel_set | exact Nat.le_refl _ | exact Nat.le_succ _ | (apply Nat.le_succ_of_le; assumption))))
      (first
        | (go_at_call 13; have gg := hyA; refine (CL5.out _ ?_).mono ?_; (focus (repeat' with_reducible first | assumption | exact Below.refl _ _ | apply bel_alloc | apply bel_drew | apply bel_set | exact Nat.le_refl _ | exact Nat.le_succ _ | (apply Nat.le_succ_of_le; assumption))); rintro e wB ⟨b1, b2, b3, B1, B2, n1, f1, n2, f2, rfl, hoB, hxB, hyB⟩; have hzB := hyB.size
           try (have P0 := Lib.hid (ck0 Q0.out hxB); have pc0 := cell_of_row _ _ 0 _ _ (0, 0) P0.out; have pt0 := thawed P0.out 0; have pc1 := cell_of_row _ _ 1 _ _ (0, 0) P0.out; have pt1 := thawed P0.out 1; have pc2 := cell_of_row _ _ 2 _ _ (0, 0) P0.out; have pt2 := thawed P0.out 2; have pc3 := cell_of_row _ _ 3 _ _ (0, 0) P0.out; have pt3 := thawed P0.out 3; have pc4 := cell_of_row _ _ 4 _ _ (0, 0) P0.out; have pt4 := thawed P0.out 4; have pne := Nat.ne_of_lt (heap_some_lt P0.out); have pnf := Ne.symm pne; have pnl := heap_some_lt P0.out)
           try (have P0 := Lib.hid (ck1 Q0.out hxB); have pc0 := cell_of_row _ _ 0 _ _ (0, 0) P0.out; have pt0 := thawed P0.out 0; have pc1 := cell_of_row _ _ 1 _ _ (0, 0) P0.out; have pt1 := thawed P0.out 1; have pc2 := cell_of_row _ _ 2 _ _ (0, 0) P0.out; have pt2 := thawed P0.out 2; have pc3 := cell_of_row _ _ 3 _ _ (0, 0) P0.out; have pt3 := thawed P0.out 3; have pc4 := cell_of_row _ _ 4 _ _ (0, 0) P0.out; have pt4 := thawed P0.out 4; have pne := Nat.ne_of_lt (heap_some_lt P0.out); have pnf := Ne.symm pne; have pnl := heap_some_lt P0.out)
           try (have P1 := Lib.hid (ck0 Q1.out hxB); have qc0 := cell_of_row _ _ 0 _ _ (0, 0) P1.out; have qt0 := thawed P1.out 0; have qc1 := cell_of_row _ _ 1 _ _ (0, 0) P1.out; have qt1 := thawed P1.out 1; have qc2 := cell_of_row _ _ 2 _ _ (0, 0) P1.out; have qt2 := thawed P1.out 2; have qc3 := cell_of_row _ _ 3 _ _ (0, 0) P1.out; have qt3 := thawed P1.out 3; have qc4 := cell_of_row _ _ 4 _ _ (0, 0) P1.out; have qt4 := thawed P1.out 4; have qne := Nat.ne_of_lt (heap_some_lt P1.out); have qnf := Ne.symm qne; have qnl := heap_some_lt P1.out)
           try (have R0 := Lib.hid (bn1 hxB); have rc0 := cell_of_row _ _ 0 _ _ (0, 0) R0.out; have rt0 := thawed R0.out 0; have rc1 := cell_of_row _ _ 1 _ _ (0, 0) R0.out; have rt1 := thawed R0.out 1; have rc2 := cell_of_row _ _ 2 _ _ (0, 0) R0.out; have rt2 := thawed R0.out 2; have rc3 := cell_of_row _ _ 3 _ _ (0, 0) R0.out; have rt3 := thawed R0.out 3; have rc4 := cell_of_row _ _ 4 _ _ (0, 0) R0.out; have rt4 := thawed R0.out 4; have rne := Nat.ne_of_lt (heap_some_lt R0.out); have rnf := Ne.symm rne; have rnl := heap_some_lt R0.out)
           try (have R0 := Lib.hid (bn2 hxB); have rc0 := cell_of_row _ _ 0 _ _ (0, 0) R0.out; have rt0 := thawed R0.out 0; have rc1 := cell_of_row _ _ 1 _ _ (0, 0) R0.out; have rt1 := thawed R0.out 1; have rc2 := cell_of_row _ _ 2 _ _ (0, 0) R0.out; have rt2 := thawed R0.out 2; have rc3 := cell_of_row _ _ 3 _ _ (0, 0) R0.out; have rt3 := thawed R0.out 3; have rc4 := cell_of_row _ _ 4 _ _ (0, 0) R0.out; have rt4 := thawed R0.out 4; have rne := Nat.ne_of_lt (heap_some_lt R0.out); have rnf := Ne.symm rne; have rnl := heap_some_lt R0.out)
           try (have R1 := Lib.hid (bn3 hxB); have sc0 := cell_of_row _ _ 0 _ _ (0, 0) R1.out; have st0 := thawed R1.out 0; have sc1 := cell_of_row _ _ 1 _ _ (0, 0) R1.out; have st1 := thawed R1.out 1; have sc2 := cell_of_row _ _ 2 _ _ (0, 0) R1.out; have st2 := thawed R1.out 2; have sc3 := cell_of_row _ _ 3 _ _ (0, 0) R1.out; have st3 := thawed R1.out 3; have sc4 := cell_of_row _ _ 4 _ _ (0, 0) R1.out; have st4 := thawed R1.out 4; have sne := Nat.ne_of_lt (heap_some_lt R1.out); have snf := Ne.symm sne; have snl := heap_some_lt R1.out))
        | (go_at_call 13; refine (CL5.out _ ?_).mono ?_; (focus (repeat' with_reducible first | assumption | exact Below.refl _ _ | apply bel_alloc | apply bel_drew | apply bel_set | exact Nat.le_refl _ | exact Nat.le_succ _ | (apply Nat.le_succ_of_le; assumption))); rintro e wA ⟨a1, a2, a3, A1, A2, m1, e1, m2, e2, rfl, hoA, hxA, hyA⟩; have hzA := hyA.size
           try (have Q0 := Lib.hid (bk1 hxA); have uc0 := cell_of_row _ _ 0 _ _ (0, 0) Q0.out; have ut0 := thawed Q0.out 0; have uc1 := cell_of_row _ _ 1 _ _ (0, 0) Q0.out; have ut1 := thawed Q0.out 1; have uc2 := cell_of_row _ _ 2 _ _ (0, 0) Q0.out; have ut2 := thawed Q0.out 2; have uc3 := cell_of_row _ _ 3 _ _ (0, 0) Q0.out; have ut3 := thawed Q0.out 3; have uc4 := cell_of_row _ _ 4 _ _ (0, 0) Q0.out; have ut4 := thawed Q0.out 4; have une := Nat.ne_of_lt (heap_some_lt Q0.out); have unf := Ne.symm une; have unl := heap_some_lt Q0.out)
           try (have Q0 := Lib.hid (bk2 hxA); have uc0 := cell_of_row _ _ 0 _ _ (0, 0) Q0.out; have ut0 := thawed Q0.out 0; have uc1 := cell_of_row _ _ 1 _ _ (0, 0) Q0.out; have ut1 := thawed Q0.out 1; have uc2 := cell_of_row _ _ 2 _ _ (0, 0) Q0.out; have ut2 := thawed Q0.out 2; have uc3 := cell_of_row _ _ 3 _ _ (0, 0) Q0.out; have ut3 := thawed Q0.out 3; have uc4 := cell_of_row _ _ 4 _ _ (0, 0) Q0.out; have ut4 := thawed Q0.out 4; have une := Nat.ne_of_lt (heap_some_lt Q0.out); have unf := Ne.symm une; have unl := heap_some_lt Q0.out)
           try (have Q1 := Lib.hid (bk3 hxA); have vc0 := cell_of_row _ _ 0 _ _ (0, 0) Q1.out; have vt0 := thawed Q1.out 0; have vc1 := cell_of_row _ _ 1 _ _ (0, 0) Q1.out; have vt1 := thawed Q1.out 1; have vc2 := cell_of_row _ _ 2 _ _ (0, 0) Q1.out; have vt2 := thawed Q1.out 2; have vc3 := cell_of_row _ _ 3 _ _ (0, 0) Q1.out; have vt3 := thawed Q1.out 3; have vc4 := cell_of_row _ _ 4 _ _ (0, 0) Q1.out; have vt4 := thawed Q1.out 4; have vne := Nat.ne_of_lt (heap_some_lt Q1.out); have vnf := Ne.symm vne; have vnl := heap_some_lt Q1.out)))
     all_goals
      have hAB : Below wA.heap.size wA wB := by first | exact hxB | exact bal1 hxB | exact bal2 hxB
      have hzAB := hAB.size
      go_wp2_with fail
      go_meet
      case rel =>
       first
        | (with_reducible refine fin_i hoA hoB ?_ ?_ hAB hyB <;> first | (simp; done) | (simp; omega) | omega)
        | (with_reducible refine fin_ir hoA hoB ?_ ?_ hAB hyB <;> first | (simp; done) | (simp; omega) | omega)
        | (with_reducible refine fin_iia hoA hoB ?_ ?_ hAB hyB P0.out ?_ ?_ <;> first | (simp; done) | (simp; omega) | omega)
        | (with_reducible refine fin_iib hoA hoB ?_ ?_ hAB hyB P0.out ?_ ?_ <;> first | (simp; done) | (simp; omega) | omega)
        | (with_reducible refine fin_iia hoA hoB ?_ ?_ hAB hyB P1.out ?_ ?_ <;> first | (simp; done) | (simp; omega) | omega)
        | (with_reducible refine fin_iib hoA hoB ?_ ?_ hAB hyB P1.out ?_ ?_ <;> first | (simp; done) | (simp; omega) | omega)
        | (with_reducible refine fin_iia hoA hoB ?_ ?_ hAB hyB R0.out ?_ ?_ <;> first | (simp; done) | (simp; omega) | omega)
        | (with_reducible refine fin_iib hoA hoB ?_ ?_ hAB hyB R0.out ?_ ?_ <;> first | (simp; done) | (simp; omega) | omega)
        | (with_reducible refine fin_iia hoA hoB ?_ ?_ hAB hyB R1.out ?_ ?_ <;> first | (simp; done) | (simp; omega) | omega)
        | (with_reducible refine fin_iib hoA hoB ?_ ?_ hAB hyB R1.out ?_ ?_ <;> first | (simp; done) | (simp; omega) | omega)
        | (with_reducible refine fin_iii hoA hoB ?_ ?_ hAB hyB P0.out P1.out ?_ ?_ ?_ ?_ ?_ <;> first | (simp; done) | (simp; omega) | omega)
        | (with_reducible refine fin_iii hoA hoB ?_ ?_ hAB hyB P0.out R0.out ?_ ?_ ?_ ?_ ?_ <;> first | (simp; done) | (simp; omega) | omega)
        | (with_reducible refine fin_iii hoA hoB ?_ ?_ hAB hyB P0.out R1.out ?_ ?_ ?_ ?_ ?_ <;> first | (simp; done) | (simp; omega) | omega)
        | (with_reducible refine fin_iii hoA hoB ?_ ?_ hAB hyB P1.out P0.out ?_ ?_ ?_ ?_ ?_ <;> first | (simp; done) | (simp; omega) | omega)
        | (with_reducible refine fin_iii hoA hoB ?_ ?_ hAB hyB P1.out R0.out ?_ ?_ ?_ ?_ ?_ <;> first | (simp; done) | (simp; omega) | omega)
        | (with_reducible refine fin_iii hoA hoB ?_ ?_ hAB hyB P1.out R1.out ?_ ?_ ?_ ?_ ?_ <;> first | (simp; done) | (simp; omega) | omega)
        | (with_reducible refine fin_iii hoA hoB ?_ ?_ hAB hyB R0.out P0.out ?_ ?_ ?_ ?_ ?_ <;> first | (simp; done) | (simp; omega) | omega)
        | (with_reducible refine fin_iii hoA hoB ?_ ?_ hAB hyB R0.out P1.out ?_ ?_ ?_ ?_ ?_ <;> first | (simp; done) | (simp; omega) | omega)
        | (with_reducible refine fin_iii hoA hoB ?_ ?_ hAB hyB R0.out R1.out ?_ ?_ ?_ ?_ ?_ <;> first | (simp; done) | (simp; omega) | omega)
        | (with_reducible refine fin_iii hoA hoB ?_ ?_ hAB hyB R1.out P0.out ?_ ?_ ?_ ?_ ?_ <;> first | (simp; done) | (simp; omega) | omega)
        | (with_reducible refine fin_iii hoA hoB ?_ ?_ hAB hyB R1.out P1.out ?_ ?_ ?_ ?_ ?_ <;> first | (simp; done) | (simp; omega) | omega)
        | (with_reducible refine fin_iii hoA hoB ?_ ?_ hAB hyB R1.out R0.out ?_ ?_ ?_ ?_ ?_ <;> first | (simp; done) | (simp; omega) | omega)
    case rest =>
     obtain ⟨pc, pd, lc1, hc1, lc2, hc2, xc1, xc2, xc3, XC1, XC2, yc1, zc1, yc2, zc2, xd1, xd2, xd3, XD1, XD2, yd1, zd1, yd2, zd2, rfl, rfl, hcc, hcd, hlc, hoc, hld, hod, hhd, hbd⟩ := hcut
     obtain ⟨w6, hw6⟩ : ∃ x, x = wc := ⟨_, rfl⟩
     rw [← hw6] at hcc hcd hoc hod hhd hbd ⊢
     clear hw6 z0 z1 z2 z3 z4
     have z56 := hbd.size
     have CC6 := Lib.hid hcc
     have CD6 := Lib.hid hcd
     have OC6 := Lib.hid hoc
     have OD6 := Lib.hid hod
     have CA6 := Lib.hid ((hbd.block _ (heap_some_lt CA5.out)).trans CA5.out)
     have CB6 := Lib.hid ((hbd.block _ (heap_some_lt CB5.out)).trans CB5.out)
     have OA6 : Hid (OwnTm w6 la1 ha1 tp (.agg #[.int .i64 xa1, .int .i64 xa2, .int .i64 xa3, .slice XA1 ya1 za1, .slice XA2 ya2 za2])) := OA5.out.kept (keptIn_below hbd (by have := OB5.out.le; omega))
     have OB6 : Hid (OwnTm w6 la2 ha2 tp (.agg #[.int .i64 xb1, .int .i64 xb2, .int .i64 xb3, .slice XB1 yb1 zb1, .slice XB2 yb2 zb2])) := OB5.out.kept (keptIn_below hbd hhb)
     have X6 : Hid (w6.heap[gx]? = some (.cells #[.int .i64 i1, .int .i64 i2, .int .i64 i3, .slice X1 j1 d1, .slice X2 j2 d2] 26 (0, 0))) := (hbd.block _ (heap_some_lt X5.out)).trans X5.out
     have B46 : Hid (Below w4.heap.size w4 w6) := B45.out.trans (hbd.mono z45)
     have B16 : Hid (∀ w', Below w6.heap.size w6 w' → Below w1.heap.size w1 w') := fun w' hx => B14.out w' (B46.out.trans (hx.mono B46.out.size))
     have XT6 : Hid (w6.heap[w.heap.size]? = some (.cells #[s0, s1, s2, s3, s4] 26 (0, 0))) := XB.out _ (B16.out _ (Below.refl _ _))
     have FTP : Hid tp.fit := by
      show tp.fit
      rw [← HTP.out]
      exact fit_putT FTS.out (by rw [HNT.out]; exact hnt9) t 0 FT.out
     have FTL : Hid tl.fit := by
      show tl.fit
      rw [← HTL.out]
      exact fit_levT HB9.out t 0 FT.out (by have := HSM.out.1; omega)
     have CRP : Hid (∀ w', Below w6.heap.size w6 w' → Calls Tryz.prog 15 #[.agg #[s0, s1, s2, s3, s4], .slice Ab nt cb] w' (fun e w'' => ∃ v, e = .returned v ∧ Below w6.heap.size w6 w'' ∧ Below w'.heap.size w' w'' ∧ RefV 0 tp v w'')) := fun w' hx => by
      have h := rPut_any ts t Ab nt cb _ w' FT.out (by omega) (TT.out w' (B16.out w' hx)) HNT.out hnt9 (TTS.out w' (B16.out w' hx)) HBF.out
      rw [HTP.out] at h
      refine h.mono ?_
      rintro e w'' ⟨v, h1, h2, h3⟩
      exact ⟨v, h1, hx.trans (h3.mono hx.size), h3, RefV.of (TmAt.mono (Nat.le_refl _) (Cut.to fun b _ _ q2 => ⟨Nat.zero_le _, q2, rfl⟩) h2)⟩
     have CRL : Hid (∀ w', Below w6.heap.size w6 w' → Calls Tryz.prog 16 #[.agg #[s0, s1, s2, s3, s4], .slice Az nz cz] w' (fun e w'' => ∃ v, e = .returned v ∧ Below w6.heap.size w6 w'' ∧ Below w'.heap.size w' w'' ∧ RefV 0 tl v w'')) := fun w' hx => by
      have h := rLevels_any bys t Az nz cz 0 _ w' FT.out (by have := HSM.out.1; omega) (TT.out w' (B16.out w' hx)) HNZ.out (by omega) HB9.out (TZ.out w' (B16.out w' hx))
      rw [HTL.out] at h
      refine h.mono ?_
      rintro e w'' ⟨v, h1, h2, h3⟩
      exact ⟨v, h1, hx.trans (h3.mono hx.size), h3, RefV.of (TmAt.mono (Nat.le_refl _) (Cut.to fun b _ _ q2 => ⟨Nat.zero_le _, q2, rfl⟩) h2)⟩
     have CSA : Hid (∀ (w' : World) (x : Value), Below w6.heap.size w6 w' → TmAt (Cut 0 none w') w'.heap.size tp x → Calls Tryz.prog 14 #[.agg #[.int .i64 xa1, .int .i64 xa2, .int .i64 xa3, .slice XA1 ya1 za1, .slice XA2 ya2 za2], x] w' (HasPost w' true)) := fun w' x hx h => by
      have ha := (OA6.out.kept (keptIn_below hx (by have := OB6.out.le; omega))).tmAt
      exact same2_any tp tp _ _ w' true FTP.out FTP.out (TmAt.keep (by have := OB6.out.le; have := hx.size; omega) (fun _ _ => rfl) _ _ ha) (TmAt.mono (Nat.le_refl _) (Cut.more _ _ _ _) h) (by simp)
     have CSC : Hid (∀ (w' : World) (x : Value), Below w6.heap.size w6 w' → TmAt (Cut 0 none w') w'.heap.size tl x → Calls Tryz.prog 14 #[.agg #[.int .i64 xc1, .int .i64 xc2, .int .i64 xc3, .slice XC1 yc1 zc1, .slice XC2 yc2 zc2], x] w' (HasPost w' true)) := fun w' x hx h => by
      have ha := (OC6.out.kept (keptIn_below hx (by have := OD6.out.le; omega))).tmAt
      exact same2_any tl tl _ _ w' true FTL.out FTL.out (TmAt.keep (by have := OD6.out.le; have := hx.size; omega) (fun _ _ => rfl) _ _ ha) (TmAt.mono (Nat.le_refl _) (Cut.more _ _ _ _) h) (by simp)
     have hS : Below w6.heap.size w6 w6.drew := (Below.refl _ _).drew
     clear hcc hcd hoc hod hbd
     go_upto_region 6 with (fail)
     refine wp_region_tab (fun w' => Below w6.heap.size w6 w') BR [(Is (.agg #[.int .i64 xa1, .int .i64 xa2, .int .i64 xa3, .slice XA1 ya1 za1, .slice XA2 ya2 za2])), (Is (.agg #[s0, s1, s2, s3, s4])), (Is (.slice Ab nt cb)), (fun (x : Value) (w : World) => RefV 0 tp x w), (Is (.bool true)), (Is (.bool false)), (Is (.bool false)), (Is (.agg #[.int .i64 xc1, .int .i64 xc2, .int .i64 xc3, .slice XC1 yc1 zc1, .slice XC2 yc2 zc2])), (Is (.agg #[s0, s1, s2, s3, s4])), (Is (.slice Az nz cz)), (fun (x : Value) (w : World) => RefV 0 tl x w), (Is (.bool true)), (Is (.bool false)), (Is (.bool false))] [⟨some 52, .load 26 (.tmp 10), none, []⟩, ⟨some 53, .load 26 (.tmp 3), none, []⟩, ⟨some 54, .move (.tmp 1), none, []⟩, ⟨some 55, .call { callee := .value (.func 15), args := #[.tmp 53, .tmp 54], argTypes := #[26, 24] }, none, [(53, 1), (54, 2)]⟩, ⟨some 56, .call { callee := .value (.func 14), args := #[.tmp 52, .tmp 55], argTypes := #[26, 26] }, none, [(52, 0), (55, 3)]⟩, ⟨some 57, .unOp .not 4 (.tmp 56), none, [(56, 4)]⟩, ⟨some 58, .move (.tmp 57), none, [(57, 5)]⟩, ⟨some 59, .load 26 (.tmp 12), some (some 58, false), [(58, 6)]⟩, ⟨some 60, .load 26 (.tmp 3), some (some 58, false), [(58, 6)]⟩, ⟨some 61, .move (.tmp 2), some (some 58, false), [(58, 6)]⟩, ⟨some 62, .call { callee := .value (.func 16), args := #[.tmp 60, .tmp 61], argTypes := #[26, 23] }, some (some 58, false), [(58, 6), (60, 8), (61, 9)]⟩, ⟨some 63, .call { callee := .value (.func 14), args := #[.tmp 59, .tmp 62], argTypes := #[26, 26] }, some (some 58, false), [(58, 6), (59, 7), (62, 10)]⟩, ⟨some 64, .unOp .not 4 (.tmp 63), some (some 58, false), [(58, 6), (63, 11)]⟩, ⟨some 65, .pick (.tmp 58) (.const (Value.bool true)) (.tmp 64), none, [(58, 6), (64, 12)]⟩] [some 52, some 53, some 54, some 55, some 56, some 57, some 58, some 59, some 60, some 61, some 62, some 63, some 64, some 65] (by kernel_rfl) (by kernel_rfl) (by kernel_rfl) (by kernel_rfl) (by kernel_rfl) ?hS ?hmono ?hsteps ?hfin
     case hS => exact hS
     case hmono =>
      iterate 3 refine .cons (fun x w1 w2 _ _ _ hx => hx) ?_
      refine .cons (fun x w1 w2 _ _ hR hx => ?_) ?_
      ·exact hx.mono hR
      iterate 6 refine .cons (fun x w1 w2 _ _ _ hx => hx) ?_
      refine .cons (fun x w1 w2 _ _ hR hx => ?_) ?_
      ·exact hx.mono hR
      iterate 3 refine .cons (fun x w1 w2 _ _ _ hx => hx) ?_
      exact .nil
     case hsteps =>
      refine .cons (Is (.agg #[.int .i64 xa1, .int .i64 xa2, .int .i64 xa3, .slice XA1 ya1 za1, .slice XA2 ya2 za2])) [] rfl rfl (fun oq hop _ wq hQS => ?_) ?_
      ·exact .load hop (p := (.pointer (some ⟨pa, 0, none⟩))) (by kernel_rfl) (load_box CA6.out hQS) (by kernel_rfl) hQS (.refl _ _) rfl
      refine .cons (Is (.agg #[s0, s1, s2, s3, s4])) [] rfl rfl (fun oq hop _ wq hQS => ?_) ?_
      ·exact .load hop (p := (.pointer (some ⟨w.heap.size, 0, none⟩))) (by kernel_rfl) (load_box XT6.out hQS) (by kernel_rfl) hQS (.refl _ _) rfl
      refine .cons (Is (.slice Ab nt cb)) [] rfl rfl (fun oq hop _ wq hQS => ?_) ?_
      ·exact .move hop (v := (.slice Ab nt cb)) (by kernel_rfl) (by kernel_rfl) hQS (.refl _ _) rfl
      refine .cons (fun (x : Value) (w : World) => RefV 0 tp x w) _ rfl rfl (fun oq hop _ wq hQS => ?_) ?_
      ·refine .more_eq (.agg #[s0, s1, s2, s3, s4]) (.more_eq (.slice Ab nt cb) ?_)
       exact .call hop (vs := [(.agg #[s0, s1, s2, s3, s4]), (.slice Ab nt cb)]) (by kernel_rfl) (fun w => enter_rPut _ w) (by kernel_rfl) (CRP.out wq hQS)
      refine .cons (Is (.bool true)) _ rfl rfl (fun oq hop _ wq hQS => ?_) ?_
      ·refine .more_eq (.agg #[.int .i64 xa1, .int .i64 xa2, .int .i64 xa3, .slice XA1 ya1 za1, .slice XA2 ya2 za2]) ?_
       refine .more fun x55 h55 => ?_
       obtain ⟨k55, n55, a55, A55, p55, c55, B55, q55, d55, rfl, hl55⟩ := h55
       exact .call hop (vs := [(.agg #[.int .i64 xa1, .int .i64 xa2, .int .i64 xa3, .slice XA1 ya1 za1, .slice XA2 ya2 za2]), (.agg #[.int .i64 k55, .int .i64 n55, .int .i64 a55, .slice A55 p55 c55, .slice B55 q55 d55])]) (by kernel_rfl) (fun w => enter_sameTm2 _ w) (by kernel_rfl) ((CSA.out wq _ hQS hl55).mono fun e w9 h9 => ⟨_, h9.1, hQS.trans (h9.2.mono hQS.size), h9.2, rfl⟩)
      refine .cons (Is (.bool false)) _ rfl rfl (fun oq hop _ wq hQS => ?_) ?_
      ·refine .more_eq (.bool true) ?_
       exact .not hop (b := true) (by kernel_rfl) (by kernel_rfl) hQS (.refl _ _) rfl
      refine .cons (Is (.bool false)) _ rfl rfl (fun oq hop _ wq hQS => ?_) ?_
      ·refine .more_eq (.bool false) ?_
       exact .move hop (v := (.bool false)) (by kernel_rfl) (by kernel_rfl) hQS (.refl _ _) rfl
      refine .cons (Is (.agg #[.int .i64 xc1, .int .i64 xc2, .int .i64 xc3, .slice XC1 yc1 zc1, .slice XC2 yc2 zc2])) _ rfl rfl (fun oq hop _ wq hQS => ?_) ?_
      ·refine .more_eq (.bool false) ?_
       exact .load hop (p := (.pointer (some ⟨pc, 0, none⟩))) (by kernel_rfl) (load_box CC6.out hQS) (by kernel_rfl) hQS (.refl _ _) rfl
      refine .cons (Is (.agg #[s0, s1, s2, s3, s4])) _ rfl rfl (fun oq hop _ wq hQS => ?_) ?_
      ·refine .more_eq (.bool false) ?_
       exact .load hop (p := (.pointer (some ⟨w.heap.size, 0, none⟩))) (by kernel_rfl) (load_box XT6.out hQS) (by kernel_rfl) hQS (.refl _ _) rfl
      refine .cons (Is (.slice Az nz cz)) _ rfl rfl (fun oq hop _ wq hQS => ?_) ?_
      ·refine .more_eq (.bool false) ?_
       exact .move hop (v := (.slice Az nz cz)) (by kernel_rfl) (by kernel_rfl) hQS (.refl _ _) rfl
      refine .cons (fun (x : Value) (w : World) => RefV 0 tl x w) _ rfl rfl (fun oq hop _ wq hQS => ?_) ?_
      ·refine .more_eq (.bool false) (.more_eq (.agg #[s0, s1, s2, s3, s4]) (.more_eq (.slice Az nz cz) ?_))
       exact .call hop (vs := [(.agg #[s0, s1, s2, s3, s4]), (.slice Az nz cz)]) (by kernel_rfl) (fun w => enter_rLevels _ w) (by kernel_rfl) (CRL.out wq hQS)
      refine .cons (Is (.bool true)) _ rfl rfl (fun oq hop _ wq hQS => ?_) ?_
      ·refine .more_eq (.bool false) (.more_eq (.agg #[.int .i64 xc1, .int .i64 xc2, .int .i64 xc3, .slice XC1 yc1 zc1, .slice XC2 yc2 zc2]) ?_)
       refine .more fun x62 h62 => ?_
       obtain ⟨k62, n62, a62, A62, p62, c62, B62, q62, d62, rfl, hl62⟩ := h62
       exact .call hop (vs := [(.agg #[.int .i64 xc1, .int .i64 xc2, .int .i64 xc3, .slice XC1 yc1 zc1, .slice XC2 yc2 zc2]), (.agg #[.int .i64 k62, .int .i64 n62, .int .i64 a62, .slice A62 p62 c62, .slice B62 q62 d62])]) (by kernel_rfl) (fun w => enter_sameTm2 _ w) (by kernel_rfl) ((CSC.out wq _ hQS hl62).mono fun e w9 h9 => ⟨_, h9.1, hQS.trans (h9.2.mono hQS.size), h9.2, rfl⟩)
      refine .cons (Is (.bool false)) _ rfl rfl (fun oq hop _ wq hQS => ?_) ?_
      ·refine .more_eq (.bool false) (.more_eq (.bool true) ?_)
       exact .not hop (b := true) (by kernel_rfl) (by kernel_rfl) hQS (.refl _ _) rfl
      refine .cons (Is (.bool false)) _ rfl rfl (fun oq hop _ wq hQS => ?_) ?_
      ·refine .more_eq (.bool false) (.more_eq (.bool false) ?_)
       exact .pick hop (b := false) (vx := (.bool true)) (vy := (.bool false)) (by kernel_rfl) (by kernel_rfl) (by kernel_rfl) (by kernel_rfl) hQS (.refl _ _) rfl
      exact .nil
     case hfin =>
      intro wf hFS
      iterate 13 refine .more fun _ _ => ?_
      refine .more fun x65 h65 => ?_
      refine .done ?_
      obtain rfl : x65 = (.bool false) := h65
      have z6f := hFS.size
      have HF6 := Lib.hid hFS
      simp only [Act.put, List.setIfInBounds_toArray, List.set_cons_zero, List.set_cons_succ]
      clear hS hFS
      go_upto_region 8 with (fail)
      obtain ⟨w8, hw8⟩ : ∃ x, x = wf := ⟨_, rfl⟩
      rw [← hw8] at HF6 z6f ⊢
      clear hw8
      have hfs := HF6.out
      have CA8 := Lib.hid ((hfs.block _ (heap_some_lt CA6.out)).trans CA6.out)
      have CB8 := Lib.hid ((hfs.block _ (heap_some_lt CB6.out)).trans CB6.out)
      have CC8 := Lib.hid ((hfs.block _ (heap_some_lt CC6.out)).trans CC6.out)
      have CD8 := Lib.hid ((hfs.block _ (heap_some_lt CD6.out)).trans CD6.out)
      have X8 : Hid (w8.heap[gx]? = some (.cells #[.int .i64 i1, .int .i64 i2, .int .i64 i3, .slice X1 j1 d1, .slice X2 j2 d2] 26 (0, 0))) := (hfs.block _ (heap_some_lt X6.out)).trans X6.out
      have XT8 : Hid (w8.heap[w.heap.size]? = some (.cells #[s0, s1, s2, s3, s4] 26 (0, 0))) := (hfs.block _ (heap_some_lt XT6.out)).trans XT6.out
      have OA8 : Hid (∀ w', Below w8.heap.size w8 w' → OwnTm w' la1 ha1 tp (.agg #[.int .i64 xa1, .int .i64 xa2, .int .i64 xa3, .slice XA1 ya1 za1, .slice XA2 ya2 za2])) := fun w' hx => OA6.out.kept (keptIn_below (hfs.trans (hx.mono z6f)) (by have := OB6.out.le; omega))
      have OB8 : Hid (∀ w', Below w8.heap.size w8 w' → OwnTm w' la2 ha2 tp (.agg #[.int .i64 xb1, .int .i64 xb2, .int .i64 xb3, .slice XB1 yb1 zb1, .slice XB2 yb2 zb2])) := fun w' hx => OB6.out.kept (keptIn_below (hfs.trans (hx.mono z6f)) (by omega))
      have OC8 : Hid (∀ w', Below w8.heap.size w8 w' → OwnTm w' lc1 hc1 tl (.agg #[.int .i64 xc1, .int .i64 xc2, .int .i64 xc3, .slice XC1 yc1 zc1, .slice XC2 yc2 zc2])) := fun w' hx => OC6.out.kept (keptIn_below (hfs.trans (hx.mono z6f)) (by have := OD6.out.le; omega))
      have OD8 : Hid (∀ w', Below w8.heap.size w8 w' → OwnTm w' lc2 hc2 tl (.agg #[.int .i64 xd1, .int .i64 xd2, .int .i64 xd3, .slice XD1 yd1 zd1, .slice XD2 yd2 zd2])) := fun w' hx => OD6.out.kept (keptIn_below (hfs.trans (hx.mono z6f)) hhd)
      have B48 : Hid (∀ w', Below w8.heap.size w8 w' → Below w4.heap.size w4 w') := fun w' hx => B46.out.trans ((hfs.trans (hx.mono z6f)).mono B46.out.size)
      have NP : Hid (tp.rowsN ≤ 60000) := by
       show tp.rowsN ≤ 60000
       rw [← HTP.out]
       have h1 := rowsN_put (by' := ts) (M := Tm.countL ts) (fun b hb => Nat.le_trans (rowsN_count b) (Tm.countL_mem hb)) t 0
       have h2 : t.rowsN * (Tm.countL ts + 1) ≤ t.count * (Tm.countL ts + 1) := Nat.mul_le_mul_right _ (rowsN_count t)
       have h3 := HSM.out.2.2
       omega
      have NL : Hid (tl.rowsN ≤ 60000) := by
       show tl.rowsN ≤ 60000
       rw [← HTL.out, rowsN_lev]
       have h1 := rowsN_count t
       have h3 := HSM.out.1
       omega
      have CK1 : Hid (∀ w', Below w4.heap.size w4 w' → Calls Tryz.prog 17 #[.agg #[.int .i64 i1, .int .i64 i2, .int .i64 i3, .slice X1 j1 d1, .slice X2 j2 d2], .agg #[s0, s1, s2, s3, s4]] w' (HasPost w' true)) := fun w' hx => keptTerm_any t _ _ w' _ (by have := HSM.out.1; omega) FT.out (HLX4.out.below hx) (TT.out w' (B14.out w' hx))
      have CK2 : Hid (∀ w', Below w4.heap.size w4 w' → Calls Tryz.prog 18 #[.slice (some ⟨gy, 0, none⟩) nt ky, .slice Ab nt cb] w' (HasPost w' true)) := fun w' hx => keptTerms_any ts Ab cb nt gy ky _ w' HNT.out (by have := HSM.out.1; omega) ((Tm.fitL_iff ts).2 FTS.out) (TTS.out w' (B14.out w' hx)) (HLY4.out.below hx)
      have CK3 : Hid (∀ w', Below w4.heap.size w4 w' → Calls Tryz.prog 19 #[.slice (some ⟨gz, 0, none⟩) nz kz, .slice Az nz cz] w' (HasPost w' true)) := fun w' hx => keptLevels_any Az bys cz nz gz kz _ w' HNZ.out (by omega) (fun l hl => by have := H60.out l hl; omega) (TZ.out w' (B14.out w' hx)) (HLZ4.out.below hx)
      have CAP : Hid (∀ (w' : World) (x : Value), Below w8.heap.size w8 w' → FourT w8.heap.size #[.int .i64 xa1, .int .i64 xa2, .int .i64 xa3, .slice XA1 ya1 za1, .slice XA2 ya2 za2] #[.int .i64 xb1, .int .i64 xb2, .int .i64 xb3, .slice XB1 yb1 zb1, .slice XB2 yb2 zb2] #[.int .i64 xc1, .int .i64 xc2, .int .i64 xc3, .slice XC1 yc1 zc1, .slice XC2 yc2 zc2] #[.int .i64 xd1, .int .i64 xd2, .int .i64 xd3, .slice XD1 yd1 zd1, .slice XD2 yd2 zd2] x w' → Calls Tryz.prog 20 #[x] w' (fun e w'' => ∃ v, e = .returned v ∧ Below w4.heap.size w4 w'' ∧ True ∧ v = .bool true)) := fun w' x hx h => by
       refine (apartT4 (B0 := w4.heap.size) h (OA8.out w' hx) (OB8.out w' hx) (OC8.out w' hx) (OD8.out w' hx) hla hlb (by omega) hld (by omega) hx.size FTP.out FTL.out NP.out NL.out).mono fun _ _ h => ?_
       exact ⟨_, h.1, (B48.out w' hx).trans h.2, trivial, rfl⟩
      have G6 : Hid (∀ (w' : World) (e : Ending) (w'' : World), Below w8.heap.size w8 w' → HasPost w' true e w'' → ∃ v, e = .returned v ∧ Below w8.heap.size w8 w'' ∧ Below w'.heap.size w' w'' ∧ v = .bool true) := fun w' e w'' hx h => ⟨_, h.1, hx.trans (h.2.mono hx.size), h.2, rfl⟩
      have G7 : Hid (∀ (w' : World) (e : Ending) (w'' : World), Below w4.heap.size w4 w' → HasPost w' true e w'' → ∃ v, e = .returned v ∧ Below w4.heap.size w4 w'' ∧ True ∧ v = .bool true) := fun w' e w'' hx h => ⟨_, h.1, hx.trans (h.2.mono hx.size), trivial, rfl⟩
      have X4B : Hid (∀ w', Below w4.heap.size w4 w' → w'.heap[gx]? = some (.cells #[.int .i64 i1, .int .i64 i2, .int .i64 i3, .slice X1 j1 d1, .slice X2 j2 d2] 26 (0, 0))) := fun w' hx => (hx.block _ hgx4).trans X4.out
      have hS : Below w8.heap.size w8 w8.drew := (Below.refl _ _).drew
      clear hfs
      have XT4 : Hid (w4.heap[w.heap.size]? = some (.cells #[s0, s1, s2, s3, s4] 26 (0, 0))) := XB.out _ (B14.out _ (Below.refl _ _))
      have H8 := Lib.hid (Below.refl w8.heap.size w8)
      have x0 := cell_of_row _ _ 0 _ _ (0, 0) (X8.out)
      have x1 := cell_of_row _ _ 1 _ _ (0, 0) (X8.out)
      have x2 := cell_of_row _ _ 2 _ _ (0, 0) (X8.out)
      have x3 := cell_of_row _ _ 3 _ _ (0, 0) (X8.out)
      have x4 := cell_of_row _ _ 4 _ _ (0, 0) (X8.out)
      have y0 := cell_of_row _ _ 0 _ _ (0, 0) (XT8.out)
      have y1 := cell_of_row _ _ 1 _ _ (0, 0) (XT8.out)
      have y2 := cell_of_row _ _ 2 _ _ (0, 0) (XT8.out)
      have y3 := cell_of_row _ _ 3 _ _ (0, 0) (XT8.out)
      have y4 := cell_of_row _ _ 4 _ _ (0, 0) (XT8.out)
      clear hS
      go_wp2_with (fail)
      refine (CK1.out _ (B48.out _ H8.out)).mono ?_
      rintro e w9 ⟨rfl, hb9⟩
      have H9 : Hid (Below w8.heap.size w8 w9) := hb9
      clear hb9 x0 x1 x2 x3 x4 y0 y1 y2 y3 y4
      go_wp2_with (fail)
      refine (CK2.out _ (B48.out _ H9.out)).mono ?_
      rintro e w10 ⟨rfl, hb10⟩
      have H10 : Hid (Below w8.heap.size w8 w10) := H9.out.trans (hb10.mono H9.out.size)
      clear hb10
      go_wp2_with (fail)
      refine (CK3.out _ (B48.out _ H10.out)).mono ?_
      rintro e w11 ⟨rfl, hb11⟩
      have H11 : Hid (Below w8.heap.size w8 w11) := H10.out.trans (hb11.mono H10.out.size)
      clear hb11
      have p0 := cell_of_row _ _ 0 _ _ (0, 0) ((H11.out.block _ (heap_some_lt CA8.out)).trans CA8.out)
      have p1 := cell_of_row _ _ 1 _ _ (0, 0) ((H11.out.block _ (heap_some_lt CA8.out)).trans CA8.out)
      have p2 := cell_of_row _ _ 2 _ _ (0, 0) ((H11.out.block _ (heap_some_lt CA8.out)).trans CA8.out)
      have p3 := cell_of_row _ _ 3 _ _ (0, 0) ((H11.out.block _ (heap_some_lt CA8.out)).trans CA8.out)
      have p4 := cell_of_row _ _ 4 _ _ (0, 0) ((H11.out.block _ (heap_some_lt CA8.out)).trans CA8.out)
      have q0 := cell_of_row _ _ 0 _ _ (0, 0) ((H11.out.block _ (heap_some_lt CB8.out)).trans CB8.out)
      have q1 := cell_of_row _ _ 1 _ _ (0, 0) ((H11.out.block _ (heap_some_lt CB8.out)).trans CB8.out)
      have q2 := cell_of_row _ _ 2 _ _ (0, 0) ((H11.out.block _ (heap_some_lt CB8.out)).trans CB8.out)
      have q3 := cell_of_row _ _ 3 _ _ (0, 0) ((H11.out.block _ (heap_some_lt CB8.out)).trans CB8.out)
      have q4 := cell_of_row _ _ 4 _ _ (0, 0) ((H11.out.block _ (heap_some_lt CB8.out)).trans CB8.out)
      have u0 := cell_of_row _ _ 0 _ _ (0, 0) ((H11.out.block _ (heap_some_lt CC8.out)).trans CC8.out)
      have u1 := cell_of_row _ _ 1 _ _ (0, 0) ((H11.out.block _ (heap_some_lt CC8.out)).trans CC8.out)
      have u2 := cell_of_row _ _ 2 _ _ (0, 0) ((H11.out.block _ (heap_some_lt CC8.out)).trans CC8.out)
      have u3 := cell_of_row _ _ 3 _ _ (0, 0) ((H11.out.block _ (heap_some_lt CC8.out)).trans CC8.out)
      have u4 := cell_of_row _ _ 4 _ _ (0, 0) ((H11.out.block _ (heap_some_lt CC8.out)).trans CC8.out)
      have v0 := cell_of_row _ _ 0 _ _ (0, 0) ((H11.out.block _ (heap_some_lt CD8.out)).trans CD8.out)
      have v1 := cell_of_row _ _ 1 _ _ (0, 0) ((H11.out.block _ (heap_some_lt CD8.out)).trans CD8.out)
      have v2 := cell_of_row _ _ 2 _ _ (0, 0) ((H11.out.block _ (heap_some_lt CD8.out)).trans CD8.out)
      have v3 := cell_of_row _ _ 3 _ _ (0, 0) ((H11.out.block _ (heap_some_lt CD8.out)).trans CD8.out)
      have v4 := cell_of_row _ _ 4 _ _ (0, 0) ((H11.out.block _ (heap_some_lt CD8.out)).trans CD8.out)
      have l1 := heap_some_lt ((H11.out.block _ (heap_some_lt CA8.out)).trans CA8.out)
      have l2 := heap_some_lt ((H11.out.block _ (heap_some_lt CB8.out)).trans CB8.out)
      have l3 := heap_some_lt ((H11.out.block _ (heap_some_lt CC8.out)).trans CC8.out)
      have l4 := heap_some_lt ((H11.out.block _ (heap_some_lt CD8.out)).trans CD8.out)
      have l3a : pc < w11.heap.size + 1 := by omega
      have l3b : pc < w11.heap.size + 1 + 1 := by omega
      have l4a : pd < w11.heap.size + 1 := by omega
      have l4b : pd < w11.heap.size + 1 + 1 := by omega
      have l3n : pc ≠ w11.heap.size + 1 := by omega
      have l4n : pd ≠ w11.heap.size + 1 := by omega
      have l4m : pd ≠ w11.heap.size + 1 + 1 := by omega
      have l4o : pd ≠ w11.heap.size := by omega
      go_wp2_with (fail)
      obtain ⟨n0, n1, n2, n3, n4⟩ := five_allocs w11 #[.int .i64 xa1, .int .i64 xa2, .int .i64 xa3, .slice XA1 ya1 za1, .slice XA2 ya2 za2] #[.int .i64 xb1, .int .i64 xb2, .int .i64 xb3, .slice XB1 yb1 zb1, .slice XB2 yb2 zb2] #[.int .i64 xc1, .int .i64 xc2, .int .i64 xc3, .slice XC1 yc1 zc1, .slice XC2 yc2 zc2] #[.int .i64 xd1, .int .i64 xd2, .int .i64 xd3, .slice XD1 yd1 zd1, .slice XD2 yd2 zd2] #[.slice (some ⟨w11.heap.size, 0, none⟩) 1 1, .slice (some ⟨w11.heap.size + 1, 0, none⟩) 1 1, .slice (some ⟨w11.heap.size + 1 + 1, 0, none⟩) 1 1, .slice (some ⟨w11.heap.size + 1 + 1 + 1, 0, none⟩) 1 1] 26 26 26 26 24
      have z11 := H11.out.size
      refine (CAP.out _ _ (bel_alloc (bel_alloc (bel_alloc (bel_alloc (bel_alloc H11.out))))) ⟨w11.heap.size + 1 + 1 + 1 + 1, w11.heap.size, w11.heap.size + 1, w11.heap.size + 1 + 1, w11.heap.size + 1 + 1 + 1, rfl, n4, ⟨by omega, by omega, by omega, by omega⟩, n0, n1, n2, n3, ⟨by omega, by omega, by omega⟩, ⟨by omega, by omega⟩, by omega⟩).mono ?_
      rintro e w12 ⟨v, rfl, h12, -, rfl⟩
      have H12 : Hid (Below w4.heap.size w4 w12) := h12
      clear h12 n0 n1 n2 n3 n4 p0 p1 p2 p3 p4 q0 q1 q2 q3 q4 u0 u1 u2 u3 u4 v0 v1 v2 v3 v4 l1 l2 l3 l4 l3a l3b l4a l4b l3n l4n l4m l4o
      have x0 := cell_of_row _ _ 0 _ _ (0, 0) ((H12.out.block _ hgx4).trans X4.out)
      have x1 := cell_of_row _ _ 1 _ _ (0, 0) ((H12.out.block _ hgx4).trans X4.out)
      have x2 := cell_of_row _ _ 2 _ _ (0, 0) ((H12.out.block _ hgx4).trans X4.out)
      have x3 := cell_of_row _ _ 3 _ _ (0, 0) ((H12.out.block _ hgx4).trans X4.out)
      have x4 := cell_of_row _ _ 4 _ _ (0, 0) ((H12.out.block _ hgx4).trans X4.out)
      have y0 := cell_of_row _ _ 0 _ _ (0, 0) ((H12.out.block _ (heap_some_lt XT4.out)).trans XT4.out)
      have y1 := cell_of_row _ _ 1 _ _ (0, 0) ((H12.out.block _ (heap_some_lt XT4.out)).trans XT4.out)
      have y2 := cell_of_row _ _ 2 _ _ (0, 0) ((H12.out.block _ (heap_some_lt XT4.out)).trans XT4.out)
      have y3 := cell_of_row _ _ 3 _ _ (0, 0) ((H12.out.block _ (heap_some_lt XT4.out)).trans XT4.out)
      have y4 := cell_of_row _ _ 4 _ _ (0, 0) ((H12.out.block _ (heap_some_lt XT4.out)).trans XT4.out)
      go_wp2_with (fail)
      refine (CK1.out _ H12.out).mono ?_
      rintro e w13 ⟨rfl, hb13⟩
      have H13 : Hid (Below w4.heap.size w4 w13) := H12.out.trans (hb13.mono H12.out.size)
      clear hb13 x0 x1 x2 x3 x4 y0 y1 y2 y3 y4
      go_wp2_with (fail)
      refine (CK2.out _ H13.out).mono ?_
      rintro e w14 ⟨rfl, hb14⟩
      have H14 : Hid (Below w4.heap.size w4 w14) := H13.out.trans (hb14.mono H13.out.size)
      clear hb14
      go_wp2_with (fail)
      refine (HAW.out _ (B14.out _ H14.out)).mono ?_
      rintro e w15 ⟨rfl, hb15⟩
      have HFIN : Hid (Below w.heap.size w w15) := HBW.out _ (B14.out _ (H14.out.trans (hb15.mono H14.out.size)))
      clear hb15
      go_wp2
      go_ret
      exact ⟨rfl, HFIN.out⟩
end Go.Proofs.YtafgmndlbbjphaaGreatDoor
