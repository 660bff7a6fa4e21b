/- Laws. -/
import Derived.Test.YtfgnnbpbbnnnhaaDoorSgal
import Derived.Test.YtfgnnbpbbnnnhaaDoorSgaw
import Derived.Test.YtfgnnbpbbnnnhaaDoorSgax
namespace Go.Proofs.YtfgnnbpbbnnnhaaDoor
open Go.RowKit Go.Maps
set_option maxRecDepth 100000 in
theorem enter_great11 (vs : Array Value) (w : World) : (callFunc 8 vs).run Tryd.prog w = .ok (.enter 8 vs) w := by go_simp
set_option maxRecDepth 100000 in
theorem enter_srightX (vs : Array Value) (w : World) : (callFunc 9 vs).run Tryd.prog w = .ok (.enter 9 vs) w := by go_simp
set_option maxRecDepth 100000 in
theorem enter_sizeX (vs : Array Value) (w : World) : (callFunc 12 vs).run Tryd.prog w = .ok (.enter 12 vs) w := by go_simp
set_option maxRecDepth 100000 in
theorem lss_toS {x y : Int} {b : Bool} (p q : Operand) (w : World) (h : decide (x < y) = b) : ((do eqGuard .lss 3 p q (.int .i64 x) (.int .i64 y); binOp .lss 3 (.int .i64 x) (.int .i64 y) : Sem Value)).run Tryd.prog w = .ok (.bool b) w := by
  rw [← h]
  go_simp
set_option maxRecDepth 100000 in
theorem eql_toS {x y : Int} {b : Bool} (p q : Operand) (w : World) (h : (x == y) = b) : ((do eqGuard .eql 3 p q (.int .i64 x) (.int .i64 y); binOp .eql 3 (.int .i64 x) (.int .i64 y) : Sem Value)).run Tryd.prog w = .ok (.bool b) w := by
  rw [← h]
  go_simp
set_option maxRecDepth 100000 in
theorem mul_toS {x y z : Int} (p q : Operand) (w : World) (h : IntKind.i64.wrap (x * y) = z) : ((do eqGuard .mul 3 p q (.int .i64 x) (.int .i64 y); binOp .mul 3 (.int .i64 x) (.int .i64 y) : Sem Value)).run Tryd.prog w = .ok (.int .i64 z) w := by
  rw [← h]
  go_simp
set_option maxRecDepth 100000 in
theorem slice_tmS {t0 t1 t2 p0 p1 p2 : Int} {T1 T2 P1 P2 : Option Addr} {a1 b1 a2 b2 c1 d1 c2 d2 : Nat} (w : World) : (Instr.buildSlice 25 2 [(0, (.agg #[.int .i64 t0, .int .i64 t1, .int .i64 t2, .slice T1 a1 b1, .slice T2 a2 b2] : Value)), (1, .agg #[.int .i64 p0, .int .i64 p1, .int .i64 p2, .slice P1 c1 d1, .slice P2 c2 d2])].toArray).run Tryd.prog w = .ok (.slice (some ⟨w.heap.size, 0, none⟩) 2 2) (w.alloc (.cells #[.int .i64 t0, .int .i64 t1, .int .i64 t2, .slice T1 a1 b1, .slice T2 a2 b2, .int .i64 p0, .int .i64 p1, .int .i64 p2, .slice P1 c1 d1, .slice P2 c2 d2] 27)) := by go_simp
theorem tms_two {w w' : World} {B g : Nat} {t u : Tm} {t0 t1 t2 p0 p1 p2 : Int} {T1 T2 P1 P2 : Option Addr} {a1 b1 a2 b2 c1 d1 c2 d2 : Nat} (ht : TmAt w B t (.agg #[.int .i64 t0, .int .i64 t1, .int .i64 t2, .slice T1 a1 b1, .slice T2 a2 b2])) (hu : TmAt w B u (.agg #[.int .i64 p0, .int .i64 p1, .int .i64 p2, .slice P1 c1 d1, .slice P2 c2 d2])) (hb : Below B w w') (hB : B ≤ w'.heap.size) (hg : w'.heap[g]? = some (.cells #[.int .i64 t0, .int .i64 t1, .int .i64 t2, .slice T1 a1 b1, .slice T2 a2 b2, .int .i64 p0, .int .i64 p1, .int .i64 p2, .slice P1 c1 d1, .slice P2 c2 d2] 27 (0, 0))) : Tms w' w'.heap.size (some ⟨g, 0, none⟩) 2 [t, u] := by
  have p : ∀ j, w'.cell? ⟨g, j, none⟩ = (#[.int .i64 t0, .int .i64 t1, .int .i64 t2, .slice T1 a1 b1, .slice T2 a2 b2, .int .i64 p0, .int .i64 p1, .int .i64 p2, .slice P1 c1 d1, .slice P2 c2 d2] : Array Value)[j]? := fun j => cell_of_row _ _ j _ _ (0, 0) hg
  exact ⟨fun h => (by cases h), fun _ => ⟨g, 0, rfl, heap_some_lt hg, TmsAt.of fun i x hi => by
    match i, hi with
    | 0, hi => injection hi with hi; subst hi; exact ⟨_, ⟨_, _, _, _, _, rfl, p 0, p 1, p 2, p 3, p 4⟩, ht.below hb hB⟩
    | 1, hi => injection hi with hi; subst hi; exact ⟨_, ⟨_, _, _, _, _, rfl, p 5, p 6, p 7, p 8, p 9⟩, hu.below hb hB⟩⟩⟩
theorem tms_one9 {w w' : World} {B g : Nat} {u : Tm} {p0 p1 p2 : Int} {P1 P2 : Option Addr} {c1 d1 c2 d2 : Nat} (hu : TmAt w B u (.agg #[.int .i64 p0, .int .i64 p1, .int .i64 p2, .slice P1 c1 d1, .slice P2 c2 d2])) (hb : Below B w w') (hB : B ≤ w'.heap.size) (hg : w'.heap[g]? = some (.cells #[.int .i64 p0, .int .i64 p1, .int .i64 p2, .slice P1 c1 d1, .slice P2 c2 d2] 27 (0, 0))) : Tms w' w'.heap.size (some ⟨g, 0, none⟩) 1 [u] := by
  have p : ∀ j, w'.cell? ⟨g, j, none⟩ = (#[.int .i64 p0, .int .i64 p1, .int .i64 p2, .slice P1 c1 d1, .slice P2 c2 d2] : Array Value)[j]? := fun j => cell_of_row _ _ j _ _ (0, 0) hg
  exact ⟨fun h => (by cases h), fun _ => ⟨g, 0, rfl, heap_some_lt hg, TmsAt.of fun i x hi => by
    match i, hi with
    | 0, hi => injection hi with hi; subst hi; exact ⟨_, ⟨_, _, _, _, _, rfl, p 0, p 1, p 2, p 3, p 4⟩, hu.below hb hB⟩⟩⟩
set_option maxRecDepth 100000 in
set_option maxHeartbeats 32000000 in
theorem grows_of (dl gl : List Dc) (Ad : Option Addr) (nd cd : Nat) (Ae : Option Addr) (ne ce : Nat) (tt ta : Tm) (t0 t1 t2 : Int) (T1 : Option Addr) (a1 b1 : Nat) (T2 : Option Addr) (a2 b2 : Nat) (p0 p1 p2 : Int) (P1 : Option Addr) (c1 d1 : Nat) (P2 : Option Addr) (c2 d2 : Nat) (n sc sf mo : Int) (w : World)
    (hK : KindsAll w) (hds : Dcs w w.heap.size Ad cd dl) (hnd : dl.length = nd) (hgs : Dcs w w.heap.size Ae ce gl) (hne : gl.length = ne) (hn9 : nd + ne ≤ 1048576) (hok : ∀ d ∈ dl ++ gl, d.ok9) (hsum : sumF Dc.cn (dl ++ gl) ≤ 1099511627776)
    (ht : TmAt w w.heap.size tt (.agg #[.int .i64 t0, .int .i64 t1, .int .i64 t2, .slice T1 a1 b1, .slice T2 a2 b2])) (ha : TmAt w w.heap.size ta (.agg #[.int .i64 p0, .int .i64 p1, .int .i64 p2, .slice P1 c1 d1, .slice P2 c2 d2])) (hft : tt.fit) (hfa : ta.fit) (hct : tt.count + ta.count ≤ 1048576) (hrn : Rng n) (hrs : Rng sc) (hrf : Rng sf) (hrm : Rng mo) :
    Calls Tryd.prog 3 #[.slice Ad nd cd, .slice Ae ne ce, .int .i64 n, .int .i64 sc, .int .i64 sf, .agg #[.int .i64 t0, .int .i64 t1, .int .i64 t2, .slice T1 a1 b1, .slice T2 a2 b2], .agg #[.int .i64 p0, .int .i64 p1, .int .i64 p2, .slice P1 c1 d1, .slice P2 c2 d2], .int .i64 mo] w (HasPost w true) := by
  have hw0 : 0 < w.heap.size := cell_lt (hK 0 (by decide)).1
  obtain ⟨w1, hw1⟩ : ∃ x, (w.alloc (.cells #[.int .i64 t0, .int .i64 t1, .int .i64 t2, .slice T1 a1 b1, .slice T2 a2 b2] 27)).alloc (.cells #[.int .i64 p0, .int .i64 p1, .int .i64 p2, .slice P1 c1 d1, .slice P2 c2 d2] 27) = x := ⟨_, rfl⟩
  have hb1 : Below w.heap.size w w1 := by rw [← hw1]; exact stwo w _ _
  obtain ⟨z1, z2, _⟩ := two_allocs w (.cells #[.int .i64 t0, .int .i64 t1, .int .i64 t2, .slice T1 a1 b1, .slice T2 a2 b2] 27) (.cells #[.int .i64 p0, .int .i64 p1, .int .i64 p2, .slice P1 c1 d1, .slice P2 c2 d2] 27)
  rw [hw1] at z1 z2
  have HAW := Lib.hid (awake11_any w1 (hK.below hb1 hw0))
  have X1 := Lib.hid z1
  have X2 := Lib.hid z2
  have HB1 := Lib.hid hb1
  have HK := Lib.hid hK
  have HDS := Lib.hid hds
  have HND := Lib.hid hnd
  have HGS := Lib.hid hgs
  have HNE := Lib.hid hne
  have HOK := Lib.hid hok
  have HSUM := Lib.hid hsum
  have HT := Lib.hid ht
  have HA := Lib.hid ha
  have HFT := Lib.hid hft
  have HFA := Lib.hid hfa
  have HCT := Lib.hid hct
  have HRN : Hid (Rng n ∧ Rng sc ∧ Rng sf ∧ Rng mo) := ⟨hrn, hrs, hrf, hrm⟩
  have hzt := Tm.size_le_count tt
  have hza := Tm.size_le_count ta
  have HTS : Hid (tt.size ≤ 1048576 ∧ ta.size ≤ 1048576) := ⟨by omega, by omega⟩
  clear hK hds hnd hgs hne hok hsum ht ha hft hfa hct hrn hrs hrf hrm hb1 z1 z2 hzt hza
  go_enter Tryd.func3, Tryd.ntmps3
  go_wp2_with (fail)
  refine HAW.out.mono ?_
  rintro e w2 ⟨rfl, hb2⟩
  have hbw2 : Below w.heap.size w w2 := HB1.out.trans (hb2.mono HB1.out.size)
  have Y1 := Lib.hid ((hb2.block _ (heap_some_lt X1.out)).trans X1.out)
  have Y2 := Lib.hid ((hb2.block _ (heap_some_lt X2.out)).trans X2.out)
  have HB2 := Lib.hid hbw2
  obtain ⟨X, hX⟩ := dcs_list (HDS.out.below hbw2 hbw2.size)
  obtain ⟨Y, hY⟩ := dcs_list (HGS.out.below hbw2 hbw2.size)
  have HX := Lib.hid hX
  have HY := Lib.hid hY
  have HAT := Lib.hid (at_append hX hY)
  obtain ⟨gb, hgb⟩ : ∃ x, decide (1500 < sumF Dc.cn (dl ++ gl) + Tm.countL [tt, ta]) = x := ⟨_, rfl⟩
  have HGR : Hid (∀ (g k g2 : Nat) (W : World), Below w2.heap.size w2 W → W.ownsRow w2.heap.size 43 16 (.slice (some ⟨g, 0, none⟩) (nd + ne) k) (nd + ne) (X ++ Y) → W.heap[g2]? = some (.cells #[.int .i64 t0, .int .i64 t1, .int .i64 t2, .slice T1 a1 b1, .slice T2 a2 b2, .int .i64 p0, .int .i64 p1, .int .i64 p2, .slice P1 c1 d1, .slice P2 c2 d2] 27 (0, 0)) → Calls Tryd.prog 8 #[.slice (some ⟨g, 0, none⟩) (nd + ne) k, .slice (some ⟨g2, 0, none⟩) 2 2] W (HasPost W gb)) := fun g k g2 W hW ho hg2 => by
    rw [← hgb]
    have hlen : (dl ++ gl).length = nd + ne := by rw [List.length_append, HND.out, HNE.out]
    have hx := hbw2.trans (hW.mono hbw2.size)
    exact great11_any (dl ++ gl) _ (nd + ne) k [tt, ta] _ 2 2 W hlen (by omega) HOK.out (dcs_own ho hlen HAT.out hW hW.size) rfl (by have := HCT.out; simp only [Tm.countL]; omega) (tms_two HT.out HA.out hx hx.size hg2) HSUM.out
  obtain ⟨rr, hrr⟩ : ∃ x, rightSB n sc sf dl tt = x := ⟨_, rfl⟩
  have HRT : Hid (∀ W, Below w2.heap.size w2 W → Calls Tryd.prog 9 #[.slice Ad nd cd, .int .i64 n, .int .i64 sc, .int .i64 sf, .agg #[.int .i64 t0, .int .i64 t1, .int .i64 t2, .slice T1 a1 b1, .slice T2 a2 b2]] W (HasPost W rr)) := fun W hW => by
    have hx := hbw2.trans (hW.mono hbw2.size)
    rw [← hrr]
    exact rightS_any n sc sf dl Ad nd cd tt _ W (HK.out.below hx hw0) (HDS.out.below hx hx.size) HND.out HFT.out (by have := HTS.out; omega) (HT.out.below hx hx.size)
  have HRR := Lib.hid hrr
  obtain ⟨ga1, hg1⟩ : ∃ x, decide (sc < 0) = x := ⟨_, rfl⟩
  obtain ⟨ga2, hg2⟩ : ∃ x, decide (100 < sc) = x := ⟨_, rfl⟩
  obtain ⟨ga3, hg3⟩ : ∃ x, decide (1000 < n) = x := ⟨_, rfl⟩
  obtain ⟨ga4, hg4⟩ : ∃ x, decide (1000 < sf) = x := ⟨_, rfl⟩
  obtain ⟨ga5, hg5⟩ : ∃ x, decide (mo < 0) = x := ⟨_, rfl⟩
  obtain ⟨ga6, hg6⟩ : ∃ x, decide (100 < mo) = x := ⟨_, rfl⟩
  obtain ⟨bo1, hbo1⟩ : ∃ x, (gb || ga1) = x := ⟨_, rfl⟩
  obtain ⟨bo2, hbo2⟩ : ∃ x, (bo1 || ga2) = x := ⟨_, rfl⟩
  obtain ⟨bo3, hbo3⟩ : ∃ x, (bo2 || ga3) = x := ⟨_, rfl⟩
  obtain ⟨bo4, hbo4⟩ : ∃ x, (bo3 || ga4) = x := ⟨_, rfl⟩
  obtain ⟨bo5, hbo5⟩ : ∃ x, (bo4 || ga5) = x := ⟨_, rfl⟩
  obtain ⟨bo6, hbo6⟩ : ∃ x, (bo5 || ga6) = x := ⟨_, rfl⟩
  obtain ⟨bz, hbz⟩ : ∃ x, (bo6 || !rr) = x := ⟨_, rfl⟩
  have HG1 := Lib.hid hg1
  have HG2 := Lib.hid hg2
  have HG3 := Lib.hid hg3
  have HG4 := Lib.hid hg4
  have HG5 := Lib.hid hg5
  have HG6 := Lib.hid hg6
  have HB1 := Lib.hid hbo1
  have HB2q := Lib.hid hbo2
  have HB3 := Lib.hid hbo3
  have HB4 := Lib.hid hbo4
  have HB5 := Lib.hid hbo5
  have HB6 := Lib.hid hbo6
  have HBZ := Lib.hid hbz
  have hS : Below w2.heap.size w2 w2.drew := (Below.refl _ _).drew
  clear hb2 hbw2 hX hY hgb hrr hg1 hg2 hg3 hg4 hg5 hg6 hbo1 hbo2 hbo3 hbo4 hbo5 hbo6 hbz hw1 HAW
  go_upto_region 3 with (fail)
  refine wp_region_tab (fun w' => Below w2.heap.size w2 w') (Ap w2.heap.size nd ne X Y) [(fun (x : Value) (w : World) => ∃ g, x = .slice (some ⟨g, 0, none⟩) 0 0 ∧ w2.heap.size ≤ g ∧ w.heap[g]? = some (.cells #[] 43 (0, 0))), (fun (x : Value) (_ : World) => x = (.slice Ad nd cd : Value)), (fun (x : Value) (w : World) => ∃ g cap, x = .slice (some ⟨g, 0, none⟩) nd cap ∧ w.ownsRow w2.heap.size 43 16 (.slice (some ⟨g, 0, none⟩) nd cap) nd X), (fun (x : Value) (_ : World) => x = (.slice Ae ne ce : Value)), (fun (x : Value) (w : World) => ∃ g cap, x = .slice (some ⟨g, 0, none⟩) (nd + ne) cap ∧ w.ownsRow w2.heap.size 43 16 (.slice (some ⟨g, 0, none⟩) (nd + ne) cap) (nd + ne) (X ++ Y)), (fun (x : Value) (_ : World) => x = (.agg #[.int .i64 t0, .int .i64 t1, .int .i64 t2, .slice T1 a1 b1, .slice T2 a2 b2] : Value)), (fun (x : Value) (_ : World) => x = (.agg #[.int .i64 p0, .int .i64 p1, .int .i64 p2, .slice P1 c1 d1, .slice P2 c2 d2] : Value)), (fun (x : Value) (w : World) => ∃ g, x = .slice (some ⟨g, 0, none⟩) 2 2 ∧ w.heap[g]? = some (.cells #[.int .i64 t0, .int .i64 t1, .int .i64 t2, .slice T1 a1 b1, .slice T2 a2 b2, .int .i64 p0, .int .i64 p1, .int .i64 p2, .slice P1 c1 d1, .slice P2 c2 d2] 27 (0, 0))), (fun (x : Value) (_ : World) => x = (.bool gb : Value)), (fun (x : Value) (_ : World) => x = (.bool gb : Value)), (fun (x : Value) (_ : World) => x = gv (!gb) (.int .i64 sc)), (fun (x : Value) (_ : World) => x = gv (!gb) (.bool ga1)), (fun (x : Value) (_ : World) => x = (.bool bo1 : Value)), (fun (x : Value) (_ : World) => x = (.bool bo1 : Value)), (fun (x : Value) (_ : World) => x = gv (!bo1) (.int .i64 sc)), (fun (x : Value) (_ : World) => x = gv (!bo1) (.bool ga2)), (fun (x : Value) (_ : World) => x = (.bool bo2 : Value)), (fun (x : Value) (_ : World) => x = (.bool bo2 : Value)), (fun (x : Value) (_ : World) => x = gv (!bo2) (.int .i64 n)), (fun (x : Value) (_ : World) => x = gv (!bo2) (.bool ga3)), (fun (x : Value) (_ : World) => x = (.bool bo3 : Value)), (fun (x : Value) (_ : World) => x = (.bool bo3 : Value)), (fun (x : Value) (_ : World) => x = gv (!bo3) (.int .i64 sf)), (fun (x : Value) (_ : World) => x = gv (!bo3) (.bool ga4)), (fun (x : Value) (_ : World) => x = (.bool bo4 : Value)), (fun (x : Value) (_ : World) => x = (.bool bo4 : Value)), (fun (x : Value) (_ : World) => x = gv (!bo4) (.int .i64 mo)), (fun (x : Value) (_ : World) => x = gv (!bo4) (.bool ga5)), (fun (x : Value) (_ : World) => x = (.bool bo5 : Value)), (fun (x : Value) (_ : World) => x = (.bool bo5 : Value)), (fun (x : Value) (_ : World) => x = gv (!bo5) (.int .i64 mo)), (fun (x : Value) (_ : World) => x = gv (!bo5) (.bool ga6)), (fun (x : Value) (_ : World) => x = (.bool bo6 : Value)), (fun (x : Value) (_ : World) => x = (.bool bo6 : Value)), (fun (x : Value) (_ : World) => x = gv (!bo6) (.slice Ad nd cd)), (fun (x : Value) (_ : World) => x = gv (!bo6) (.int .i64 n)), (fun (x : Value) (_ : World) => x = gv (!bo6) (.int .i64 sc)), (fun (x : Value) (_ : World) => x = gv (!bo6) (.int .i64 sf)), (fun (x : Value) (_ : World) => x = gv (!bo6) (.agg #[.int .i64 t0, .int .i64 t1, .int .i64 t2, .slice T1 a1 b1, .slice T2 a2 b2])), (fun (x : Value) (_ : World) => x = gv (!bo6) (.bool rr)), (fun (x : Value) (_ : World) => x = gv (!bo6) (.bool (!rr))), (fun (x : Value) (_ : World) => x = (.bool bz : Value))] [⟨some 21, .buildSlice 22 0 #[], none, []⟩, ⟨some 22, .move (.tmp 0), none, []⟩, ⟨some 23, .call { callee := .builtin .append, args := #[.tmp 21, .tmp 22], argTypes := #[22, 22] }, none, [(21, 0), (22, 1)]⟩, ⟨some 24, .move (.tmp 1), none, []⟩, ⟨some 25, .call { callee := .builtin .append, args := #[.tmp 23, .tmp 24], argTypes := #[22, 22] }, none, [(23, 2), (24, 3)]⟩, ⟨some 26, .load 27 (.tmp 13), none, []⟩, ⟨some 27, .load 27 (.tmp 14), none, []⟩, ⟨some 28, .buildSlice 25 2 #[(0, .tmp 26), (1, .tmp 27)], none, [(26, 5), (27, 6)]⟩, ⟨some 29, .call { callee := .value (.func 8), args := #[.tmp 25, .tmp 28], argTypes := #[22, 25] }, none, [(25, 4), (28, 7)]⟩, ⟨some 30, .move (.tmp 29), none, [(29, 8)]⟩, ⟨some 31, .move (.tmp 3), some (some 30, false), [(30, 9)]⟩, ⟨some 32, .binOp .lss 3 (.tmp 31) (.const (.int .i64 0)) 3, some (some 30, false), [(30, 9), (31, 10)]⟩, ⟨some 33, .pick (.tmp 30) (.const (Value.bool true)) (.tmp 32), none, [(30, 9), (32, 11)]⟩, ⟨some 34, .move (.tmp 33), none, [(33, 12)]⟩, ⟨some 35, .move (.tmp 3), some (some 34, false), [(34, 13)]⟩, ⟨some 36, .binOp .gtr 3 (.tmp 35) (.const (.int .i64 100)) 3, some (some 34, false), [(34, 13), (35, 14)]⟩, ⟨some 37, .pick (.tmp 34) (.const (Value.bool true)) (.tmp 36), none, [(34, 13), (36, 15)]⟩, ⟨some 38, .move (.tmp 37), none, [(37, 16)]⟩, ⟨some 39, .move (.tmp 2), some (some 38, false), [(38, 17)]⟩, ⟨some 40, .binOp .gtr 3 (.tmp 39) (.const (.int .i64 1000)) 3, some (some 38, false), [(38, 17), (39, 18)]⟩, ⟨some 41, .pick (.tmp 38) (.const (Value.bool true)) (.tmp 40), none, [(38, 17), (40, 19)]⟩, ⟨some 42, .move (.tmp 41), none, [(41, 20)]⟩, ⟨some 43, .move (.tmp 4), some (some 42, false), [(42, 21)]⟩, ⟨some 44, .binOp .gtr 3 (.tmp 43) (.const (.int .i64 1000)) 3, some (some 42, false), [(42, 21), (43, 22)]⟩, ⟨some 45, .pick (.tmp 42) (.const (Value.bool true)) (.tmp 44), none, [(42, 21), (44, 23)]⟩, ⟨some 46, .move (.tmp 45), none, [(45, 24)]⟩, ⟨some 47, .move (.tmp 7), some (some 46, false), [(46, 25)]⟩, ⟨some 48, .binOp .lss 3 (.tmp 47) (.const (.int .i64 0)) 3, some (some 46, false), [(46, 25), (47, 26)]⟩, ⟨some 49, .pick (.tmp 46) (.const (Value.bool true)) (.tmp 48), none, [(46, 25), (48, 27)]⟩, ⟨some 50, .move (.tmp 49), none, [(49, 28)]⟩, ⟨some 51, .move (.tmp 7), some (some 50, false), [(50, 29)]⟩, ⟨some 52, .binOp .gtr 3 (.tmp 51) (.const (.int .i64 100)) 3, some (some 50, false), [(50, 29), (51, 30)]⟩, ⟨some 53, .pick (.tmp 50) (.const (Value.bool true)) (.tmp 52), none, [(50, 29), (52, 31)]⟩, ⟨some 54, .move (.tmp 53), none, [(53, 32)]⟩, ⟨some 55, .move (.tmp 0), some (some 54, false), [(54, 33)]⟩, ⟨some 56, .move (.tmp 2), some (some 54, false), [(54, 33)]⟩, ⟨some 57, .move (.tmp 3), some (some 54, false), [(54, 33)]⟩, ⟨some 58, .move (.tmp 4), some (some 54, false), [(54, 33)]⟩, ⟨some 59, .load 27 (.tmp 13), some (some 54, false), [(54, 33)]⟩, ⟨some 60, .call { callee := .value (.func 9), args := #[.tmp 55, .tmp 56, .tmp 57, .tmp 58, .tmp 59], argTypes := #[22, 3, 3, 3, 27] }, some (some 54, false), [(54, 33), (55, 34), (56, 35), (57, 36), (58, 37), (59, 38)]⟩, ⟨some 61, .unOp .not 4 (.tmp 60), some (some 54, false), [(54, 33), (60, 39)]⟩, ⟨some 62, .pick (.tmp 54) (.const (Value.bool true)) (.tmp 61), none, [(54, 33), (61, 40)]⟩] [some 21, some 22, some 23, some 24, some 25, some 26, some 27, some 28, some 29, some 30, some 31, some 32, some 33, some 34, some 35, some 36, some 37, some 38, some 39, some 40, some 41, some 42, some 43, some 44, some 45, some 46, some 47, some 48, some 49, some 50, some 51, some 52, some 53, some 54, some 55, some 56, some 57, some 58, some 59, some 60, some 61, some 62] (by kernel_rfl) (by kernel_rfl) (by kernel_rfl) (by kernel_rfl) (by kernel_rfl) ?hS ?hmono ?hsteps ?hfin
  case hS => exact hS
  case hmono =>
    refine MonoL.cons (fun x w1 w2 _ _ hR hx => ?_) ?_
    · obtain ⟨g, q1, q2, q3⟩ := hx; exact ⟨g, q1, q2, hR.nul g q3⟩
    refine MonoL.cons (fun x w1 w2 _ _ _ hx => hx) ?_
    refine MonoL.cons (fun x w1 w2 _ _ hR hx => ?_) ?_
    · obtain ⟨g, cap, q1, q2⟩ := hx; exact ⟨g, cap, q1, hR.one _ q2⟩
    refine MonoL.cons (fun x w1 w2 _ _ _ hx => hx) ?_
    refine MonoL.cons (fun x w1 w2 _ _ hR hx => ?_) ?_
    · obtain ⟨g, cap, q1, q2⟩ := hx; exact ⟨g, cap, q1, hR.two _ q2⟩
    refine MonoL.cons (fun x w1 w2 _ _ _ hx => hx) ?_
    refine MonoL.cons (fun x w1 w2 _ _ _ hx => hx) ?_
    refine MonoL.cons (fun x w1 w2 _ _ hR hx => ?_) ?_
    · obtain ⟨g, q1, q2⟩ := hx; exact ⟨g, q1, (hR.far g (heap_some_lt q2) (Or.inr fun cs fr e => by rw [q2] at e; injection e with e; injection e with _ e _; cases e)).trans q2⟩
    refine MonoL.cons (fun x w1 w2 _ _ _ hx => hx) ?_
    refine MonoL.cons (fun x w1 w2 _ _ _ hx => hx) ?_
    refine MonoL.cons (fun x w1 w2 _ _ _ hx => hx) ?_
    refine MonoL.cons (fun x w1 w2 _ _ _ hx => hx) ?_
    refine MonoL.cons (fun x w1 w2 _ _ _ hx => hx) ?_
    refine MonoL.cons (fun x w1 w2 _ _ _ hx => hx) ?_
    refine MonoL.cons (fun x w1 w2 _ _ _ hx => hx) ?_
    refine MonoL.cons (fun x w1 w2 _ _ _ hx => hx) ?_
    refine MonoL.cons (fun x w1 w2 _ _ _ hx => hx) ?_
    refine MonoL.cons (fun x w1 w2 _ _ _ hx => hx) ?_
    refine MonoL.cons (fun x w1 w2 _ _ _ hx => hx) ?_
    refine MonoL.cons (fun x w1 w2 _ _ _ hx => hx) ?_
    refine MonoL.cons (fun x w1 w2 _ _ _ hx => hx) ?_
    refine MonoL.cons (fun x w1 w2 _ _ _ hx => hx) ?_
    refine MonoL.cons (fun x w1 w2 _ _ _ hx => hx) ?_
    refine MonoL.cons (fun x w1 w2 _ _ _ hx => hx) ?_
    refine MonoL.cons (fun x w1 w2 _ _ _ hx => hx) ?_
    refine MonoL.cons (fun x w1 w2 _ _ _ hx => hx) ?_
    refine MonoL.cons (fun x w1 w2 _ _ _ hx => hx) ?_
    refine MonoL.cons (fun x w1 w2 _ _ _ hx => hx) ?_
    refine MonoL.cons (fun x w1 w2 _ _ _ hx => hx) ?_
    refine MonoL.cons (fun x w1 w2 _ _ _ hx => hx) ?_
    refine MonoL.cons (fun x w1 w2 _ _ _ hx => hx) ?_
    refine MonoL.cons (fun x w1 w2 _ _ _ hx => hx) ?_
    refine MonoL.cons (fun x w1 w2 _ _ _ hx => hx) ?_
    refine MonoL.cons (fun x w1 w2 _ _ _ hx => hx) ?_
    refine MonoL.cons (fun x w1 w2 _ _ _ hx => hx) ?_
    refine MonoL.cons (fun x w1 w2 _ _ _ hx => hx) ?_
    refine MonoL.cons (fun x w1 w2 _ _ _ hx => hx) ?_
    refine MonoL.cons (fun x w1 w2 _ _ _ hx => hx) ?_
    refine MonoL.cons (fun x w1 w2 _ _ _ hx => hx) ?_
    refine MonoL.cons (fun x w1 w2 _ _ _ hx => hx) ?_
    refine MonoL.cons (fun x w1 w2 _ _ _ hx => hx) ?_
    refine MonoL.cons (fun x w1 w2 _ _ _ hx => hx) ?_
    exact MonoL.nil
  case hsteps =>
    refine StepsT.cons (fun (x : Value) (w : World) => ∃ g, x = .slice (some ⟨g, 0, none⟩) 0 0 ∧ w2.heap.size ≤ g ∧ w.heap[g]? = some (.cells #[] 43 (0, 0))) [] rfl rfl (fun oq hop _ wq hQS => ?_) ?_
    · exact StepFrom.slice hop (vs := []) (by kernel_rfl) (slice_none wq) (by kernel_rfl) (hQS.trans (((Below.refl wq.heap.size wq).alloc (Nat.le_refl _) _).mono hQS.size)) (Ap.of ((Below.refl wq.heap.size wq).alloc (Nat.le_refl _) _)) ⟨_, rfl, hQS.size, heap_alloc_new wq _⟩
    refine StepsT.cons (fun (x : Value) (_ : World) => x = (.slice Ad nd cd : Value)) [] rfl rfl (fun oq hop _ wq hQS => ?_) ?_
    · exact StepFrom.move hop (v := (.slice Ad nd cd : Value)) (by kernel_rfl) (by kernel_rfl) hQS (Ap.of (Below.refl _ _)) rfl
    refine StepsT.cons (fun (x : Value) (w : World) => ∃ g cap, x = .slice (some ⟨g, 0, none⟩) nd cap ∧ w.ownsRow w2.heap.size 43 16 (.slice (some ⟨g, 0, none⟩) nd cap) nd X) [(21, (fun (x : Value) (w : World) => ∃ g, x = .slice (some ⟨g, 0, none⟩) 0 0 ∧ w2.heap.size ≤ g ∧ w.heap[g]? = some (.cells #[] 43 (0, 0)))), (22, (fun (x : Value) (_ : World) => x = (.slice Ad nd cd : Value)))] rfl rfl (fun oq hop _ wq hQS => ?_) ?_
    · refine StepFrom.more fun x21 h21 => ?_
      obtain ⟨g21, rfl, hg21, hh21⟩ := h21
      refine StepFrom.more_eq ((.slice Ad nd cd : Value)) ?_
      obtain ⟨g9, k9, w9, q1, q2, q3⟩ := app_one (base := w2.heap.size) (c := cd) oq.type hh21 hg21 (HX.out.below hQS (Nat.le_refl _)) HND.out (by omega)
      exact StepFrom.append hop (vx := (.slice (some ⟨g21, 0, none⟩) 0 0 : Value)) (vy := (.slice Ad nd cd : Value)) (by kernel_rfl) (by kernel_rfl) q1 (by kernel_rfl) (hQS.trans (q3.mono hQS.size)) (Ap.of q3) ⟨_, _, rfl, q2⟩
    refine StepsT.cons (fun (x : Value) (_ : World) => x = (.slice Ae ne ce : Value)) [] rfl rfl (fun oq hop _ wq hQS => ?_) ?_
    · exact StepFrom.move hop (v := (.slice Ae ne ce : Value)) (by kernel_rfl) (by kernel_rfl) hQS (Ap.of (Below.refl _ _)) rfl
    refine StepsT.cons (fun (x : Value) (w : World) => ∃ g cap, x = .slice (some ⟨g, 0, none⟩) (nd + ne) cap ∧ w.ownsRow w2.heap.size 43 16 (.slice (some ⟨g, 0, none⟩) (nd + ne) cap) (nd + ne) (X ++ Y)) [(23, (fun (x : Value) (w : World) => ∃ g cap, x = .slice (some ⟨g, 0, none⟩) nd cap ∧ w.ownsRow w2.heap.size 43 16 (.slice (some ⟨g, 0, none⟩) nd cap) nd X)), (24, (fun (x : Value) (_ : World) => x = (.slice Ae ne ce : Value)))] rfl rfl (fun oq hop _ wq hQS => ?_) ?_
    · refine StepFrom.more fun x23 h23 => ?_
      obtain ⟨g23, k23, rfl, o23⟩ := h23
      refine StepFrom.more_eq ((.slice Ae ne ce : Value)) ?_
      obtain ⟨g9, k9, w9, q1, q2, q3, q4⟩ := app_two (c := ce) oq.type o23 (HY.out.below hQS (Nat.le_refl _)) HNE.out (by omega) hQS.size
      exact StepFrom.append hop (vx := (.slice (some ⟨g23, 0, none⟩) nd k23 : Value)) (vy := (.slice Ae ne ce : Value)) (by kernel_rfl) (by kernel_rfl) q1 (by kernel_rfl) (hQS.trans q4) q3 ⟨_, _, rfl, q2⟩
    refine StepsT.cons (fun (x : Value) (_ : World) => x = (.agg #[.int .i64 t0, .int .i64 t1, .int .i64 t2, .slice T1 a1 b1, .slice T2 a2 b2] : Value)) [] rfl rfl (fun oq hop _ wq hQS => ?_) ?_
    · exact StepFrom.load hop (p := (.pointer (some ⟨w.heap.size, 0, none⟩) : Value)) (by kernel_rfl) (load_box9s Y1.out hQS) (by kernel_rfl) hQS (Ap.of (Below.refl _ _)) rfl
    refine StepsT.cons (fun (x : Value) (_ : World) => x = (.agg #[.int .i64 p0, .int .i64 p1, .int .i64 p2, .slice P1 c1 d1, .slice P2 c2 d2] : Value)) [] rfl rfl (fun oq hop _ wq hQS => ?_) ?_
    · exact StepFrom.load hop (p := (.pointer (some ⟨w.heap.size + 1, 0, none⟩) : Value)) (by kernel_rfl) (load_box9s Y2.out hQS) (by kernel_rfl) hQS (Ap.of (Below.refl _ _)) rfl
    refine StepsT.cons (fun (x : Value) (w : World) => ∃ g, x = .slice (some ⟨g, 0, none⟩) 2 2 ∧ w.heap[g]? = some (.cells #[.int .i64 t0, .int .i64 t1, .int .i64 t2, .slice T1 a1 b1, .slice T2 a2 b2, .int .i64 p0, .int .i64 p1, .int .i64 p2, .slice P1 c1 d1, .slice P2 c2 d2] 27 (0, 0))) [(26, (fun (x : Value) (_ : World) => x = (.agg #[.int .i64 t0, .int .i64 t1, .int .i64 t2, .slice T1 a1 b1, .slice T2 a2 b2] : Value))), (27, (fun (x : Value) (_ : World) => x = (.agg #[.int .i64 p0, .int .i64 p1, .int .i64 p2, .slice P1 c1 d1, .slice P2 c2 d2] : Value)))] rfl rfl (fun oq hop _ wq hQS => ?_) ?_
    · refine StepFrom.more_eq ((.agg #[.int .i64 t0, .int .i64 t1, .int .i64 t2, .slice T1 a1 b1, .slice T2 a2 b2] : Value)) ?_
      refine StepFrom.more_eq ((.agg #[.int .i64 p0, .int .i64 p1, .int .i64 p2, .slice P1 c1 d1, .slice P2 c2 d2] : Value)) ?_
      exact StepFrom.slice hop (vs := [(0, .agg #[.int .i64 t0, .int .i64 t1, .int .i64 t2, .slice T1 a1 b1, .slice T2 a2 b2]), (1, .agg #[.int .i64 p0, .int .i64 p1, .int .i64 p2, .slice P1 c1 d1, .slice P2 c2 d2])]) (by kernel_rfl) (slice_tmS wq) (by kernel_rfl) (hQS.trans (((Below.refl wq.heap.size wq).alloc (Nat.le_refl _) _).mono hQS.size)) (Ap.of ((Below.refl wq.heap.size wq).alloc (Nat.le_refl _) _)) ⟨_, rfl, heap_alloc_new wq _⟩
    refine StepsT.cons (fun (x : Value) (_ : World) => x = (.bool gb : Value)) [(25, (fun (x : Value) (w : World) => ∃ g cap, x = .slice (some ⟨g, 0, none⟩) (nd + ne) cap ∧ w.ownsRow w2.heap.size 43 16 (.slice (some ⟨g, 0, none⟩) (nd + ne) cap) (nd + ne) (X ++ Y))), (28, (fun (x : Value) (w : World) => ∃ g, x = .slice (some ⟨g, 0, none⟩) 2 2 ∧ w.heap[g]? = some (.cells #[.int .i64 t0, .int .i64 t1, .int .i64 t2, .slice T1 a1 b1, .slice T2 a2 b2, .int .i64 p0, .int .i64 p1, .int .i64 p2, .slice P1 c1 d1, .slice P2 c2 d2] 27 (0, 0))))] rfl rfl (fun oq hop _ wq hQS => ?_) ?_
    · refine StepFrom.more fun x25 h25 => ?_
      obtain ⟨g25, k25, rfl, o25⟩ := h25
      refine StepFrom.more fun x28 h28 => ?_
      obtain ⟨g28, rfl, hh28⟩ := h28
      exact StepFrom.call hop (vs := [(.slice (some ⟨g25, 0, none⟩) (nd + ne) k25 : Value), (.slice (some ⟨g28, 0, none⟩) 2 2 : Value)]) (by kernel_rfl) (fun w => enter_great11 _ w) (by kernel_rfl) ((HGR.out g25 k25 g28 wq hQS o25 hh28).mono fun e w9 h9 => by obtain ⟨q1, q2⟩ := h9; exact ⟨_, q1, hQS.trans (q2.mono hQS.size), Ap.of q2, rfl⟩)
    refine StepsT.cons (fun (x : Value) (_ : World) => x = (.bool gb : Value)) [(29, (fun (x : Value) (_ : World) => x = (.bool gb : Value)))] rfl rfl (fun oq hop _ wq hQS => ?_) ?_
    · refine StepFrom.more_eq ((.bool gb : Value)) ?_
      exact StepFrom.move hop (v := (.bool gb : Value)) (by kernel_rfl) (by kernel_rfl) hQS (Ap.of (Below.refl _ _)) rfl
    refine StepsT.cons (fun (x : Value) (_ : World) => x = gv (!gb) (.int .i64 sc)) [(30, (fun (x : Value) (_ : World) => x = (.bool gb : Value)))] rfl rfl (fun oq hop _ wq hQS => ?_) ?_
    · rcases gb with _ | _
      · refine StepFrom.more_eq ((.bool false : Value)) ?_
        exact StepFrom.move hop (v := (.int .i64 sc : Value)) (by kernel_rfl) (by kernel_rfl) hQS (Ap.of (Below.refl _ _)) rfl
      · refine StepFrom.more_eq ((.bool true : Value)) ?_
        exact StepFrom.off (by kernel_rfl) hQS (Ap.of (Below.refl _ _)) rfl
    refine StepsT.cons (fun (x : Value) (_ : World) => x = gv (!gb) (.bool ga1)) [(30, (fun (x : Value) (_ : World) => x = (.bool gb : Value))), (31, (fun (x : Value) (_ : World) => x = gv (!gb) (.int .i64 sc)))] rfl rfl (fun oq hop _ wq hQS => ?_) ?_
    · rcases gb with _ | _
      · refine StepFrom.more_eq ((.bool false : Value)) ?_
        refine StepFrom.more_eq ((.int .i64 sc : Value)) ?_
        exact StepFrom.bin hop (vx := (.int .i64 sc : Value)) (vy := (.int .i64 0 : Value)) (by kernel_rfl) (by kernel_rfl) (lss_toS _ _ _ HG1.out) (by kernel_rfl) hQS (Ap.of (Below.refl _ _)) rfl
      · refine StepFrom.more_eq ((.bool true : Value)) ?_
        refine StepFrom.more_eq (undef) ?_
        exact StepFrom.off (by kernel_rfl) hQS (Ap.of (Below.refl _ _)) rfl
    refine StepsT.cons (fun (x : Value) (_ : World) => x = (.bool bo1 : Value)) [(30, (fun (x : Value) (_ : World) => x = (.bool gb : Value))), (32, (fun (x : Value) (_ : World) => x = gv (!gb) (.bool ga1)))] rfl rfl (fun oq hop _ wq hQS => ?_) ?_
    · refine StepFrom.more_eq ((.bool gb : Value)) ?_
      refine StepFrom.more_eq (gv (!gb) (.bool ga1)) ?_
      exact StepFrom.pick hop (b := gb) (vx := (Value.bool true : Value)) (vy := gv (!gb) (.bool ga1)) (by kernel_rfl) (by kernel_rfl) (by kernel_rfl) (by kernel_rfl) hQS (Ap.of (Below.refl _ _)) (by rw [← HB1.out]; cases gb <;> cases ga1 <;> rfl)
    refine StepsT.cons (fun (x : Value) (_ : World) => x = (.bool bo1 : Value)) [(33, (fun (x : Value) (_ : World) => x = (.bool bo1 : Value)))] rfl rfl (fun oq hop _ wq hQS => ?_) ?_
    · refine StepFrom.more_eq ((.bool bo1 : Value)) ?_
      exact StepFrom.move hop (v := (.bool bo1 : Value)) (by kernel_rfl) (by kernel_rfl) hQS (Ap.of (Below.refl _ _)) rfl
    refine StepsT.cons (fun (x : Value) (_ : World) => x = gv (!bo1) (.int .i64 sc)) [(34, (fun (x : Value) (_ : World) => x = (.bool bo1 : Value)))] rfl rfl (fun oq hop _ wq hQS => ?_) ?_
    · rcases bo1 with _ | _
      · refine StepFrom.more_eq ((.bool false : Value)) ?_
        exact StepFrom.move hop (v := (.int .i64 sc : Value)) (by kernel_rfl) (by kernel_rfl) hQS (Ap.of (Below.refl _ _)) rfl
      · refine StepFrom.more_eq ((.bool true : Value)) ?_
        exact StepFrom.off (by kernel_rfl) hQS (Ap.of (Below.refl _ _)) rfl
    refine StepsT.cons (fun (x : Value) (_ : World) => x = gv (!bo1) (.bool ga2)) [(34, (fun (x : Value) (_ : World) => x = (.bool bo1 : Value))), (35, (fun (x : Value) (_ : World) => x = gv (!bo1) (.int .i64 sc)))] rfl rfl (fun oq hop _ wq hQS => ?_) ?_
    · rcases bo1 with _ | _
      · refine StepFrom.more_eq ((.bool false : Value)) ?_
        refine StepFrom.more_eq ((.int .i64 sc : Value)) ?_
        exact StepFrom.bin hop (vx := (.int .i64 sc : Value)) (vy := (.int .i64 100 : Value)) (by kernel_rfl) (by kernel_rfl) (gtr_to _ _ _ HG2.out) (by kernel_rfl) hQS (Ap.of (Below.refl _ _)) rfl
      · refine StepFrom.more_eq ((.bool true : Value)) ?_
        refine StepFrom.more_eq (undef) ?_
        exact StepFrom.off (by kernel_rfl) hQS (Ap.of (Below.refl _ _)) rfl
    refine StepsT.cons (fun (x : Value) (_ : World) => x = (.bool bo2 : Value)) [(34, (fun (x : Value) (_ : World) => x = (.bool bo1 : Value))), (36, (fun (x : Value) (_ : World) => x = gv (!bo1) (.bool ga2)))] rfl rfl (fun oq hop _ wq hQS => ?_) ?_
    · refine StepFrom.more_eq ((.bool bo1 : Value)) ?_
      refine StepFrom.more_eq (gv (!bo1) (.bool ga2)) ?_
      exact StepFrom.pick hop (b := bo1) (vx := (Value.bool true : Value)) (vy := gv (!bo1) (.bool ga2)) (by kernel_rfl) (by kernel_rfl) (by kernel_rfl) (by kernel_rfl) hQS (Ap.of (Below.refl _ _)) (by rw [← HB2q.out]; cases bo1 <;> cases ga2 <;> rfl)
    refine StepsT.cons (fun (x : Value) (_ : World) => x = (.bool bo2 : Value)) [(37, (fun (x : Value) (_ : World) => x = (.bool bo2 : Value)))] rfl rfl (fun oq hop _ wq hQS => ?_) ?_
    · refine StepFrom.more_eq ((.bool bo2 : Value)) ?_
      exact StepFrom.move hop (v := (.bool bo2 : Value)) (by kernel_rfl) (by kernel_rfl) hQS (Ap.of (Below.refl _ _)) rfl
    refine StepsT.cons (fun (x : Value) (_ : World) => x = gv (!bo2) (.int .i64 n)) [(38, (fun (x : Value) (_ : World) => x = (.bool bo2 : Value)))] rfl rfl (fun oq hop _ wq hQS => ?_) ?_
    · rcases bo2 with _ | _
      · refine StepFrom.more_eq ((.bool false : Value)) ?_
        exact StepFrom.move hop (v := (.int .i64 n : Value)) (by kernel_rfl) (by kernel_rfl) hQS (Ap.of (Below.refl _ _)) rfl
      · refine StepFrom.more_eq ((.bool true : Value)) ?_
        exact StepFrom.off (by kernel_rfl) hQS (Ap.of (Below.refl _ _)) rfl
    refine StepsT.cons (fun (x : Value) (_ : World) => x = gv (!bo2) (.bool ga3)) [(38, (fun (x : Value) (_ : World) => x = (.bool bo2 : Value))), (39, (fun (x : Value) (_ : World) => x = gv (!bo2) (.int .i64 n)))] rfl rfl (fun oq hop _ wq hQS => ?_) ?_
    · rcases bo2 with _ | _
      · refine StepFrom.more_eq ((.bool false : Value)) ?_
        refine StepFrom.more_eq ((.int .i64 n : Value)) ?_
        exact StepFrom.bin hop (vx := (.int .i64 n : Value)) (vy := (.int .i64 1000 : Value)) (by kernel_rfl) (by kernel_rfl) (gtr_to _ _ _ HG3.out) (by kernel_rfl) hQS (Ap.of (Below.refl _ _)) rfl
      · refine StepFrom.more_eq ((.bool true : Value)) ?_
        refine StepFrom.more_eq (undef) ?_
        exact StepFrom.off (by kernel_rfl) hQS (Ap.of (Below.refl _ _)) rfl
    refine StepsT.cons (fun (x : Value) (_ : World) => x = (.bool bo3 : Value)) [(38, (fun (x : Value) (_ : World) => x = (.bool bo2 : Value))), (40, (fun (x : Value) (_ : World) => x = gv (!bo2) (.bool ga3)))] rfl rfl (fun oq hop _ wq hQS => ?_) ?_
    · refine StepFrom.more_eq ((.bool bo2 : Value)) ?_
      refine StepFrom.more_eq (gv (!bo2) (.bool ga3)) ?_
      exact StepFrom.pick hop (b := bo2) (vx := (Value.bool true : Value)) (vy := gv (!bo2) (.bool ga3)) (by kernel_rfl) (by kernel_rfl) (by kernel_rfl) (by kernel_rfl) hQS (Ap.of (Below.refl _ _)) (by rw [← HB3.out]; cases bo2 <;> cases ga3 <;> rfl)
    refine StepsT.cons (fun (x : Value) (_ : World) => x = (.bool bo3 : Value)) [(41, (fun (x : Value) (_ : World) => x = (.bool bo3 : Value)))] rfl rfl (fun oq hop _ wq hQS => ?_) ?_
    · refine StepFrom.more_eq ((.bool bo3 : Value)) ?_
      exact StepFrom.move hop (v := (.bool bo3 : Value)) (by kernel_rfl) (by kernel_rfl) hQS (Ap.of (Below.refl _ _)) rfl
    refine StepsT.cons (fun (x : Value) (_ : World) => x = gv (!bo3) (.int .i64 sf)) [(42, (fun (x : Value) (_ : World) => x = (.bool bo3 : Value)))] rfl rfl (fun oq hop _ wq hQS => ?_) ?_
    · rcases bo3 with _ | _
      · refine StepFrom.more_eq ((.bool false : Value)) ?_
        exact StepFrom.move hop (v := (.int .i64 sf : Value)) (by kernel_rfl) (by kernel_rfl) hQS (Ap.of (Below.refl _ _)) rfl
      · refine StepFrom.more_eq ((.bool true : Value)) ?_
        exact StepFrom.off (by kernel_rfl) hQS (Ap.of (Below.refl _ _)) rfl
    refine StepsT.cons (fun (x : Value) (_ : World) => x = gv (!bo3) (.bool ga4)) [(42, (fun (x : Value) (_ : World) => x = (.bool bo3 : Value))), (43, (fun (x : Value) (_ : World) => x = gv (!bo3) (.int .i64 sf)))] rfl rfl (fun oq hop _ wq hQS => ?_) ?_
    · rcases bo3 with _ | _
      · refine StepFrom.more_eq ((.bool false : Value)) ?_
        refine StepFrom.more_eq ((.int .i64 sf : Value)) ?_
        exact StepFrom.bin hop (vx := (.int .i64 sf : Value)) (vy := (.int .i64 1000 : Value)) (by kernel_rfl) (by kernel_rfl) (gtr_to _ _ _ HG4.out) (by kernel_rfl) hQS (Ap.of (Below.refl _ _)) rfl
      · refine StepFrom.more_eq ((.bool true : Value)) ?_
        refine StepFrom.more_eq (undef) ?_
        exact StepFrom.off (by kernel_rfl) hQS (Ap.of (Below.refl _ _)) rfl
    refine StepsT.cons (fun (x : Value) (_ : World) => x = (.bool bo4 : Value)) [(42, (fun (x : Value) (_ : World) => x = (.bool bo3 : Value))), (44, (fun (x : Value) (_ : World) => x = gv (!bo3) (.bool ga4)))] rfl rfl (fun oq hop _ wq hQS => ?_) ?_
    · refine StepFrom.more_eq ((.bool bo3 : Value)) ?_
      refine StepFrom.more_eq (gv (!bo3) (.bool ga4)) ?_
      exact StepFrom.pick hop (b := bo3) (vx := (Value.bool true : Value)) (vy := gv (!bo3) (.bool ga4)) (by kernel_rfl) (by kernel_rfl) (by kernel_rfl) (by kernel_rfl) hQS (Ap.of (Below.refl _ _)) (by rw [← HB4.out]; cases bo3 <;> cases ga4 <;> rfl)
    refine StepsT.cons (fun (x : Value) (_ : World) => x = (.bool bo4 : Value)) [(45, (fun (x : Value) (_ : World) => x = (.bool bo4 : Value)))] rfl rfl (fun oq hop _ wq hQS => ?_) ?_
    · refine StepFrom.more_eq ((.bool bo4 : Value)) ?_
      exact StepFrom.move hop (v := (.bool bo4 : Value)) (by kernel_rfl) (by kernel_rfl) hQS (Ap.of (Below.refl _ _)) rfl
    refine StepsT.cons (fun (x : Value) (_ : World) => x = gv (!bo4) (.int .i64 mo)) [(46, (fun (x : Value) (_ : World) => x = (.bool bo4 : Value)))] rfl rfl (fun oq hop _ wq hQS => ?_) ?_
    · rcases bo4 with _ | _
      · refine StepFrom.more_eq ((.bool false : Value)) ?_
        exact StepFrom.move hop (v := (.int .i64 mo : Value)) (by kernel_rfl) (by kernel_rfl) hQS (Ap.of (Below.refl _ _)) rfl
      · refine StepFrom.more_eq ((.bool true : Value)) ?_
        exact StepFrom.off (by kernel_rfl) hQS (Ap.of (Below.refl _ _)) rfl
    refine StepsT.cons (fun (x : Value) (_ : World) => x = gv (!bo4) (.bool ga5)) [(46, (fun (x : Value) (_ : World) => x = (.bool bo4 : Value))), (47, (fun (x : Value) (_ : World) => x = gv (!bo4) (.int .i64 mo)))] rfl rfl (fun oq hop _ wq hQS => ?_) ?_
    · rcases bo4 with _ | _
      · refine StepFrom.more_eq ((.bool false : Value)) ?_
        refine StepFrom.more_eq ((.int .i64 mo : Value)) ?_
        exact StepFrom.bin hop (vx := (.int .i64 mo : Value)) (vy := (.int .i64 0 : Value)) (by kernel_rfl) (by kernel_rfl) (lss_toS _ _ _ HG5.out) (by kernel_rfl) hQS (Ap.of (Below.refl _ _)) rfl
      · refine StepFrom.more_eq ((.bool true : Value)) ?_
        refine StepFrom.more_eq (undef) ?_
        exact StepFrom.off (by kernel_rfl) hQS (Ap.of (Below.refl _ _)) rfl
    refine StepsT.cons (fun (x : Value) (_ : World) => x = (.bool bo5 : Value)) [(46, (fun (x : Value) (_ : World) => x = (.bool bo4 : Value))), (48, (fun (x : Value) (_ : World) => x = gv (!bo4) (.bool ga5)))] rfl rfl (fun oq hop _ wq hQS => ?_) ?_
    · refine StepFrom.more_eq ((.bool bo4 : Value)) ?_
      refine StepFrom.more_eq (gv (!bo4) (.bool ga5)) ?_
      exact StepFrom.pick hop (b := bo4) (vx := (Value.bool true : Value)) (vy := gv (!bo4) (.bool ga5)) (by kernel_rfl) (by kernel_rfl) (by kernel_rfl) (by kernel_rfl) hQS (Ap.of (Below.refl _ _)) (by rw [← HB5.out]; cases bo4 <;> cases ga5 <;> rfl)
    refine StepsT.cons (fun (x : Value) (_ : World) => x = (.bool bo5 : Value)) [(49, (fun (x : Value) (_ : World) => x = (.bool bo5 : Value)))] rfl rfl (fun oq hop _ wq hQS => ?_) ?_
    · refine StepFrom.more_eq ((.bool bo5 : Value)) ?_
      exact StepFrom.move hop (v := (.bool bo5 : Value)) (by kernel_rfl) (by kernel_rfl) hQS (Ap.of (Below.refl _ _)) rfl
    refine StepsT.cons (fun (x : Value) (_ : World) => x = gv (!bo5) (.int .i64 mo)) [(50, (fun (x : Value) (_ : World) => x = (.bool bo5 : Value)))] rfl rfl (fun oq hop _ wq hQS => ?_) ?_
    · rcases bo5 with _ | _
      · refine StepFrom.more_eq ((.bool false : Value)) ?_
        exact StepFrom.move hop (v := (.int .i64 mo : Value)) (by kernel_rfl) (by kernel_rfl) hQS (Ap.of (Below.refl _ _)) rfl
      · refine StepFrom.more_eq ((.bool true : Value)) ?_
        exact StepFrom.off (by kernel_rfl) hQS (Ap.of (Below.refl _ _)) rfl
    refine StepsT.cons (fun (x : Value) (_ : World) => x = gv (!bo5) (.bool ga6)) [(50, (fun (x : Value) (_ : World) => x = (.bool bo5 : Value))), (51, (fun (x : Value) (_ : World) => x = gv (!bo5) (.int .i64 mo)))] rfl rfl (fun oq hop _ wq hQS => ?_) ?_
    · rcases bo5 with _ | _
      · refine StepFrom.more_eq ((.bool false : Value)) ?_
        refine StepFrom.more_eq ((.int .i64 mo : Value)) ?_
        exact StepFrom.bin hop (vx := (.int .i64 mo : Value)) (vy := (.int .i64 100 : Value)) (by kernel_rfl) (by kernel_rfl) (gtr_to _ _ _ HG6.out) (by kernel_rfl) hQS (Ap.of (Below.refl _ _)) rfl
      · refine StepFrom.more_eq ((.bool true : Value)) ?_
        refine StepFrom.more_eq (undef) ?_
        exact StepFrom.off (by kernel_rfl) hQS (Ap.of (Below.refl _ _)) rfl
    refine StepsT.cons (fun (x : Value) (_ : World) => x = (.bool bo6 : Value)) [(50, (fun (x : Value) (_ : World) => x = (.bool bo5 : Value))), (52, (fun (x : Value) (_ : World) => x = gv (!bo5) (.bool ga6)))] rfl rfl (fun oq hop _ wq hQS => ?_) ?_
    · refine StepFrom.more_eq ((.bool bo5 : Value)) ?_
      refine StepFrom.more_eq (gv (!bo5) (.bool ga6)) ?_
      exact StepFrom.pick hop (b := bo5) (vx := (Value.bool true : Value)) (vy := gv (!bo5) (.bool ga6)) (by kernel_rfl) (by kernel_rfl) (by kernel_rfl) (by kernel_rfl) hQS (Ap.of (Below.refl _ _)) (by rw [← HB6.out]; cases bo5 <;> cases ga6 <;> rfl)
    refine StepsT.cons (fun (x : Value) (_ : World) => x = (.bool bo6 : Value)) [(53, (fun (x : Value) (_ : World) => x = (.bool bo6 : Value)))] rfl rfl (fun oq hop _ wq hQS => ?_) ?_
    · refine StepFrom.more_eq ((.bool bo6 : Value)) ?_
      exact StepFrom.move hop (v := (.bool bo6 : Value)) (by kernel_rfl) (by kernel_rfl) hQS (Ap.of (Below.refl _ _)) rfl
    refine StepsT.cons (fun (x : Value) (_ : World) => x = gv (!bo6) (.slice Ad nd cd)) [(54, (fun (x : Value) (_ : World) => x = (.bool bo6 : Value)))] rfl rfl (fun oq hop _ wq hQS => ?_) ?_
    · rcases bo6 with _ | _
      · refine StepFrom.more_eq ((.bool false : Value)) ?_
        exact StepFrom.move hop (v := (.slice Ad nd cd : Value)) (by kernel_rfl) (by kernel_rfl) hQS (Ap.of (Below.refl _ _)) rfl
      · refine StepFrom.more_eq ((.bool true : Value)) ?_
        exact StepFrom.off (by kernel_rfl) hQS (Ap.of (Below.refl _ _)) rfl
    refine StepsT.cons (fun (x : Value) (_ : World) => x = gv (!bo6) (.int .i64 n)) [(54, (fun (x : Value) (_ : World) => x = (.bool bo6 : Value)))] rfl rfl (fun oq hop _ wq hQS => ?_) ?_
    · rcases bo6 with _ | _
      · refine StepFrom.more_eq ((.bool false : Value)) ?_
        exact StepFrom.move hop (v := (.int .i64 n : Value)) (by kernel_rfl) (by kernel_rfl) hQS (Ap.of (Below.refl _ _)) rfl
      · refine StepFrom.more_eq ((.bool true : Value)) ?_
        exact StepFrom.off (by kernel_rfl) hQS (Ap.of (Below.refl _ _)) rfl
    refine StepsT.cons (fun (x : Value) (_ : World) => x = gv (!bo6) (.int .i64 sc)) [(54, (fun (x : Value) (_ : World) => x = (.bool bo6 : Value)))] rfl rfl (fun oq hop _ wq hQS => ?_) ?_
    · rcases bo6 with _ | _
      · refine StepFrom.more_eq ((.bool false : Value)) ?_
        exact StepFrom.move hop (v := (.int .i64 sc : Value)) (by kernel_rfl) (by kernel_rfl) hQS (Ap.of (Below.refl _ _)) rfl
      · refine StepFrom.more_eq ((.bool true : Value)) ?_
        exact StepFrom.off (by kernel_rfl) hQS (Ap.of (Below.refl _ _)) rfl
    refine StepsT.cons (fun (x : Value) (_ : World) => x = gv (!bo6) (.int .i64 sf)) [(54, (fun (x : Value) (_ : World) => x = (.bool bo6 : Value)))] rfl rfl (fun oq hop _ wq hQS => ?_) ?_
    · rcases bo6 with _ | _
      · refine StepFrom.more_eq ((.bool false : Value)) ?_
        exact StepFrom.move hop (v := (.int .i64 sf : Value)) (by kernel_rfl) (by kernel_rfl) hQS (Ap.of (Below.refl _ _)) rfl
      · refine StepFrom.more_eq ((.bool true : Value)) ?_
        exact StepFrom.off (by kernel_rfl) hQS (Ap.of (Below.refl _ _)) rfl
    refine StepsT.cons (fun (x : Value) (_ : World) => x = gv (!bo6) (.agg #[.int .i64 t0, .int .i64 t1, .int .i64 t2, .slice T1 a1 b1, .slice T2 a2 b2])) [(54, (fun (x : Value) (_ : World) => x = (.bool bo6 : Value)))] rfl rfl (fun oq hop _ wq hQS => ?_) ?_
    · rcases bo6 with _ | _
      · refine StepFrom.more_eq ((.bool false : Value)) ?_
        exact StepFrom.load hop (p := (.pointer (some ⟨w.heap.size, 0, none⟩) : Value)) (by kernel_rfl) (load_box9s Y1.out hQS) (by kernel_rfl) hQS (Ap.of (Below.refl _ _)) rfl
      · refine StepFrom.more_eq ((.bool true : Value)) ?_
        exact StepFrom.off (by kernel_rfl) hQS (Ap.of (Below.refl _ _)) rfl
    refine StepsT.cons (fun (x : Value) (_ : World) => x = gv (!bo6) (.bool rr)) [(54, (fun (x : Value) (_ : World) => x = (.bool bo6 : Value))), (55, (fun (x : Value) (_ : World) => x = gv (!bo6) (.slice Ad nd cd))), (56, (fun (x : Value) (_ : World) => x = gv (!bo6) (.int .i64 n))), (57, (fun (x : Value) (_ : World) => x = gv (!bo6) (.int .i64 sc))), (58, (fun (x : Value) (_ : World) => x = gv (!bo6) (.int .i64 sf))), (59, (fun (x : Value) (_ : World) => x = gv (!bo6) (.agg #[.int .i64 t0, .int .i64 t1, .int .i64 t2, .slice T1 a1 b1, .slice T2 a2 b2])))] rfl rfl (fun oq hop _ wq hQS => ?_) ?_
    · rcases bo6 with _ | _
      · refine StepFrom.more_eq ((.bool false : Value)) ?_
        refine StepFrom.more_eq ((.slice Ad nd cd : Value)) ?_
        refine StepFrom.more_eq ((.int .i64 n : Value)) ?_
        refine StepFrom.more_eq ((.int .i64 sc : Value)) ?_
        refine StepFrom.more_eq ((.int .i64 sf : Value)) ?_
        refine StepFrom.more_eq ((.agg #[.int .i64 t0, .int .i64 t1, .int .i64 t2, .slice T1 a1 b1, .slice T2 a2 b2] : Value)) ?_
        exact StepFrom.call hop (vs := [(.slice Ad nd cd : Value), (.int .i64 n : Value), (.int .i64 sc : Value), (.int .i64 sf : Value), (.agg #[.int .i64 t0, .int .i64 t1, .int .i64 t2, .slice T1 a1 b1, .slice T2 a2 b2] : Value)]) (by kernel_rfl) (fun w => enter_srightX _ w) (by kernel_rfl) ((HRT.out wq hQS).mono fun e w9 h9 => by obtain ⟨q1, q2⟩ := h9; exact ⟨_, q1, hQS.trans (q2.mono hQS.size), Ap.of q2, rfl⟩)
      · refine StepFrom.more_eq ((.bool true : Value)) ?_
        refine StepFrom.more_eq (undef) ?_
        refine StepFrom.more_eq (undef) ?_
        refine StepFrom.more_eq (undef) ?_
        refine StepFrom.more_eq (undef) ?_
        refine StepFrom.more_eq (undef) ?_
        exact StepFrom.off (by kernel_rfl) hQS (Ap.of (Below.refl _ _)) rfl
    refine StepsT.cons (fun (x : Value) (_ : World) => x = gv (!bo6) (.bool (!rr))) [(54, (fun (x : Value) (_ : World) => x = (.bool bo6 : Value))), (60, (fun (x : Value) (_ : World) => x = gv (!bo6) (.bool rr)))] rfl rfl (fun oq hop _ wq hQS => ?_) ?_
    · rcases bo6 with _ | _
      · refine StepFrom.more_eq ((.bool false : Value)) ?_
        refine StepFrom.more_eq ((.bool rr : Value)) ?_
        exact StepFrom.not hop (b := rr) (by kernel_rfl) (by kernel_rfl) hQS (Ap.of (Below.refl _ _)) rfl
      · refine StepFrom.more_eq ((.bool true : Value)) ?_
        refine StepFrom.more_eq (undef) ?_
        exact StepFrom.off (by kernel_rfl) hQS (Ap.of (Below.refl _ _)) rfl
    refine StepsT.cons (fun (x : Value) (_ : World) => x = (.bool bz : Value)) [(54, (fun (x : Value) (_ : World) => x = (.bool bo6 : Value))), (61, (fun (x : Value) (_ : World) => x = gv (!bo6) (.bool (!rr))))] rfl rfl (fun oq hop _ wq hQS => ?_) ?_
    · refine StepFrom.more_eq ((.bool bo6 : Value)) ?_
      refine StepFrom.more_eq (gv (!bo6) (.bool (!rr))) ?_
      exact StepFrom.pick hop (b := bo6) (vx := (Value.bool true : Value)) (vy := gv (!bo6) (.bool (!rr))) (by kernel_rfl) (by kernel_rfl) (by kernel_rfl) (by kernel_rfl) hQS (Ap.of (Below.refl _ _)) (by rw [← HBZ.out]; cases bo6 <;> cases rr <;> rfl)
    exact StepsT.nil
  case hfin =>
    intro wf hFS
    refine FinalFrom.more fun x21 h21 => ?_
    refine FinalFrom.more fun x22 h22 => ?_
    refine FinalFrom.more fun x23 h23 => ?_
    refine FinalFrom.more fun x24 h24 => ?_
    refine FinalFrom.more fun x25 h25 => ?_
    refine FinalFrom.more fun x26 h26 => ?_
    refine FinalFrom.more fun x27 h27 => ?_
    refine FinalFrom.more fun x28 h28 => ?_
    refine FinalFrom.more fun x29 h29 => ?_
    refine FinalFrom.more fun x30 h30 => ?_
    refine FinalFrom.more fun x31 h31 => ?_
    refine FinalFrom.more fun x32 h32 => ?_
    refine FinalFrom.more fun x33 h33 => ?_
    refine FinalFrom.more fun x34 h34 => ?_
    refine FinalFrom.more fun x35 h35 => ?_
    refine FinalFrom.more fun x36 h36 => ?_
    refine FinalFrom.more fun x37 h37 => ?_
    refine FinalFrom.more fun x38 h38 => ?_
    refine FinalFrom.more fun x39 h39 => ?_
    refine FinalFrom.more fun x40 h40 => ?_
    refine FinalFrom.more fun x41 h41 => ?_
    refine FinalFrom.more fun x42 h42 => ?_
    refine FinalFrom.more fun x43 h43 => ?_
    refine FinalFrom.more fun x44 h44 => ?_
    refine FinalFrom.more fun x45 h45 => ?_
    refine FinalFrom.more fun x46 h46 => ?_
    refine FinalFrom.more fun x47 h47 => ?_
    refine FinalFrom.more fun x48 h48 => ?_
    refine FinalFrom.more fun x49 h49 => ?_
    refine FinalFrom.more fun x50 h50 => ?_
    refine FinalFrom.more fun x51 h51 => ?_
    refine FinalFrom.more fun x52 h52 => ?_
    refine FinalFrom.more fun x53 h53 => ?_
    refine FinalFrom.more fun x54 h54 => ?_
    refine FinalFrom.more fun x55 h55 => ?_
    refine FinalFrom.more fun x56 h56 => ?_
    refine FinalFrom.more fun x57 h57 => ?_
    refine FinalFrom.more fun x58 h58 => ?_
    refine FinalFrom.more fun x59 h59 => ?_
    refine FinalFrom.more fun x60 h60 => ?_
    refine FinalFrom.more fun x61 h61 => ?_
    refine FinalFrom.more fun x62 h62 => ?_
    refine FinalFrom.done ?_
    obtain rfl : x62 = (.bool bz : Value) := h62
    simp only [Act.put, List.setIfInBounds_toArray, List.set_cons_zero, List.set_cons_succ]
    have HWF : Hid (Below w2.heap.size w2 wf) := hFS
    clear hS hFS
    cases bz with
    | true =>
      have HF : Hid (Below w.heap.size w wf) := HB2.out.trans (HWF.out.mono HB2.out.size)
      go_wp2
      go_ret
      exact ⟨rfl, HF.out⟩
    | false =>
      have HALL : Hid (0 ≤ sc ∧ sc ≤ 100 ∧ n ≤ 1000 ∧ sf ≤ 1000 ∧ 0 ≤ mo ∧ mo ≤ 100 ∧ RightSrc n sc sf dl tt) := by
        have e1 := HB1.out
        have e2 := HB2q.out
        have e3 := HB3.out
        have e4 := HB4.out
        have e5 := HB5.out
        have e6 := HB6.out
        have e7 := HBZ.out
        have q1 := HG1.out
        have q2 := HG2.out
        have q3 := HG3.out
        have q4 := HG4.out
        have q5 := HG5.out
        have q6 := HG6.out
        have q7 := HRR.out
        have h7 : bo6 = false ∧ rr = true := by cases bo6 <;> cases rr <;> simp_all
        have h6 : bo5 = false ∧ ga6 = false := by rw [h7.1] at e6; cases bo5 <;> cases ga6 <;> simp_all
        have h5 : bo4 = false ∧ ga5 = false := by rw [h6.1] at e5; cases bo4 <;> cases ga5 <;> simp_all
        have h4 : bo3 = false ∧ ga4 = false := by rw [h5.1] at e4; cases bo3 <;> cases ga4 <;> simp_all
        have h3 : bo2 = false ∧ ga3 = false := by rw [h4.1] at e3; cases bo2 <;> cases ga3 <;> simp_all
        have h2 : bo1 = false ∧ ga2 = false := by rw [h3.1] at e2; cases bo1 <;> cases ga2 <;> simp_all
        have h1 : gb = false ∧ ga1 = false := by rw [h2.1] at e1; cases gb <;> cases ga1 <;> simp_all
        rw [h1.2] at q1
        rw [h2.2] at q2
        rw [h3.2] at q3
        rw [h4.2] at q4
        rw [h5.2] at q5
        rw [h6.2] at q6
        rw [h7.2] at q7
        have q1 := of_decide_eq_false q1
        have q2 := of_decide_eq_false q2
        have q3 := of_decide_eq_false q3
        have q4 := of_decide_eq_false q4
        have q5 := of_decide_eq_false q5
        have q6 := of_decide_eq_false q6
        exact ⟨by omega, by omega, by omega, by omega, by omega, by omega, (rightSB_iff ..).1 q7⟩
      clear HG1 HG2 HG3 HG4 HG5 HG6 HB1 HB2q HB3 HB4 HB5 HB6 HBZ HRT HGR HRR
      obtain ⟨w5, hw5⟩ : ∃ x, wf.alloc (.cells #[] 43) = x := ⟨_, rfl⟩
      have hb5 : Below wf.heap.size wf w5 := by rw [← hw5]; exact (Below.refl _ _).alloc (Nat.le_refl _) _
      have x5 : w5.heap[wf.heap.size]? = some (.cells #[] 43 (0, 0)) := by rw [← hw5]; exact heap_alloc_new wf _
      have hbw5 : Below w2.heap.size w2 w5 := HWF.out.trans (hb5.mono HWF.out.size)
      obtain ⟨g6, k6, w6, r6, o6, q6⟩ := app_one (base := w2.heap.size) (c := cd) 22 x5 HWF.out.size (HX.out.below hbw5 (Nat.le_refl _)) HND.out (by omega)
      have hbw6 : Below w2.heap.size w2 w6 := hbw5.trans (q6.mono hbw5.size)
      obtain ⟨g7, k7, w7, r7, o7, _, q7⟩ := app_two (c := ce) 22 o6 (HY.out.below hbw6 (Nat.le_refl _)) HNE.out (by omega) hbw6.size
      have hbw7 : Below w2.heap.size w2 w7 := hbw6.trans q7
      have HW7 := Lib.hid hbw7
      have hx7 : Below w.heap.size w w7 := HB2.out.trans (hbw7.mono HB2.out.size)
      have HB7 := Lib.hid hx7
      have y1 := (hbw7.block _ (heap_some_lt Y1.out)).trans Y1.out
      have V1 := Lib.hid y1
      have V2 := Lib.hid ((hbw7.block _ (heap_some_lt Y2.out)).trans Y2.out)
      have e0 := cell_of_row _ _ 0 _ _ (0, 0) y1
      have e1 := cell_of_row _ _ 1 _ _ (0, 0) y1
      have e2 := cell_of_row _ _ 2 _ _ (0, 0) y1
      have e3 := cell_of_row _ _ 3 _ _ (0, 0) y1
      have e4 := cell_of_row _ _ 4 _ _ (0, 0) y1
      have hlen : (dl ++ gl).length = nd + ne := by rw [List.length_append, HND.out, HNE.out]
      have hs1 : IntKind.i64.wrap (n + mo) = n + mo := IntWalk.i64_in _ (by have h1 := HRN.out; have h2 := HALL.out; unfold Rng at h1; omega)
      have hs2 : IntKind.i64.wrap (sc + mo) = sc + mo := IntWalk.i64_in _ (by have h1 := HRN.out; have h2 := HALL.out; unfold Rng at h1; omega)
      have hs3 : IntKind.i64.wrap (sf + mo) = sf + mo := IntWalk.i64_in _ (by have h1 := HRN.out; have h2 := HALL.out; unfold Rng at h1; omega)
      have HR1 : Hid (Calls Tryd.prog 9 #[.slice (some ⟨g7, 0, none⟩) (nd + ne) k7, .int .i64 (n + mo), .int .i64 (sc + mo), .int .i64 (sf + mo), .agg #[.int .i64 t0, .int .i64 t1, .int .i64 t2, .slice T1 a1 b1, .slice T2 a2 b2]] w7 (HasPost w7 true)) := by
        have h := rightS_any (n + mo) (sc + mo) (sf + mo) (dl ++ gl) (some ⟨g7, 0, none⟩) (nd + ne) k7 tt _ w7 (HK.out.below hx7 hw0) (dcs_own o7 hlen HAT.out hbw7 hbw7.size) hlen HFT.out (by have := HTS.out; omega) (HT.out.below hx7 hx7.size)
        obtain ⟨l1, l2, l3, l4, l5, l6, l7, l8⟩ := HALL.out
        rw [(rightSB_iff ..).2 ⟨l7, src_more (by omega) (by omega) (by omega) gl tt 0 l8⟩] at h
        exact h
      clear hb5 x5 hbw5 hbw6 hbw7 o6 o7 q6 q7 hx7 y1 hlen
      go_wp2_with (first | (refine wpList_appR rfl (.tmp 63) (.tmp 64) 22 rfl rfl rfl r6 ?_) | (refine wpList_appR rfl (.tmp 65) (.tmp 66) 22 rfl rfl rfl r7 ?_) | fail)
      refine HR1.out.mono ?_
      rintro e w8 ⟨rfl, hb8⟩
      clear HR1 r6 r7 hs1 hs3 e0 e1 e2 e3 e4 hw5
      have hx8 : Below w.heap.size w w8 := HB7.out.trans (hb8.mono HB7.out.size)
      have HB8 := Lib.hid hx8
      have y1 := (hb8.block _ (heap_some_lt V1.out)).trans V1.out
      have V1 := Lib.hid y1
      have V2 := Lib.hid ((hb8.block _ (heap_some_lt V2.out)).trans V2.out)
      have e0 := cell_of_row _ _ 0 _ _ (0, 0) y1
      have e1 := cell_of_row _ _ 1 _ _ (0, 0) y1
      have e2 := cell_of_row _ _ 2 _ _ (0, 0) y1
      have e3 := cell_of_row _ _ 3 _ _ (0, 0) y1
      have e4 := cell_of_row _ _ 4 _ _ (0, 0) y1
      have HLI := Lib.hid (lift_any tt HFT.out _ w8 mo 0 (by have := HTS.out; omega) (HK.out.below hx8 hw0).binds (HT.out.below hx8 hx8.size))
      clear hb8 hx8 y1
      go_wp2_with (fail)
      refine HLI.out.mono ?_
      rintro e w9 ⟨v9, rfl, hown9, hb9⟩
      obtain ⟨k9, n9, a9, lv9, kd9⟩ : ∃ k n a lv kids, tt.walk (liftT mo 0) 0 = .mk k n a lv kids := by
        obtain ⟨k, n, a, lv, kids⟩ := tt
        rw [Tm.walk_go (tr := liftT mo 0) rfl]
        exact ⟨_, _, _, _, _, rfl⟩
      clear HLI e0 e1 e2 e3 e4
      have hx9 : Below w.heap.size w w9 := HB8.out.trans (hb9.mono HB8.out.size)
      have HB9 := Lib.hid hx9
      have y1 := (hb9.block _ (heap_some_lt V1.out)).trans V1.out
      have V1 := Lib.hid y1
      have V2 := Lib.hid ((hb9.block _ (heap_some_lt V2.out)).trans V2.out)
      have HR2 : Hid (Calls Tryd.prog 9 #[.slice Ad nd cd, .int .i64 n, .int .i64 (sc + mo), .int .i64 sf, v9] w9 (HasPost w9 true)) := by
        have h := rightS_any n (sc + mo) sf dl Ad nd cd (tt.walk (liftT mo 0) 0) v9 w9 (HK.out.below hx9 hw0) (HDS.out.below hx9 hx9.size) HND.out (fit_liftT mo 0 tt 0 HFT.out) (by rw [size_liftT]; have := HTS.out; omega) hown9.tmAt
        obtain ⟨l1, l2, l3, l4, l5, l6, l7⟩ := HALL.out
        rw [(rightSB_iff ..).2 (right_lift l5 (by omega) l1 (by omega) l7 HTS.out.1)] at h
        exact h
      have HR3 : Hid (∀ W, Below w9.heap.size w9 W → Calls Tryd.prog 11 #[.agg #[.int .i64 t0, .int .i64 t1, .int .i64 t2, .slice T1 a1 b1, .slice T2 a2 b2]] W (HasPost W true)) := fun W hW => by
        have hx := hx9.trans (hW.mono hx9.size)
        have h := rightOf_any tt HFT.out _ W (HK.out.below hx hw0) (HT.out.below hx hx.size)
        rw [HALL.out.2.2.2.2.2.2.1] at h
        exact h
      clear hb9 hx9 y1 hown9 hs2
      go_wp2_with (fail)
      refine HR2.out.mono ?_
      rintro e w10 ⟨rfl, hb10⟩
      have hx10 : Below w.heap.size w w10 := HB9.out.trans (hb10.mono HB9.out.size)
      have HB10 := Lib.hid hx10
      have y1 := (hb10.block _ (heap_some_lt V1.out)).trans V1.out
      have V1 := Lib.hid y1
      have V2 := Lib.hid ((hb10.block _ (heap_some_lt V2.out)).trans V2.out)
      have e0 := cell_of_row _ _ 0 _ _ (0, 0) y1
      have e1 := cell_of_row _ _ 1 _ _ (0, 0) y1
      have e2 := cell_of_row _ _ 2 _ _ (0, 0) y1
      have e3 := cell_of_row _ _ 3 _ _ (0, 0) y1
      have e4 := cell_of_row _ _ 4 _ _ (0, 0) y1
      have HR4 := Lib.hid (HR3.out w10 hb10)
      clear hb10 hx10 y1 HR2 HR3
      go_wp2_with (fail)
      refine HR4.out.mono ?_
      rintro e w11 ⟨rfl, hb11⟩
      have hx11 : Below w.heap.size w w11 := HB10.out.trans (hb11.mono HB10.out.size)
      have HB11 := Lib.hid hx11
      have V1 := Lib.hid ((hb11.block _ (heap_some_lt V1.out)).trans V1.out)
      have V2 := Lib.hid ((hb11.block _ (heap_some_lt V2.out)).trans V2.out)
      clear HR4 e0 e1 e2 e3 e4 hb11
      obtain ⟨z0, hz0⟩ : ∃ x, (sc == 0) = x := ⟨_, rfl⟩
      obtain ⟨ra, hra⟩ : ∃ x, rightSB n (sc - 1) sf dl ta = x := ⟨_, rfl⟩
      obtain ⟨y1, hy1⟩ : ∃ x, (z0 || !ra) = x := ⟨_, rfl⟩
      obtain ⟨zt, hzt⟩ : ∃ x, tt.size = x := ⟨_, rfl⟩
      obtain ⟨za, hza⟩ : ∃ x, ta.size = x := ⟨_, rfl⟩
      obtain ⟨zp, hzp⟩ : ∃ x, zt * za = x := ⟨_, rfl⟩
      obtain ⟨gp, hgp⟩ : ∃ x, decide ((10000 : Int) < (zp : Int)) = x := ⟨_, rfl⟩
      obtain ⟨yz, hyz⟩ : ∃ x, (y1 || gp) = x := ⟨_, rfl⟩
      have hzb : zp ≤ 1099511627776 := by
        rw [← hzp]
        have h1 := HTS.out
        exact Nat.le_trans (Nat.mul_le_mul (by omega : zt ≤ 1048576) (by omega : za ≤ 1048576)) (by decide)
      have HMU : Hid (IntKind.i64.wrap ((zt : Int) * (za : Int)) = (zp : Int)) := by
        show _ = _
        rw [← hzp, Int.natCast_mul]
        exact IntWalk.i64_in _ (by rw [← Int.natCast_mul, hzp]; omega)
      have HSU : Hid (IntKind.i64.wrap (sc - 1) = sc - 1) := IntWalk.i64_in _ (by have h2 := HALL.out; omega)
      have HRA : Hid (∀ W, Below w11.heap.size w11 W → Calls Tryd.prog 9 #[.slice Ad nd cd, .int .i64 n, .int .i64 (sc - 1), .int .i64 sf, .agg #[.int .i64 p0, .int .i64 p1, .int .i64 p2, .slice P1 c1 d1, .slice P2 c2 d2]] W (HasPost W ra)) := fun W hW => by
        have hx := hx11.trans (hW.mono hx11.size)
        rw [← hra]
        exact rightS_any n (sc - 1) sf dl Ad nd cd ta _ W (HK.out.below hx hw0) (HDS.out.below hx hx.size) HND.out HFA.out (by have := HTS.out; omega) (HA.out.below hx hx.size)
      have HZT : Hid (∀ W, Below w11.heap.size w11 W → Calls Tryd.prog 12 #[.agg #[.int .i64 t0, .int .i64 t1, .int .i64 t2, .slice T1 a1 b1, .slice T2 a2 b2]] W (fun e w' => e = .returned (.int .i64 (zt : Int)) ∧ Below W.heap.size W w')) := fun W hW => by
        have hx := hx11.trans (hW.mono hx11.size)
        rw [← hzt]
        exact size_any tt (by have := HTS.out; omega) _ W (HT.out.below hx hx.size)
      have HZA : Hid (∀ W, Below w11.heap.size w11 W → Calls Tryd.prog 12 #[.agg #[.int .i64 p0, .int .i64 p1, .int .i64 p2, .slice P1 c1 d1, .slice P2 c2 d2]] W (fun e w' => e = .returned (.int .i64 (za : Int)) ∧ Below W.heap.size W w')) := fun W hW => by
        have hx := hx11.trans (hW.mono hx11.size)
        rw [← hza]
        exact size_any ta (by have := HTS.out; omega) _ W (HA.out.below hx hx.size)
      have HE0 := Lib.hid hz0
      have HAQ := Lib.hid hra
      have HY1 := Lib.hid hy1
      have HGP := Lib.hid hgp
      have HYZ := Lib.hid hyz
      have HZ9 : Hid (tt.size = zt ∧ ta.size = za ∧ zt * za = zp) := ⟨hzt, hza, hzp⟩
      have hS : Below w11.heap.size w11 w11.drew := (Below.refl _ _).drew
      clear hz0 hra hy1 hzt hza hzp hgp hyz hx11 hzb
      go_upto_region 8 with (fail)
      refine wp_region_tab (fun w' => Below w11.heap.size w11 w') (fun w1 w2 : World => Below w1.heap.size w1 w2) [(fun (x : Value) (_ : World) => x = (.int .i64 sc : Value)), (fun (x : Value) (_ : World) => x = (.bool z0 : Value)), (fun (x : Value) (_ : World) => x = (.bool z0 : Value)), (fun (x : Value) (_ : World) => x = gv (!z0) (.slice Ad nd cd)), (fun (x : Value) (_ : World) => x = gv (!z0) (.int .i64 n)), (fun (x : Value) (_ : World) => x = gv (!z0) (.int .i64 sc)), (fun (x : Value) (_ : World) => x = gv (!z0) (.int .i64 (sc - 1))), (fun (x : Value) (_ : World) => x = gv (!z0) (.int .i64 sf)), (fun (x : Value) (_ : World) => x = gv (!z0) (.agg #[.int .i64 p0, .int .i64 p1, .int .i64 p2, .slice P1 c1 d1, .slice P2 c2 d2])), (fun (x : Value) (_ : World) => x = gv (!z0) (.bool ra)), (fun (x : Value) (_ : World) => x = gv (!z0) (.bool (!ra))), (fun (x : Value) (_ : World) => x = (.bool y1 : Value)), (fun (x : Value) (_ : World) => x = (.bool y1 : Value)), (fun (x : Value) (_ : World) => x = gv (!y1) (.agg #[.int .i64 t0, .int .i64 t1, .int .i64 t2, .slice T1 a1 b1, .slice T2 a2 b2])), (fun (x : Value) (_ : World) => x = gv (!y1) (.int .i64 (zt : Int))), (fun (x : Value) (_ : World) => x = gv (!y1) (.agg #[.int .i64 p0, .int .i64 p1, .int .i64 p2, .slice P1 c1 d1, .slice P2 c2 d2])), (fun (x : Value) (_ : World) => x = gv (!y1) (.int .i64 (za : Int))), (fun (x : Value) (_ : World) => x = gv (!y1) (.int .i64 (zp : Int))), (fun (x : Value) (_ : World) => x = gv (!y1) (.bool gp)), (fun (x : Value) (_ : World) => x = (.bool yz : Value))] [⟨some 99, .move (.tmp 3), none, []⟩, ⟨some 100, .binOp .eql 3 (.tmp 99) (.const (.int .i64 0)) 3, none, [(99, 0)]⟩, ⟨some 101, .move (.tmp 100), none, [(100, 1)]⟩, ⟨some 102, .move (.tmp 0), some (some 101, false), [(101, 2)]⟩, ⟨some 103, .move (.tmp 2), some (some 101, false), [(101, 2)]⟩, ⟨some 104, .move (.tmp 3), some (some 101, false), [(101, 2)]⟩, ⟨some 105, .binOp .sub 3 (.tmp 104) (.const (.int .i64 1)) 3, some (some 101, false), [(101, 2), (104, 5)]⟩, ⟨some 106, .move (.tmp 4), some (some 101, false), [(101, 2)]⟩, ⟨some 107, .load 27 (.tmp 14), some (some 101, false), [(101, 2)]⟩, ⟨some 108, .call { callee := .value (.func 9), args := #[.tmp 102, .tmp 103, .tmp 105, .tmp 106, .tmp 107], argTypes := #[22, 3, 3, 3, 27] }, some (some 101, false), [(101, 2), (102, 3), (103, 4), (105, 6), (106, 7), (107, 8)]⟩, ⟨some 109, .unOp .not 4 (.tmp 108), some (some 101, false), [(101, 2), (108, 9)]⟩, ⟨some 110, .pick (.tmp 101) (.const (Value.bool true)) (.tmp 109), none, [(101, 2), (109, 10)]⟩, ⟨some 111, .move (.tmp 110), none, [(110, 11)]⟩, ⟨some 112, .load 27 (.tmp 13), some (some 111, false), [(111, 12)]⟩, ⟨some 113, .call { callee := .value (.func 12), args := #[.tmp 112], argTypes := #[27] }, some (some 111, false), [(111, 12), (112, 13)]⟩, ⟨some 114, .load 27 (.tmp 14), some (some 111, false), [(111, 12)]⟩, ⟨some 115, .call { callee := .value (.func 12), args := #[.tmp 114], argTypes := #[27] }, some (some 111, false), [(111, 12), (114, 15)]⟩, ⟨some 116, .binOp .mul 3 (.tmp 113) (.tmp 115) 3, some (some 111, false), [(111, 12), (113, 14), (115, 16)]⟩, ⟨some 117, .binOp .gtr 3 (.tmp 116) (.const (.int .i64 10000)) 3, some (some 111, false), [(111, 12), (116, 17)]⟩, ⟨some 118, .pick (.tmp 111) (.const (Value.bool true)) (.tmp 117), none, [(111, 12), (117, 18)]⟩] [some 99, some 100, some 101, some 102, some 103, some 104, some 105, some 106, some 107, some 108, some 109, some 110, some 111, some 112, some 113, some 114, some 115, some 116, some 117, some 118] (by kernel_rfl) (by kernel_rfl) (by kernel_rfl) (by kernel_rfl) (by kernel_rfl) ?hS8 ?hmono8 ?hsteps8 ?hfin8
      case hS8 => exact hS
      case hmono8 =>
        refine MonoL.cons (fun x w1 w2 _ _ _ hx => hx) ?_
        refine MonoL.cons (fun x w1 w2 _ _ _ hx => hx) ?_
        refine MonoL.cons (fun x w1 w2 _ _ _ hx => hx) ?_
        refine MonoL.cons (fun x w1 w2 _ _ _ hx => hx) ?_
        refine MonoL.cons (fun x w1 w2 _ _ _ hx => hx) ?_
        refine MonoL.cons (fun x w1 w2 _ _ _ hx => hx) ?_
        refine MonoL.cons (fun x w1 w2 _ _ _ hx => hx) ?_
        refine MonoL.cons (fun x w1 w2 _ _ _ hx => hx) ?_
        refine MonoL.cons (fun x w1 w2 _ _ _ hx => hx) ?_
        refine MonoL.cons (fun x w1 w2 _ _ _ hx => hx) ?_
        refine MonoL.cons (fun x w1 w2 _ _ _ hx => hx) ?_
        refine MonoL.cons (fun x w1 w2 _ _ _ hx => hx) ?_
        refine MonoL.cons (fun x w1 w2 _ _ _ hx => hx) ?_
        refine MonoL.cons (fun x w1 w2 _ _ _ hx => hx) ?_
        refine MonoL.cons (fun x w1 w2 _ _ _ hx => hx) ?_
        refine MonoL.cons (fun x w1 w2 _ _ _ hx => hx) ?_
        refine MonoL.cons (fun x w1 w2 _ _ _ hx => hx) ?_
        refine MonoL.cons (fun x w1 w2 _ _ _ hx => hx) ?_
        refine MonoL.cons (fun x w1 w2 _ _ _ hx => hx) ?_
        refine MonoL.cons (fun x w1 w2 _ _ _ hx => hx) ?_
        exact MonoL.nil
      case hsteps8 =>
        refine StepsT.cons (fun (x : Value) (_ : World) => x = (.int .i64 sc : Value)) [] rfl rfl (fun oq hop _ wq hQS => ?_) ?_
        · exact StepFrom.move hop (v := (.int .i64 sc : Value)) (by kernel_rfl) (by kernel_rfl) hQS (Below.refl _ _) rfl
        refine StepsT.cons (fun (x : Value) (_ : World) => x = (.bool z0 : Value)) [(99, (fun (x : Value) (_ : World) => x = (.int .i64 sc : Value)))] rfl rfl (fun oq hop _ wq hQS => ?_) ?_
        · refine StepFrom.more_eq ((.int .i64 sc : Value)) ?_
          exact StepFrom.bin hop (vx := (.int .i64 sc : Value)) (vy := (.int .i64 0 : Value)) (by kernel_rfl) (by kernel_rfl) (eql_toS _ _ _ HE0.out) (by kernel_rfl) hQS (Below.refl _ _) rfl
        refine StepsT.cons (fun (x : Value) (_ : World) => x = (.bool z0 : Value)) [(100, (fun (x : Value) (_ : World) => x = (.bool z0 : Value)))] rfl rfl (fun oq hop _ wq hQS => ?_) ?_
        · refine StepFrom.more_eq ((.bool z0 : Value)) ?_
          exact StepFrom.move hop (v := (.bool z0 : Value)) (by kernel_rfl) (by kernel_rfl) hQS (Below.refl _ _) rfl
        refine StepsT.cons (fun (x : Value) (_ : World) => x = gv (!z0) (.slice Ad nd cd)) [(101, (fun (x : Value) (_ : World) => x = (.bool z0 : Value)))] rfl rfl (fun oq hop _ wq hQS => ?_) ?_
        · rcases z0 with _ | _
          · refine StepFrom.more_eq ((.bool false : Value)) ?_
            exact StepFrom.move hop (v := (.slice Ad nd cd : Value)) (by kernel_rfl) (by kernel_rfl) hQS (Below.refl _ _) rfl
          · refine StepFrom.more_eq ((.bool true : Value)) ?_
            exact StepFrom.off (by kernel_rfl) hQS (Below.refl _ _) rfl
        refine StepsT.cons (fun (x : Value) (_ : World) => x = gv (!z0) (.int .i64 n)) [(101, (fun (x : Value) (_ : World) => x = (.bool z0 : Value)))] rfl rfl (fun oq hop _ wq hQS => ?_) ?_
        · rcases z0 with _ | _
          · refine StepFrom.more_eq ((.bool false : Value)) ?_
            exact StepFrom.move hop (v := (.int .i64 n : Value)) (by kernel_rfl) (by kernel_rfl) hQS (Below.refl _ _) rfl
          · refine StepFrom.more_eq ((.bool true : Value)) ?_
            exact StepFrom.off (by kernel_rfl) hQS (Below.refl _ _) rfl
        refine StepsT.cons (fun (x : Value) (_ : World) => x = gv (!z0) (.int .i64 sc)) [(101, (fun (x : Value) (_ : World) => x = (.bool z0 : Value)))] rfl rfl (fun oq hop _ wq hQS => ?_) ?_
        · rcases z0 with _ | _
          · refine StepFrom.more_eq ((.bool false : Value)) ?_
            exact StepFrom.move hop (v := (.int .i64 sc : Value)) (by kernel_rfl) (by kernel_rfl) hQS (Below.refl _ _) rfl
          · refine StepFrom.more_eq ((.bool true : Value)) ?_
            exact StepFrom.off (by kernel_rfl) hQS (Below.refl _ _) rfl
        refine StepsT.cons (fun (x : Value) (_ : World) => x = gv (!z0) (.int .i64 (sc - 1))) [(101, (fun (x : Value) (_ : World) => x = (.bool z0 : Value))), (104, (fun (x : Value) (_ : World) => x = gv (!z0) (.int .i64 sc)))] rfl rfl (fun oq hop _ wq hQS => ?_) ?_
        · rcases z0 with _ | _
          · refine StepFrom.more_eq ((.bool false : Value)) ?_
            refine StepFrom.more_eq ((.int .i64 sc : Value)) ?_
            exact StepFrom.bin hop (vx := (.int .i64 sc : Value)) (vy := (.int .i64 1 : Value)) (by kernel_rfl) (by kernel_rfl) (sub_wrap _ _ _ HSU.out) (by kernel_rfl) hQS (Below.refl _ _) rfl
          · refine StepFrom.more_eq ((.bool true : Value)) ?_
            refine StepFrom.more_eq (undef) ?_
            exact StepFrom.off (by kernel_rfl) hQS (Below.refl _ _) rfl
        refine StepsT.cons (fun (x : Value) (_ : World) => x = gv (!z0) (.int .i64 sf)) [(101, (fun (x : Value) (_ : World) => x = (.bool z0 : Value)))] rfl rfl (fun oq hop _ wq hQS => ?_) ?_
        · rcases z0 with _ | _
          · refine StepFrom.more_eq ((.bool false : Value)) ?_
            exact StepFrom.move hop (v := (.int .i64 sf : Value)) (by kernel_rfl) (by kernel_rfl) hQS (Below.refl _ _) rfl
          · refine StepFrom.more_eq ((.bool true : Value)) ?_
            exact StepFrom.off (by kernel_rfl) hQS (Below.refl _ _) rfl
        refine StepsT.cons (fun (x : Value) (_ : World) => x = gv (!z0) (.agg #[.int .i64 p0, .int .i64 p1, .int .i64 p2, .slice P1 c1 d1, .slice P2 c2 d2])) [(101, (fun (x : Value) (_ : World) => x = (.bool z0 : Value)))] rfl rfl (fun oq hop _ wq hQS => ?_) ?_
        · rcases z0 with _ | _
          · refine StepFrom.more_eq ((.bool false : Value)) ?_
            exact StepFrom.load hop (p := (.pointer (some ⟨w.heap.size + 1, 0, none⟩) : Value)) (by kernel_rfl) (load_box9s V2.out hQS) (by kernel_rfl) hQS (Below.refl _ _) rfl
          · refine StepFrom.more_eq ((.bool true : Value)) ?_
            exact StepFrom.off (by kernel_rfl) hQS (Below.refl _ _) rfl
        refine StepsT.cons (fun (x : Value) (_ : World) => x = gv (!z0) (.bool ra)) [(101, (fun (x : Value) (_ : World) => x = (.bool z0 : Value))), (102, (fun (x : Value) (_ : World) => x = gv (!z0) (.slice Ad nd cd))), (103, (fun (x : Value) (_ : World) => x = gv (!z0) (.int .i64 n))), (105, (fun (x : Value) (_ : World) => x = gv (!z0) (.int .i64 (sc - 1)))), (106, (fun (x : Value) (_ : World) => x = gv (!z0) (.int .i64 sf))), (107, (fun (x : Value) (_ : World) => x = gv (!z0) (.agg #[.int .i64 p0, .int .i64 p1, .int .i64 p2, .slice P1 c1 d1, .slice P2 c2 d2])))] rfl rfl (fun oq hop _ wq hQS => ?_) ?_
        · rcases z0 with _ | _
          · refine StepFrom.more_eq ((.bool false : Value)) ?_
            refine StepFrom.more_eq ((.slice Ad nd cd : Value)) ?_
            refine StepFrom.more_eq ((.int .i64 n : Value)) ?_
            refine StepFrom.more_eq ((.int .i64 (sc - 1) : Value)) ?_
            refine StepFrom.more_eq ((.int .i64 sf : Value)) ?_
            refine StepFrom.more_eq ((.agg #[.int .i64 p0, .int .i64 p1, .int .i64 p2, .slice P1 c1 d1, .slice P2 c2 d2] : Value)) ?_
            exact StepFrom.call hop (vs := [(.slice Ad nd cd : Value), (.int .i64 n : Value), (.int .i64 (sc - 1) : Value), (.int .i64 sf : Value), (.agg #[.int .i64 p0, .int .i64 p1, .int .i64 p2, .slice P1 c1 d1, .slice P2 c2 d2] : Value)]) (by kernel_rfl) (fun w => enter_srightX _ w) (by kernel_rfl) ((HRA.out wq hQS).mono fun e w9 h9 => by obtain ⟨q1, q2⟩ := h9; exact ⟨_, q1, hQS.trans (q2.mono hQS.size), q2, rfl⟩)
          · refine StepFrom.more_eq ((.bool true : Value)) ?_
            refine StepFrom.more_eq (undef) ?_
            refine StepFrom.more_eq (undef) ?_
            refine StepFrom.more_eq (undef) ?_
            refine StepFrom.more_eq (undef) ?_
            refine StepFrom.more_eq (undef) ?_
            exact StepFrom.off (by kernel_rfl) hQS (Below.refl _ _) rfl
        refine StepsT.cons (fun (x : Value) (_ : World) => x = gv (!z0) (.bool (!ra))) [(101, (fun (x : Value) (_ : World) => x = (.bool z0 : Value))), (108, (fun (x : Value) (_ : World) => x = gv (!z0) (.bool ra)))] rfl rfl (fun oq hop _ wq hQS => ?_) ?_
        · rcases z0 with _ | _
          · refine StepFrom.more_eq ((.bool false : Value)) ?_
            refine StepFrom.more_eq ((.bool ra : Value)) ?_
            exact StepFrom.not hop (b := ra) (by kernel_rfl) (by kernel_rfl) hQS (Below.refl _ _) rfl
          · refine StepFrom.more_eq ((.bool true : Value)) ?_
            refine StepFrom.more_eq (undef) ?_
            exact StepFrom.off (by kernel_rfl) hQS (Below.refl _ _) rfl
        refine StepsT.cons (fun (x : Value) (_ : World) => x = (.bool y1 : Value)) [(101, (fun (x : Value) (_ : World) => x = (.bool z0 : Value))), (109, (fun (x : Value) (_ : World) => x = gv (!z0) (.bool (!ra))))] rfl rfl (fun oq hop _ wq hQS => ?_) ?_
        · refine StepFrom.more_eq ((.bool z0 : Value)) ?_
          refine StepFrom.more_eq (gv (!z0) (.bool (!ra))) ?_
          exact StepFrom.pick hop (b := z0) (vx := (Value.bool true : Value)) (vy := gv (!z0) (.bool (!ra))) (by kernel_rfl) (by kernel_rfl) (by kernel_rfl) (by kernel_rfl) hQS (Below.refl _ _) (by rw [← HY1.out]; cases z0 <;> cases ra <;> rfl)
        refine StepsT.cons (fun (x : Value) (_ : World) => x = (.bool y1 : Value)) [(110, (fun (x : Value) (_ : World) => x = (.bool y1 : Value)))] rfl rfl (fun oq hop _ wq hQS => ?_) ?_
        · refine StepFrom.more_eq ((.bool y1 : Value)) ?_
          exact StepFrom.move hop (v := (.bool y1 : Value)) (by kernel_rfl) (by kernel_rfl) hQS (Below.refl _ _) rfl
        refine StepsT.cons (fun (x : Value) (_ : World) => x = gv (!y1) (.agg #[.int .i64 t0, .int .i64 t1, .int .i64 t2, .slice T1 a1 b1, .slice T2 a2 b2])) [(111, (fun (x : Value) (_ : World) => x = (.bool y1 : Value)))] rfl rfl (fun oq hop _ wq hQS => ?_) ?_
        · rcases y1 with _ | _
          · refine StepFrom.more_eq ((.bool false : Value)) ?_
            exact StepFrom.load hop (p := (.pointer (some ⟨w.heap.size, 0, none⟩) : Value)) (by kernel_rfl) (load_box9s V1.out hQS) (by kernel_rfl) hQS (Below.refl _ _) rfl
          · refine StepFrom.more_eq ((.bool true : Value)) ?_
            exact StepFrom.off (by kernel_rfl) hQS (Below.refl _ _) rfl
        refine StepsT.cons (fun (x : Value) (_ : World) => x = gv (!y1) (.int .i64 (zt : Int))) [(111, (fun (x : Value) (_ : World) => x = (.bool y1 : Value))), (112, (fun (x : Value) (_ : World) => x = gv (!y1) (.agg #[.int .i64 t0, .int .i64 t1, .int .i64 t2, .slice T1 a1 b1, .slice T2 a2 b2])))] rfl rfl (fun oq hop _ wq hQS => ?_) ?_
        · rcases y1 with _ | _
          · refine StepFrom.more_eq ((.bool false : Value)) ?_
            refine StepFrom.more_eq ((.agg #[.int .i64 t0, .int .i64 t1, .int .i64 t2, .slice T1 a1 b1, .slice T2 a2 b2] : Value)) ?_
            exact StepFrom.call hop (vs := [(.agg #[.int .i64 t0, .int .i64 t1, .int .i64 t2, .slice T1 a1 b1, .slice T2 a2 b2] : Value)]) (by kernel_rfl) (fun w => enter_sizeX _ w) (by kernel_rfl) ((HZT.out wq hQS).mono fun e w9 h9 => by obtain ⟨q1, q2⟩ := h9; exact ⟨_, q1, hQS.trans (q2.mono hQS.size), q2, rfl⟩)
          · refine StepFrom.more_eq ((.bool true : Value)) ?_
            refine StepFrom.more_eq (undef) ?_
            exact StepFrom.off (by kernel_rfl) hQS (Below.refl _ _) rfl
        refine StepsT.cons (fun (x : Value) (_ : World) => x = gv (!y1) (.agg #[.int .i64 p0, .int .i64 p1, .int .i64 p2, .slice P1 c1 d1, .slice P2 c2 d2])) [(111, (fun (x : Value) (_ : World) => x = (.bool y1 : Value)))] rfl rfl (fun oq hop _ wq hQS => ?_) ?_
        · rcases y1 with _ | _
          · refine StepFrom.more_eq ((.bool false : Value)) ?_
            exact StepFrom.load hop (p := (.pointer (some ⟨w.heap.size + 1, 0, none⟩) : Value)) (by kernel_rfl) (load_box9s V2.out hQS) (by kernel_rfl) hQS (Below.refl _ _) rfl
          · refine StepFrom.more_eq ((.bool true : Value)) ?_
            exact StepFrom.off (by kernel_rfl) hQS (Below.refl _ _) rfl
        refine StepsT.cons (fun (x : Value) (_ : World) => x = gv (!y1) (.int .i64 (za : Int))) [(111, (fun (x : Value) (_ : World) => x = (.bool y1 : Value))), (114, (fun (x : Value) (_ : World) => x = gv (!y1) (.agg #[.int .i64 p0, .int .i64 p1, .int .i64 p2, .slice P1 c1 d1, .slice P2 c2 d2])))] rfl rfl (fun oq hop _ wq hQS => ?_) ?_
        · rcases y1 with _ | _
          · refine StepFrom.more_eq ((.bool false : Value)) ?_
            refine StepFrom.more_eq ((.agg #[.int .i64 p0, .int .i64 p1, .int .i64 p2, .slice P1 c1 d1, .slice P2 c2 d2] : Value)) ?_
            exact StepFrom.call hop (vs := [(.agg #[.int .i64 p0, .int .i64 p1, .int .i64 p2, .slice P1 c1 d1, .slice P2 c2 d2] : Value)]) (by kernel_rfl) (fun w => enter_sizeX _ w) (by kernel_rfl) ((HZA.out wq hQS).mono fun e w9 h9 => by obtain ⟨q1, q2⟩ := h9; exact ⟨_, q1, hQS.trans (q2.mono hQS.size), q2, rfl⟩)
          · refine StepFrom.more_eq ((.bool true : Value)) ?_
            refine StepFrom.more_eq (undef) ?_
            exact StepFrom.off (by kernel_rfl) hQS (Below.refl _ _) rfl
        refine StepsT.cons (fun (x : Value) (_ : World) => x = gv (!y1) (.int .i64 (zp : Int))) [(111, (fun (x : Value) (_ : World) => x = (.bool y1 : Value))), (113, (fun (x : Value) (_ : World) => x = gv (!y1) (.int .i64 (zt : Int)))), (115, (fun (x : Value) (_ : World) => x = gv (!y1) (.int .i64 (za : Int))))] rfl rfl (fun oq hop _ wq hQS => ?_) ?_
        · rcases y1 with _ | _
          · refine StepFrom.more_eq ((.bool false : Value)) ?_
            refine StepFrom.more_eq ((.int .i64 (zt : Int) : Value)) ?_
            refine StepFrom.more_eq ((.int .i64 (za : Int) : Value)) ?_
            exact StepFrom.bin hop (vx := (.int .i64 (zt : Int) : Value)) (vy := (.int .i64 (za : Int) : Value)) (by kernel_rfl) (by kernel_rfl) (mul_toS _ _ _ HMU.out) (by kernel_rfl) hQS (Below.refl _ _) rfl
          · refine StepFrom.more_eq ((.bool true : Value)) ?_
            refine StepFrom.more_eq (undef) ?_
            refine StepFrom.more_eq (undef) ?_
            exact StepFrom.off (by kernel_rfl) hQS (Below.refl _ _) rfl
        refine StepsT.cons (fun (x : Value) (_ : World) => x = gv (!y1) (.bool gp)) [(111, (fun (x : Value) (_ : World) => x = (.bool y1 : Value))), (116, (fun (x : Value) (_ : World) => x = gv (!y1) (.int .i64 (zp : Int))))] rfl rfl (fun oq hop _ wq hQS => ?_) ?_
        · rcases y1 with _ | _
          · refine StepFrom.more_eq ((.bool false : Value)) ?_
            refine StepFrom.more_eq ((.int .i64 (zp : Int) : Value)) ?_
            exact StepFrom.bin hop (vx := (.int .i64 (zp : Int) : Value)) (vy := (.int .i64 10000 : Value)) (by kernel_rfl) (by kernel_rfl) (gtr_to _ _ _ HGP.out) (by kernel_rfl) hQS (Below.refl _ _) rfl
          · refine StepFrom.more_eq ((.bool true : Value)) ?_
            refine StepFrom.more_eq (undef) ?_
            exact StepFrom.off (by kernel_rfl) hQS (Below.refl _ _) rfl
        refine StepsT.cons (fun (x : Value) (_ : World) => x = (.bool yz : Value)) [(111, (fun (x : Value) (_ : World) => x = (.bool y1 : Value))), (117, (fun (x : Value) (_ : World) => x = gv (!y1) (.bool gp)))] rfl rfl (fun oq hop _ wq hQS => ?_) ?_
        · refine StepFrom.more_eq ((.bool y1 : Value)) ?_
          refine StepFrom.more_eq (gv (!y1) (.bool gp)) ?_
          exact StepFrom.pick hop (b := y1) (vx := (Value.bool true : Value)) (vy := gv (!y1) (.bool gp)) (by kernel_rfl) (by kernel_rfl) (by kernel_rfl) (by kernel_rfl) hQS (Below.refl _ _) (by rw [← HYZ.out]; cases y1 <;> cases gp <;> rfl)
        exact StepsT.nil
      case hfin8 =>
        intro wf hFS
        refine FinalFrom.more fun x99 h99 => ?_
        refine FinalFrom.more fun x100 h100 => ?_
        refine FinalFrom.more fun x101 h101 => ?_
        refine FinalFrom.more fun x102 h102 => ?_
        refine FinalFrom.more fun x103 h103 => ?_
        refine FinalFrom.more fun x104 h104 => ?_
        refine FinalFrom.more fun x105 h105 => ?_
        refine FinalFrom.more fun x106 h106 => ?_
        refine FinalFrom.more fun x107 h107 => ?_
        refine FinalFrom.more fun x108 h108 => ?_
        refine FinalFrom.more fun x109 h109 => ?_
        refine FinalFrom.more fun x110 h110 => ?_
        refine FinalFrom.more fun x111 h111 => ?_
        refine FinalFrom.more fun x112 h112 => ?_
        refine FinalFrom.more fun x113 h113 => ?_
        refine FinalFrom.more fun x114 h114 => ?_
        refine FinalFrom.more fun x115 h115 => ?_
        refine FinalFrom.more fun x116 h116 => ?_
        refine FinalFrom.more fun x117 h117 => ?_
        refine FinalFrom.more fun x118 h118 => ?_
        refine FinalFrom.done ?_
        obtain rfl : x118 = (.bool yz : Value) := h118
        simp only [Act.put, List.setIfInBounds_toArray, List.set_cons_zero, List.set_cons_succ]
        have hx12 : Below w.heap.size w wf := HB11.out.trans (hFS.mono HB11.out.size)
        have HB12 := Lib.hid hx12
        cases yz with
        | true =>
          have HF := Lib.hid hx12
          clear hS hFS hx12
          go_wp2
          go_ret
          exact ⟨rfl, HF.out⟩
        | false =>
          have HQ : Hid (1 ≤ sc ∧ RightSrc n (sc - 1) sf dl ta ∧ tt.size * ta.size ≤ 10000) := by
            have e1 := HY1.out
            have e2 := HYZ.out
            have q0 := HE0.out
            have q1 := HAQ.out
            have q2 := HGP.out
            have h2 : y1 = false ∧ gp = false := by cases y1 <;> cases gp <;> simp_all
            have h1 : z0 = false ∧ ra = true := by rw [h2.1] at e1; cases z0 <;> cases ra <;> simp_all
            rw [h1.1] at q0
            rw [h1.2] at q1
            rw [h2.2] at q2
            have q2 := of_decide_eq_false q2
            have q0 : ¬ sc = 0 := by simpa using q0
            obtain ⟨j1, j2, j3⟩ := HZ9.out
            have := HALL.out.1
            exact ⟨by omega, (rightSB_iff ..).1 q1, by rw [j1, j2, j3]; omega⟩
          clear HY1 HYZ HE0 HAQ HGP HMU HRA HZT HZA HZ9
          have y1 := (hFS.block _ (heap_some_lt V1.out)).trans V1.out
          have y2 := (hFS.block _ (heap_some_lt V2.out)).trans V2.out
          have e0 := cell_of_row _ _ 0 _ _ (0, 0) y1
          have e1 := cell_of_row _ _ 1 _ _ (0, 0) y1
          have e2 := cell_of_row _ _ 2 _ _ (0, 0) y1
          have e3 := cell_of_row _ _ 3 _ _ (0, 0) y1
          have e4 := cell_of_row _ _ 4 _ _ (0, 0) y1
          have d0' := cell_of_row _ _ 0 _ _ (0, 0) y2
          have d1' := cell_of_row _ _ 1 _ _ (0, 0) y2
          have d2' := cell_of_row _ _ 2 _ _ (0, 0) y2
          have d3' := cell_of_row _ _ 3 _ _ (0, 0) y2
          have d4' := cell_of_row _ _ 4 _ _ (0, 0) y2
          obtain ⟨w13, hw13⟩ : ∃ x, wf.alloc (.cells #[.int .i64 p0, .int .i64 p1, .int .i64 p2, .slice P1 c1 d1, .slice P2 c2 d2] 27) = x := ⟨_, rfl⟩
          have hb13 : Below wf.heap.size wf w13 := by rw [← hw13]; exact (Below.refl _ _).alloc (Nat.le_refl _) _
          have x13 : w13.heap[wf.heap.size]? = some (.cells #[.int .i64 p0, .int .i64 p1, .int .i64 p2, .slice P1 c1 d1, .slice P2 c2 d2] 27 (0, 0)) := by rw [← hw13]; exact heap_alloc_new wf _
          have hx13 : Below w.heap.size w w13 := hx12.trans (hb13.mono hx12.size)
          have HB13 := Lib.hid hx13
          have HPU := Lib.hid (putTm_any tt [ta] HFT.out _ (some ⟨wf.heap.size, 0, none⟩) 1 1 w13 (by have := HTS.out; omega) (HK.out.below hx13 hw0).binds (HT.out.below hx13 hx13.size) rfl (by decide) (tms_one9 HA.out hx13 hx13.size x13) (fun b hb => by simp at hb; subst hb; exact ⟨HFA.out, by have := HTS.out; omega⟩))
          clear hS hFS hx12 hb13 x13 hx13 y2 y1
          go_wp2_with (fail)
          refine HPU.out.mono ?_
          rintro e w14 ⟨v14, rfl, hown, hb14⟩
          obtain ⟨u, hu⟩ : ∃ u, tt.walk (putT [ta]) 0 = u := ⟨_, rfl⟩
          rw [hu] at hown
          have hat := hown.tmAt
          have hx14 : Below w.heap.size w w14 := HB13.out.trans (hb14.mono HB13.out.size)
          have hts := HTS.out
          have hq := HQ.out
          have hal := HALL.out
          have hsz : u.size ≤ 10000 := by
            rw [← hu]
            have h1 := size_putT (by' := [ta]) (M := ta.size) (by have := Tm.size_pos ta; omega) (fun b hb => by simp at hb; subst hb; exact Nat.le_refl _) tt 0
            have := hq.2.2
            omega
          have hfu : u.fit := by rw [← hu]; exact fit_putT (by' := [ta]) (fun b hb => by simp at hb; subst hb; exact HFA.out) (by simp) tt 0 HFT.out
          have hsrc : u.src n (sc - 1) sf dl 0 := by
            rw [← hu]
            have h := src_put (by' := [ta]) (n := n) (sc := sc) (sf := sf) (ds := dl) (by omega) (by simp; omega) (fun b hb => by simp at hb; subst hb; exact ⟨hts.2, by simpa using hq.2.1.2⟩) tt 0 (by omega) hal.2.2.2.2.2.2.2
            simpa using h
          obtain ⟨rp, hrp⟩ : ∃ x, u.right = x := ⟨_, rfl⟩
          have hrs : rightSB n (sc - 1) sf dl u = rp := by
            rw [← hrp]
            cases e : u.right with
            | true => exact (rightSB_iff ..).2 ⟨e, hsrc⟩
            | false =>
              cases e2 : rightSB n (sc - 1) sf dl u with
              | false => rfl
              | true => exact absurd (((rightSB_iff ..).1 e2).1.symm.trans e) (by decide)
          have hat0 := hat
          obtain ⟨k9, n9, a9, lv9, kd9⟩ := u
          obtain ⟨Q1, m1, Q2, m2, rfl, _, _, _⟩ := hat0.open
          obtain ⟨l1, hl1⟩ : ∃ x, lv9.length = x := ⟨_, rfl⟩
          obtain ⟨l2, hl2⟩ : ∃ x, kd9.length = x := ⟨_, rfl⟩
          rw [hl1, hl2] at hat
          rw [hl1, hl2]
          obtain ⟨w15, hw15⟩ : ∃ x, w14.alloc (.cells #[.int .i64 k9, .int .i64 n9, .int .i64 a9, .slice Q1 l1 m1, .slice Q2 l2 m2] 27) = x := ⟨_, rfl⟩
          have hb15 : Below w14.heap.size w14 w15 := by rw [← hw15]; exact (Below.refl _ _).alloc (Nat.le_refl _) _
          have x15 : w15.heap[w14.heap.size]? = some (.cells #[.int .i64 k9, .int .i64 n9, .int .i64 a9, .slice Q1 l1 m1, .slice Q2 l2 m2] 27 (0, 0)) := by rw [← hw15]; exact heap_alloc_new w14 _
          have hx15 : Below w.heap.size w w15 := hx14.trans (hb15.mono hx14.size)
          have HB15 := Lib.hid hx15
          have hat15 := hat.below hb15 hb15.size
          have HP1 : Hid (Calls Tryd.prog 9 #[.slice Ad nd cd, .int .i64 n, .int .i64 (sc - 1), .int .i64 sf, .agg #[.int .i64 k9, .int .i64 n9, .int .i64 a9, .slice Q1 l1 m1, .slice Q2 l2 m2]] w15 (HasPost w15 rp)) := by
            rw [← hrs]
            exact rightS_any n (sc - 1) sf dl Ad nd cd _ _ w15 (HK.out.below hx15 hw0) (HDS.out.below hx15 hx15.size) HND.out hfu (by omega) hat15
          have HP2 : Hid (∀ W, Below w15.heap.size w15 W → Calls Tryd.prog 11 #[.agg #[.int .i64 k9, .int .i64 n9, .int .i64 a9, .slice Q1 l1 m1, .slice Q2 l2 m2]] W (HasPost W rp)) := fun W hW => by
            have hx := hx15.trans (hW.mono hx15.size)
            rw [← hrp]
            exact rightOf_any _ hfu _ W (HK.out.below hx hw0) (hat15.below hW hW.size)
          have X15 := Lib.hid x15
          have j0 := cell_of_row _ _ 0 _ _ (0, 0) x15
          have j1 := cell_of_row _ _ 1 _ _ (0, 0) x15
          have j2 := cell_of_row _ _ 2 _ _ (0, 0) x15
          have j3 := cell_of_row _ _ 3 _ _ (0, 0) x15
          have j4 := cell_of_row _ _ 4 _ _ (0, 0) x15
          have hsu := HSU.out
          clear hu hown hat hb14 hx14 hts hq hal hsz hfu hsrc hrp hrs hat0 hl1 hl2 hb15 x15 hx15 hat15 HPU e0 e1 e2 e3 e4 d0' d1' d2' d3' d4' hw13
          go_wp2_with (fail)
          refine HP1.out.mono ?_
          rintro e w16 ⟨rfl, hb16⟩
          have HB16 : Hid (Below w.heap.size w w16) := HB15.out.trans (hb16.mono HB15.out.size)
          cases rp with
          | true =>
            clear hb16 HP1 hw15
            go_wp2
            go_ret
            exact ⟨rfl, HB16.out⟩
          | false =>
            have x16 := (hb16.block _ (heap_some_lt X15.out)).trans X15.out
            have i0 := cell_of_row _ _ 0 _ _ (0, 0) x16
            have i1 := cell_of_row _ _ 1 _ _ (0, 0) x16
            have i2 := cell_of_row _ _ 2 _ _ (0, 0) x16
            have i3 := cell_of_row _ _ 3 _ _ (0, 0) x16
            have i4 := cell_of_row _ _ 4 _ _ (0, 0) x16
            have HP3 := Lib.hid (HP2.out w16 hb16)
            clear hb16 HP1 hw15 x16 j0 j1 j2 j3 j4
            go_wp2_with (fail)
            refine HP3.out.mono ?_
            rintro e w17 ⟨rfl, hb17⟩
            have HF : Hid (Below w.heap.size w w17) := HB16.out.trans (hb17.mono HB16.out.size)
            clear hb17
            go_wp2
            go_ret
            exact ⟨rfl, HF.out⟩
end Go.Proofs.YtfgnnbpbbnnnhaaDoor
