/- What TermLifts answers: yes. -/
import Derived.Test.YtafgmndlbbjphaaDoorTmLiftsA
import Derived.Test.YtafgmndlbbjphaaDoorTmTimes
namespace Go.Proofs.YtafgmndlbbjphaaDoor
open Go.RowKit Go.Maps

set_option maxRecDepth 100000 in
theorem enter_freeTm (vs : Array Value) (w : World) : (callFunc 13 vs).run Tryd.prog w = .ok (.enter 13 vs) w := by go_simp
set_option maxRecDepth 100000 in
theorem enter_levelsTm (vs : Array Value) (w : World) : (callFunc 15 vs).run Tryd.prog w = .ok (.enter 15 vs) w := by go_simp
set_option maxRecDepth 100000 in
theorem neq_same (x : Int) (p q : Operand) (w : World) : ((do eqGuard .neq 3 p q (.int .i64 x) (.int .i64 x); binOp .neq 3 (.int .i64 x) (.int .i64 x) : Sem Value)).run Tryd.prog w = .ok (.bool false) w := by go_simp
set_option maxRecDepth 100000 in
theorem eql_same (x : Int) (p q : Operand) (w : World) : ((do eqGuard .eql 3 p q (.int .i64 x) (.int .i64 x); binOp .eql 3 (.int .i64 x) (.int .i64 x) : Sem Value)).run Tryd.prog w = .ok (.bool true) w := by go_simp
theorem neq_sameB (x : Bool) (p q : Operand) (w : World) : ((do eqGuard .neq 4 p q (.bool x) (.bool x); binOp .neq 4 (.bool x) (.bool x) : Sem Value)).run Tryd.prog w = .ok (.bool false) w := by
  have := neq_bool x x p q w
  simpa using this
theorem eql_sameB (x : Bool) (p q : Operand) (w : World) : ((do eqGuard .eql 4 p q (.bool x) (.bool x); binOp .eql 4 (.bool x) (.bool x) : Sem Value)).run Tryd.prog w = .ok (.bool true) w := by
  have := eql_bool x x p q w
  simpa using this
theorem tms_three {t u s : Tm} {c0 c1 c2 c3 c4 d0 d1 d2 d3 d4 e0 e1 e2 e3 e4 : Value} {w : World} (h : TmAt w w.heap.size t (.agg #[c0, c1, c2, c3, c4])) (h' : TmAt w w.heap.size u (.agg #[d0, d1, d2, d3, d4])) (h'' : TmAt w w.heap.size s (.agg #[e0, e1, e2, e3, e4])) :
    Tms (w.alloc (.cells #[c0, c1, c2, c3, c4, d0, d1, d2, d3, d4, e0, e1, e2, e3, e4] 26)) (w.alloc (.cells #[c0, c1, c2, c3, c4, d0, d1, d2, d3, d4, e0, e1, e2, e3, e4] 26)).heap.size (some ⟨w.heap.size, 0, none⟩) 3 [t, u, s] := by
  obtain ⟨A, c, e, k⟩ := (full_three h h' h'').row
  injection e with e1 _ e3
  rw [e1]
  have e4 : c = 3 := e3.symm
  rw [← e4]
  exact k
theorem tm_shape {w : World} {B : Nat} {t : Tm} {v : Value} (h : TmAt w B t v) : ∃ (i j l : Int) (A B : Option Addr) (n c m d : Nat), v = .agg #[.int .i64 i, .int .i64 j, .int .i64 l, .slice A n c, .slice B m d] := by
  obtain ⟨k, n, a, lv, kids⟩ := t
  obtain ⟨Al, cl, Ak, ck, rfl, _⟩ := h.open
  exact ⟨_, _, _, _, _, _, _, _, _, rfl⟩

set_option maxRecDepth 100000 in
set_option maxHeartbeats 32000000 in
theorem lifts_of (tt tu ta : Tm) (s0 s1 s2 s3 s4 p0 p1 p2 p3 p4 q0 q1 q2 q3 q4 : Value) (n m f : Int) (Al : Option Addr) (nl cl : Nat) (bys : List (List (Int × Int))) (w : World) (hK : KindsAll w) (ht : TmAt w w.heap.size tt (.agg #[s0, s1, s2, s3, s4])) (hu : TmAt w w.heap.size tu (.agg #[p0, p1, p2, p3, p4])) (ha : TmAt w w.heap.size ta (.agg #[q0, q1, q2, q3, q4])) (hls : Levs w w.heap.size Al bys) (hnl : bys.length = nl) (h9 : Bys bys)
    (ft : tt.fit) (fu : tu.fit) (fa : ta.fit) (hc : Tm.countL [tt, tu, ta] ≤ 1048576) :
    Calls Tryd.prog 4 #[.agg #[s0, s1, s2, s3, s4], .agg #[p0, p1, p2, p3, p4], .agg #[q0, q1, q2, q3, q4], .int .i64 n, .int .i64 m, .int .i64 f, .slice Al nl cl] w (HasPost w true) := by
  have h0 : 0 < w.heap.size := cell_lt (hK 0 (by decide)).1
  obtain ⟨w1, hw1⟩ : ∃ x, ((w.alloc (.cells #[s0, s1, s2, s3, s4] 26)).alloc (.cells #[p0, p1, p2, p3, p4] 26)).alloc (.cells #[q0, q1, q2, q3, q4] 26) = x := ⟨_, rfl⟩
  have hb1 : Below w.heap.size w w1 := by rw [← hw1]; exact (((Below.refl _ _).alloc (Nat.le_refl _) _).alloc (by simp) _).alloc (by simp; omega) _
  have hs1 : w1.heap.size = w.heap.size + 3 := by rw [← hw1]; simp
  obtain ⟨z1, z2, _⟩ := two_allocs w (.cells #[s0, s1, s2, s3, s4] 26) (.cells #[p0, p1, p2, p3, p4] 26)
  have x0 : w1.heap[w.heap.size]? = some (.cells #[s0, s1, s2, s3, s4] 26 (0, 0)) := by rw [← hw1, Below.heap_alloc _ _ _ (by simp; omega)]; exact z1
  have x1 : w1.heap[w.heap.size + 1]? = some (.cells #[p0, p1, p2, p3, p4] 26 (0, 0)) := by rw [← hw1, Below.heap_alloc _ _ _ (by simp)]; exact z2
  have x2 : w1.heap[w.heap.size + 1 + 1]? = some (.cells #[q0, q1, q2, q3, q4] 26 (0, 0)) := by
    rw [← hw1]
    have := heap_alloc_new ((w.alloc (.cells #[s0, s1, s2, s3, s4] 26)).alloc (.cells #[p0, p1, p2, p3, p4] 26)) (.cells #[q0, q1, q2, q3, q4] 26)
    simpa using this
  have HAW := Lib.hid (awake_any w1 (hK.below hb1 h0))
  have HK1 := Lib.hid (hK.below hb1 h0)
  have HB1 := Lib.hid hb1
  have HS1 := Lib.hid hs1
  have X01 := Lib.hid x0
  have X11 := Lib.hid x1
  have X21 := Lib.hid x2
  have HT1 := Lib.hid (ht.below hb1 hb1.size)
  have HU1 := Lib.hid (hu.below hb1 hb1.size)
  have HA1 := Lib.hid (ha.below hb1 hb1.size)
  have HL1 := Lib.hid ((hls.below hb1).more hb1.size)
  have HEND1 : Hid (∀ w', Below w1.heap.size w1 w' → Below w.heap.size w w') := fun w' hx => hb1.trans (hx.mono hb1.size)
  have H01 : Hid (0 < w1.heap.size) := by show _ < _; omega
  have HNL := Lib.hid hnl
  have H9 := Lib.hid h9
  have FT := Lib.hid ft
  have FU := Lib.hid fu
  have FA := Lib.hid fa
  have HC := Lib.hid hc
  obtain ⟨gr, hgr⟩ : ∃ x, decide (600 < Tm.countL [tt, tu, ta]) = x := ⟨_, rfl⟩
  obtain ⟨tm, htm⟩ : ∃ x, Tm.tameL [tt, tu, ta] = x := ⟨_, rfl⟩
  have HGR : Hid (∀ (A : Option Addr) (c : Nat) w', Tms w' w'.heap.size A c [tt, tu, ta] → Calls Tryd.prog 6 #[.slice A 3 c] w' (HasPost w' gr)) := fun A c w' h => by
    rw [← hgr]
    exact great_any _ A c _ w' rfl HC.out h
  have HSL : Hid (Tm.sizeL [tt, tu, ta] ≤ 1073741824) := Nat.le_trans (Tm.sizeL_le_countL _ fun t _ => Tm.size_le_count t) (by have := HC.out; omega)
  have HTM : Hid (∀ (A : Option Addr) (c : Nat) w', Tms w' w'.heap.size A c [tt, tu, ta] → Calls Tryd.prog 7 #[.slice A 3 c] w' (HasPost w' tm)) := fun A c w' h => by
    rw [← htm]
    exact tame_any _ A c _ w' rfl HSL.out h
  have HGRB := Lib.hid hgr
  have HTMB := Lib.hid htm
  clear hK ht hu ha hls hnl h9 ft fu fa hc h0 hb1 hs1 z1 z2 x0 x1 x2 hgr htm
  go_enter Tryd.func4, Tryd.ntmps4
  go_wp2_with (fail)
  refine HAW.out.mono ?_
  rintro e w2 ⟨rfl, hb2⟩
  clear hw1 HAW
  have hz2 := hb2.size
  have H02 : Hid (0 < w2.heap.size) := by
    show _ < _
    have := H01.out
    omega
  have X02 := Lib.hid ((hb2.block _ (heap_some_lt X01.out)).trans X01.out)
  have X12 := Lib.hid ((hb2.block _ (heap_some_lt X11.out)).trans X11.out)
  have X22 := Lib.hid ((hb2.block _ (heap_some_lt X21.out)).trans X21.out)
  have HT2 := Lib.hid (HT1.out.below hb2 hz2)
  have HU2 := Lib.hid (HU1.out.below hb2 hz2)
  have HA2 := Lib.hid (HA1.out.below hb2 hz2)
  have HL2 := Lib.hid ((HL1.out.below hb2).more hz2)
  have HK2 := Lib.hid (HK1.out.below hb2 H01.out)
  have HEND2 : Hid (∀ w', Below w2.heap.size w2 w' → Below w.heap.size w w') := fun w' hx => HEND1.out w' (hb2.trans (hx.mono hz2))
  clear hb2 hz2 H01 X01 X11 X21 HT1 HU1 HA1 HL1 HK1 HEND1
  have t0 := cell_of_row _ _ 0 _ _ (0, 0) X02.out
  have t1 := cell_of_row _ _ 1 _ _ (0, 0) X02.out
  have t2 := cell_of_row _ _ 2 _ _ (0, 0) X02.out
  have t3 := cell_of_row _ _ 3 _ _ (0, 0) X02.out
  have t4 := cell_of_row _ _ 4 _ _ (0, 0) X02.out
  have u0 := cell_of_row _ _ 0 _ _ (0, 0) X12.out
  have u1 := cell_of_row _ _ 1 _ _ (0, 0) X12.out
  have u2 := cell_of_row _ _ 2 _ _ (0, 0) X12.out
  have u3 := cell_of_row _ _ 3 _ _ (0, 0) X12.out
  have u4 := cell_of_row _ _ 4 _ _ (0, 0) X12.out
  have a0 := cell_of_row _ _ 0 _ _ (0, 0) X22.out
  have a1 := cell_of_row _ _ 1 _ _ (0, 0) X22.out
  have a2 := cell_of_row _ _ 2 _ _ (0, 0) X22.out
  have a3 := cell_of_row _ _ 3 _ _ (0, 0) X22.out
  have a4 := cell_of_row _ _ 4 _ _ (0, 0) X22.out
  go_wp2_with (fail)
  refine (HGR.out _ _ _ (tms_three HT2.out HU2.out HA2.out)).mono ?_
  rintro e w3 ⟨rfl, hb3⟩
  replace hb3 : Below w2.heap.size w2 w3 := ((Below.refl _ _).alloc (Nat.le_refl _) _).trans (hb3.mono (by simp))
  clear t0 t1 t2 t3 t4 u0 u1 u2 u3 u4 a0 a1 a2 a3 a4
  have hz3 := hb3.size
  have H03 : Hid (0 < w3.heap.size) := by
    show _ < _
    have := H02.out
    omega
  have X03 := Lib.hid ((hb3.block _ (heap_some_lt X02.out)).trans X02.out)
  have X13 := Lib.hid ((hb3.block _ (heap_some_lt X12.out)).trans X12.out)
  have X23 := Lib.hid ((hb3.block _ (heap_some_lt X22.out)).trans X22.out)
  have HT3 := Lib.hid (HT2.out.below hb3 hz3)
  have HU3 := Lib.hid (HU2.out.below hb3 hz3)
  have HA3 := Lib.hid (HA2.out.below hb3 hz3)
  have HL3 := Lib.hid ((HL2.out.below hb3).more hz3)
  have HK3 := Lib.hid (HK2.out.below hb3 H02.out)
  have HEND3 : Hid (∀ w', Below w3.heap.size w3 w' → Below w.heap.size w w') := fun w' hx => HEND2.out w' (hb3.trans (hx.mono hz3))
  clear hb3 hz3 H02 X02 X12 X22 HT2 HU2 HA2 HL2 HK2 HEND2
  have t0 := cell_of_row _ _ 0 _ _ (0, 0) X03.out
  have t1 := cell_of_row _ _ 1 _ _ (0, 0) X03.out
  have t2 := cell_of_row _ _ 2 _ _ (0, 0) X03.out
  have t3 := cell_of_row _ _ 3 _ _ (0, 0) X03.out
  have t4 := cell_of_row _ _ 4 _ _ (0, 0) X03.out
  have u0 := cell_of_row _ _ 0 _ _ (0, 0) X13.out
  have u1 := cell_of_row _ _ 1 _ _ (0, 0) X13.out
  have u2 := cell_of_row _ _ 2 _ _ (0, 0) X13.out
  have u3 := cell_of_row _ _ 3 _ _ (0, 0) X13.out
  have u4 := cell_of_row _ _ 4 _ _ (0, 0) X13.out
  have a0 := cell_of_row _ _ 0 _ _ (0, 0) X23.out
  have a1 := cell_of_row _ _ 1 _ _ (0, 0) X23.out
  have a2 := cell_of_row _ _ 2 _ _ (0, 0) X23.out
  have a3 := cell_of_row _ _ 3 _ _ (0, 0) X23.out
  have a4 := cell_of_row _ _ 4 _ _ (0, 0) X23.out
  cases gr with
  | true =>
    clear HGR HTM HGRB HTMB
    have HF : Hid (HasPost w true (.returned (.bool true)) w3) := ⟨rfl, HEND3.out w3 (Below.refl _ _)⟩
    go_wp2
    go_ret
    exact HF.out
  | false =>
    go_wp2_with (fail)
    refine (HTM.out _ _ _ (tms_three HT3.out HU3.out HA3.out)).mono ?_
    rintro e w4 ⟨rfl, hb4⟩
    replace hb4 : Below w3.heap.size w3 w4 := ((Below.refl _ _).alloc (Nat.le_refl _) _).trans (hb4.mono (by simp))
    clear t0 t1 t2 t3 t4 u0 u1 u2 u3 u4 a0 a1 a2 a3 a4 HGR HTM
    have hz4 := hb4.size
    have H04 : Hid (0 < w4.heap.size) := by
      show _ < _
      have := H03.out
      omega
    have X04 := Lib.hid ((hb4.block _ (heap_some_lt X03.out)).trans X03.out)
    have X14 := Lib.hid ((hb4.block _ (heap_some_lt X13.out)).trans X13.out)
    have X24 := Lib.hid ((hb4.block _ (heap_some_lt X23.out)).trans X23.out)
    have HT4 := Lib.hid (HT3.out.below hb4 hz4)
    have HU4 := Lib.hid (HU3.out.below hb4 hz4)
    have HA4 := Lib.hid (HA3.out.below hb4 hz4)
    have HL4 := Lib.hid ((HL3.out.below hb4).more hz4)
    have HK4 := Lib.hid (HK3.out.below hb4 H03.out)
    have HEND4 : Hid (∀ w', Below w4.heap.size w4 w' → Below w.heap.size w w') := fun w' hx => HEND3.out w' (hb4.trans (hx.mono hz4))
    clear hb4 hz4 H03 X03 X13 X23 HT3 HU3 HA3 HL3 HK3 HEND3
    have t0 := cell_of_row _ _ 0 _ _ (0, 0) X04.out
    have t1 := cell_of_row _ _ 1 _ _ (0, 0) X04.out
    have t2 := cell_of_row _ _ 2 _ _ (0, 0) X04.out
    have t3 := cell_of_row _ _ 3 _ _ (0, 0) X04.out
    have t4 := cell_of_row _ _ 4 _ _ (0, 0) X04.out
    cases tm with
    | false =>
      clear HGRB HTMB
      have HF : Hid (HasPost w true (.returned (.bool true)) w4) := ⟨rfl, HEND4.out w4 (Below.refl _ _)⟩
      go_wp2
      go_ret
      exact HF.out
    | true =>
      by_cases g0 : n < 0
      · clear HGRB HTMB
        have HF : Hid (HasPost w true (.returned (.bool true)) w4) := ⟨rfl, HEND4.out w4 (Below.refl _ _)⟩
        go_wp2
        go_ret
        exact HF.out
      by_cases g1 : 1000 < n
      · clear HGRB HTMB
        have HF : Hid (HasPost w true (.returned (.bool true)) w4) := ⟨rfl, HEND4.out w4 (Below.refl _ _)⟩
        go_wp2
        go_ret
        exact HF.out
      by_cases g2 : m < 0
      · clear HGRB HTMB
        have HF : Hid (HasPost w true (.returned (.bool true)) w4) := ⟨rfl, HEND4.out w4 (Below.refl _ _)⟩
        go_wp2
        go_ret
        exact HF.out
      by_cases g3 : 1000 < m
      · clear HGRB HTMB
        have HF : Hid (HasPost w true (.returned (.bool true)) w4) := ⟨rfl, HEND4.out w4 (Below.refl _ _)⟩
        go_wp2
        go_ret
        exact HF.out
      by_cases g4 : f < 0
      · clear HGRB HTMB
        have HF : Hid (HasPost w true (.returned (.bool true)) w4) := ⟨rfl, HEND4.out w4 (Below.refl _ _)⟩
        go_wp2
        go_ret
        exact HF.out
      by_cases g5 : 1000 < f
      · clear HGRB HTMB
        have HF : Hid (HasPost w true (.returned (.bool true)) w4) := ⟨rfl, HEND4.out w4 (Below.refl _ _)⟩
        go_wp2
        go_ret
        exact HF.out
      by_cases g6 : (20 : Int) < (nl : Int)
      · clear HGRB HTMB
        have HF : Hid (HasPost w true (.returned (.bool true)) w4) := ⟨rfl, HEND4.out w4 (Below.refl _ _)⟩
        go_wp2
        go_ret
        exact HF.out
      obtain ⟨x, l, k1, k2, k3, k4, k5, k6, k7, k8, k9, k10, k11⟩ := lifts_terms FT.out FU.out FA.out (by have := of_decide_eq_false HGRB.out; omega) HTMB.out (n := n) (m := m) (f := f) ⟨by omega, by omega⟩ ⟨by omega, by omega⟩
      have hsl := HC.out
      simp only [Tm.countL] at hsl
      have st := Tm.size_le_count tt
      have su := Tm.size_le_count tu
      have sa := Tm.size_le_count ta
      have HSZ : Hid (tt.size ≤ 1048576 ∧ tu.size ≤ 1048576 ∧ ta.size ≤ 1048576) := ⟨by omega, by omega, by omega⟩
      have HLF : Hid (Calls Tryd.prog 11 #[.agg #[s0, s1, s2, s3, s4], .int .i64 n, .int .i64 f] w4 (TmPost w4 x)) := by
        have := lift_tm tt _ w4 n f FT.out (by have := HSZ.out; omega) HK4.out HT4.out
        rw [k1] at this
        exact this
      have K2 := Lib.hid k2
      have K3 := Lib.hid k3
      have K4 := Lib.hid k4
      have K5 := Lib.hid k5
      have K6 := Lib.hid k6
      have K7 := Lib.hid k7
      have K8 := Lib.hid k8
      have K9 := Lib.hid k9
      have K10 := Lib.hid k10
      have K11 := Lib.hid k11
      obtain ⟨nm, hnm⟩ : ∃ z, n + m = z := ⟨_, rfl⟩
      obtain ⟨fn, hfn⟩ : ∃ z, f + n = z := ⟨_, rfl⟩
      have W1 : Hid (IntKind.i64.wrap (n + m) = nm) := by
        show _ = _
        rw [IntWalk.i64_in _ (by omega), hnm]
      have W2 : Hid (IntKind.i64.wrap (f + n) = fn) := by
        show _ = _
        rw [IntWalk.i64_in _ (by omega), hfn]
      rw [hnm] at K6
      rw [hfn] at K7 K8
      have h0n : 0 ≤ n := by omega
      clear k1 k2 k3 k4 k5 k6 k7 k8 k9 k10 k11 hsl st su sa hnm hfn
      go_wp2_with (fail)
      refine HLF.out.mono ?_
      rintro e w5 ⟨vx, rfl, hvx, hb5⟩
      obtain ⟨i1, i2, i3, B1, B2, j1, d1, j2, d2, rfl⟩ := tm_shape hvx
      obtain ⟨w6, hw6⟩ : ∃ y, w5.alloc (.cells #[.int .i64 i1, .int .i64 i2, .int .i64 i3, .slice B1 j1 d1, .slice B2 j2 d2] 26) = y := ⟨_, rfl⟩
      have hb6 : Below w5.heap.size w5 w6 := by rw [← hw6]; exact (Below.refl _ _).alloc (Nat.le_refl _) _
      have X36 : Hid (w6.heap[w5.heap.size]? = some (.cells #[.int .i64 i1, .int .i64 i2, .int .i64 i3, .slice B1 j1 d1, .slice B2 j2 d2] 26 (0, 0))) := by
        show _ = _
        rw [← hw6]
        exact heap_alloc_new w5 _
      have HX6 := Lib.hid (hvx.below hb6 hb6.size)
      have hb46 : Below w4.heap.size w4 w6 := hb5.trans (hb6.mono hb5.size)
      clear hvx hb5 hb6 t0 t1 t2 t3 t4 HLF
      have hz6 := hb46.size
      have H06 : Hid (0 < w6.heap.size) := by
        show _ < _
        have := H04.out
        omega
      have X06 := Lib.hid ((hb46.block _ (heap_some_lt X04.out)).trans X04.out)
      have X16 := Lib.hid ((hb46.block _ (heap_some_lt X14.out)).trans X14.out)
      have X26 := Lib.hid ((hb46.block _ (heap_some_lt X24.out)).trans X24.out)
      have HT6 := Lib.hid (HT4.out.below hb46 hz6)
      have HU6 := Lib.hid (HU4.out.below hb46 hz6)
      have HA6 := Lib.hid (HA4.out.below hb46 hz6)
      have HL6 := Lib.hid ((HL4.out.below hb46).more hz6)
      have HK6 := Lib.hid (HK4.out.below hb46 H04.out)
      have HEND6 : Hid (∀ w', Below w6.heap.size w6 w' → Below w.heap.size w w') := fun w' hx => HEND4.out w' (hb46.trans (hx.mono hz6))
      clear hb46 hz6 H04 X04 X14 X24 HT4 HU4 HA4 HL4 HK4 HEND4
      go_upto_region 6 with (fail)
      have hS : Below w6.heap.size w6 w6.drew := (Below.refl _ _).drew
      obtain ⟨fa1, hfa1⟩ : ∃ z, (!tt.look (outF f 5000) 0) = z := ⟨_, rfl⟩
      obtain ⟨fb1, hfb1⟩ : ∃ z, (!tt.look (outF 0 f) 0) = z := ⟨_, rfl⟩
      obtain ⟨sz, hsz⟩ : ∃ z, tt.size = z := ⟨_, rfl⟩
      have hszl : sz ≤ 1048576 := by
        have := HSZ.out.1
        omega
      have hxs : x.size = sz := by rw [K3.out, hsz]
      have HKB : Hid (∀ w', Below w6.heap.size w6 w' → KindsAll w') := fun w' hx => HK6.out.below hx H06.out
      have C67 : Hid (∀ w', Below w6.heap.size w6 w' → Calls Tryd.prog 11 #[.agg #[.int .i64 i1, .int .i64 i2, .int .i64 i3, .slice B1 j1 d1, .slice B2 j2 d2], .int .i64 m, .int .i64 f] w' (TmPost w' l)) := fun w' hx => by
        have := lift_tm x _ w' m f K2.out (by omega) (HKB.out w' hx) (HX6.out.below hx hx.size)
        rw [K4.out] at this
        exact this
      have C73 : Hid (∀ w', Below w6.heap.size w6 w' → Calls Tryd.prog 11 #[.agg #[s0, s1, s2, s3, s4], .int .i64 nm, .int .i64 f] w' (TmPost w' l)) := fun w' hx => by
        have := lift_tm tt _ w' nm f FT.out (by omega) (HKB.out w' hx) (HT6.out.below hx hx.size)
        rw [K6.out] at this
        exact this
      have C78 : Hid (∀ w', Below w6.heap.size w6 w' → Calls Tryd.prog 12 #[.agg #[.int .i64 i1, .int .i64 i2, .int .i64 i3, .slice B1 j1 d1, .slice B2 j2 d2]] w' (fun e w9 => e = .returned (.int .i64 (sz : Int)) ∧ Below w'.heap.size w' w9)) := fun w' hx => by
        have := size_any x (by omega) _ w' (HX6.out.below hx hx.size)
        rw [hxs] at this
        exact this
      have C80 : Hid (∀ w', Below w6.heap.size w6 w' → Calls Tryd.prog 12 #[.agg #[s0, s1, s2, s3, s4]] w' (fun e w9 => e = .returned (.int .i64 (sz : Int)) ∧ Below w'.heap.size w' w9)) := fun w' hx => by
        have := size_any tt (by omega) _ w' (HT6.out.below hx hx.size)
        rw [hsz] at this
        exact this
      have C89 : Hid (∀ w', Below w6.heap.size w6 w' → Calls Tryd.prog 13 #[.agg #[.int .i64 i1, .int .i64 i2, .int .i64 i3, .slice B1 j1 d1, .slice B2 j2 d2], .int .i64 f, .int .i64 fn] w' (HasPost w' false)) := fun w' hx => by
        have := free_any x K2.out _ w' f fn (by omega) (HKB.out w' hx).binds (HX6.out.below hx hx.size)
        rw [K7.out] at this
        exact this
      have C94 : Hid (∀ w', Below w6.heap.size w6 w' → Calls Tryd.prog 13 #[.agg #[s0, s1, s2, s3, s4], .int .i64 f, .int .i64 5000] w' (HasPost w' fa1)) := fun w' hx => by
        have := free_any tt FT.out _ w' f 5000 (by omega) (HKB.out w' hx).binds (HT6.out.below hx hx.size)
        rw [hfa1] at this
        exact this
      have C99 : Hid (∀ w', Below w6.heap.size w6 w' → Calls Tryd.prog 13 #[.agg #[.int .i64 i1, .int .i64 i2, .int .i64 i3, .slice B1 j1 d1, .slice B2 j2 d2], .int .i64 fn, .int .i64 6000] w' (HasPost w' fa1)) := fun w' hx => by
        have := free_any x K2.out _ w' fn 6000 (by omega) (HKB.out w' hx).binds (HX6.out.below hx hx.size)
        rw [K8.out, hfa1] at this
        exact this
      have C105 : Hid (∀ w', Below w6.heap.size w6 w' → Calls Tryd.prog 13 #[.agg #[s0, s1, s2, s3, s4], .int .i64 0, .int .i64 f] w' (HasPost w' fb1)) := fun w' hx => by
        have := free_any tt FT.out _ w' 0 f (by omega) (HKB.out w' hx).binds (HT6.out.below hx hx.size)
        rw [hfb1] at this
        exact this
      have C108 : Hid (∀ w', Below w6.heap.size w6 w' → Calls Tryd.prog 13 #[.agg #[.int .i64 i1, .int .i64 i2, .int .i64 i3, .slice B1 j1 d1, .slice B2 j2 d2], .int .i64 0, .int .i64 f] w' (HasPost w' fb1)) := fun w' hx => by
        have := free_any x K2.out _ w' 0 f (by omega) (HKB.out w' hx).binds (HX6.out.below hx hx.size)
        rw [K9.out, hfb1] at this
        exact this
      have HZ := Lib.hid hsz
      have HXS := Lib.hid hxs
      clear hfa1 hfb1 hsz hxs HKB
      refine wp_region_tab (fun w' => Below w6.heap.size w6 w') (fun w1 w2 : World => Below w1.heap.size w1 w2) [(fun (x : Value) (_ : World) => x = (.agg #[.int .i64 i1, .int .i64 i2, .int .i64 i3, .slice B1 j1 d1, .slice B2 j2 d2] : Value)), (fun (x : Value) (_ : World) => x = (.int .i64 m : Value)), (fun (x : Value) (_ : World) => x = (.int .i64 f : Value)), (fun (x : Value) (w : World) => TmAt w w.heap.size l x), (fun (x : Value) (_ : World) => x = (.agg #[s0, s1, s2, s3, s4] : Value)), (fun (x : Value) (_ : World) => x = (.int .i64 n : Value)), (fun (x : Value) (_ : World) => x = (.int .i64 m : Value)), (fun (x : Value) (_ : World) => x = (.int .i64 nm : Value)), (fun (x : Value) (_ : World) => x = (.int .i64 f : Value)), (fun (x : Value) (w : World) => TmAt w w.heap.size l x), (fun (x : Value) (_ : World) => x = (.bool true : Value)), (fun (x : Value) (_ : World) => x = (.bool false : Value)), (fun (x : Value) (_ : World) => x = (.bool false : Value)), (fun (x : Value) (_ : World) => x = (.agg #[.int .i64 i1, .int .i64 i2, .int .i64 i3, .slice B1 j1 d1, .slice B2 j2 d2] : Value)), (fun (x : Value) (_ : World) => x = (.int .i64 (sz : Int) : Value)), (fun (x : Value) (_ : World) => x = (.agg #[s0, s1, s2, s3, s4] : Value)), (fun (x : Value) (_ : World) => x = (.int .i64 (sz : Int) : Value)), (fun (x : Value) (_ : World) => x = (.bool false : Value)), (fun (x : Value) (_ : World) => x = (.bool false : Value)), (fun (x : Value) (_ : World) => x = (.bool false : Value)), (fun (x : Value) (_ : World) => x = (.agg #[.int .i64 i1, .int .i64 i2, .int .i64 i3, .slice B1 j1 d1, .slice B2 j2 d2] : Value)), (fun (x : Value) (_ : World) => x = (.int .i64 f : Value)), (fun (x : Value) (_ : World) => x = (.int .i64 f : Value)), (fun (x : Value) (_ : World) => x = (.int .i64 n : Value)), (fun (x : Value) (_ : World) => x = (.int .i64 fn : Value)), (fun (x : Value) (_ : World) => x = (.bool false : Value)), (fun (x : Value) (_ : World) => x = (.bool false : Value)), (fun (x : Value) (_ : World) => x = (.bool false : Value)), (fun (x : Value) (_ : World) => x = (.agg #[s0, s1, s2, s3, s4] : Value)), (fun (x : Value) (_ : World) => x = (.int .i64 f : Value)), (fun (x : Value) (_ : World) => x = (.bool fa1 : Value)), (fun (x : Value) (_ : World) => x = (.agg #[.int .i64 i1, .int .i64 i2, .int .i64 i3, .slice B1 j1 d1, .slice B2 j2 d2] : Value)), (fun (x : Value) (_ : World) => x = (.int .i64 f : Value)), (fun (x : Value) (_ : World) => x = (.int .i64 n : Value)), (fun (x : Value) (_ : World) => x = (.int .i64 fn : Value)), (fun (x : Value) (_ : World) => x = (.bool fa1 : Value)), (fun (x : Value) (_ : World) => x = (.bool false : Value)), (fun (x : Value) (_ : World) => x = (.bool false : Value)), (fun (x : Value) (_ : World) => x = (.bool false : Value)), (fun (x : Value) (_ : World) => x = (.agg #[s0, s1, s2, s3, s4] : Value)), (fun (x : Value) (_ : World) => x = (.int .i64 f : Value)), (fun (x : Value) (_ : World) => x = (.bool fb1 : Value)), (fun (x : Value) (_ : World) => x = (.agg #[.int .i64 i1, .int .i64 i2, .int .i64 i3, .slice B1 j1 d1, .slice B2 j2 d2] : Value)), (fun (x : Value) (_ : World) => x = (.int .i64 f : Value)), (fun (x : Value) (_ : World) => x = (.bool fb1 : Value)), (fun (x : Value) (_ : World) => x = (.bool false : Value)), (fun (x : Value) (_ : World) => x = (.bool false : Value))] [⟨some 64, .load 26 (.tmp 15), none, []⟩, ⟨some 65, .move (.tmp 4), none, []⟩, ⟨some 66, .move (.tmp 5), none, []⟩, ⟨some 67, .call { callee := .value (.func 11), args := #[.tmp 64, .tmp 65, .tmp 66], argTypes := #[26, 3, 3] }, none, [(64, 0), (65, 1), (66, 2)]⟩, ⟨some 68, .load 26 (.tmp 7), none, []⟩, ⟨some 69, .move (.tmp 3), none, []⟩, ⟨some 70, .move (.tmp 4), none, []⟩, ⟨some 71, .binOp .add 3 (.tmp 69) (.tmp 70) 3, none, [(69, 5), (70, 6)]⟩, ⟨some 72, .move (.tmp 5), none, []⟩, ⟨some 73, .call { callee := .value (.func 11), args := #[.tmp 68, .tmp 71, .tmp 72], argTypes := #[26, 3, 3] }, none, [(68, 4), (71, 7), (72, 8)]⟩, ⟨some 74, .call { callee := .value (.func 9), args := #[.tmp 67, .tmp 73], argTypes := #[26, 26] }, none, [(67, 3), (73, 9)]⟩, ⟨some 75, .unOp .not 4 (.tmp 74), none, [(74, 10)]⟩, ⟨some 76, .move (.tmp 75), none, [(75, 11)]⟩, ⟨some 77, .load 26 (.tmp 15), some (some 76, false), [(76, 12)]⟩, ⟨some 78, .call { callee := .value (.func 12), args := #[.tmp 77], argTypes := #[26] }, some (some 76, false), [(76, 12), (77, 13)]⟩, ⟨some 79, .load 26 (.tmp 7), some (some 76, false), [(76, 12)]⟩, ⟨some 80, .call { callee := .value (.func 12), args := #[.tmp 79], argTypes := #[26] }, some (some 76, false), [(76, 12), (79, 15)]⟩, ⟨some 81, .binOp .neq 3 (.tmp 78) (.tmp 80) 3, some (some 76, false), [(76, 12), (78, 14), (80, 16)]⟩, ⟨some 82, .pick (.tmp 76) (.const (Value.bool true)) (.tmp 81), none, [(76, 12), (81, 17)]⟩, ⟨some 83, .move (.tmp 82), none, [(82, 18)]⟩, ⟨some 84, .load 26 (.tmp 15), some (some 83, false), [(83, 19)]⟩, ⟨some 85, .move (.tmp 5), some (some 83, false), [(83, 19)]⟩, ⟨some 86, .move (.tmp 5), some (some 83, false), [(83, 19)]⟩, ⟨some 87, .move (.tmp 3), some (some 83, false), [(83, 19)]⟩, ⟨some 88, .binOp .add 3 (.tmp 86) (.tmp 87) 3, some (some 83, false), [(83, 19), (86, 22), (87, 23)]⟩, ⟨some 89, .call { callee := .value (.func 13), args := #[.tmp 84, .tmp 85, .tmp 88], argTypes := #[26, 3, 3] }, some (some 83, false), [(83, 19), (84, 20), (85, 21), (88, 24)]⟩, ⟨some 90, .pick (.tmp 83) (.const (Value.bool true)) (.tmp 89), none, [(83, 19), (89, 25)]⟩, ⟨some 91, .move (.tmp 90), none, [(90, 26)]⟩, ⟨some 92, .load 26 (.tmp 7), some (some 91, false), [(91, 27)]⟩, ⟨some 93, .move (.tmp 5), some (some 91, false), [(91, 27)]⟩, ⟨some 94, .call { callee := .value (.func 13), args := #[.tmp 92, .tmp 93, .const (.int .i64 5000)], argTypes := #[26, 3, 3] }, some (some 91, false), [(91, 27), (92, 28), (93, 29)]⟩, ⟨some 95, .load 26 (.tmp 15), some (some 91, false), [(91, 27)]⟩, ⟨some 96, .move (.tmp 5), some (some 91, false), [(91, 27)]⟩, ⟨some 97, .move (.tmp 3), some (some 91, false), [(91, 27)]⟩, ⟨some 98, .binOp .add 3 (.tmp 96) (.tmp 97) 3, some (some 91, false), [(91, 27), (96, 32), (97, 33)]⟩, ⟨some 99, .call { callee := .value (.func 13), args := #[.tmp 95, .tmp 98, .const (.int .i64 6000)], argTypes := #[26, 3, 3] }, some (some 91, false), [(91, 27), (95, 31), (98, 34)]⟩, ⟨some 100, .binOp .neq 4 (.tmp 94) (.tmp 99) 4, some (some 91, false), [(91, 27), (94, 30), (99, 35)]⟩, ⟨some 101, .pick (.tmp 91) (.const (Value.bool true)) (.tmp 100), none, [(91, 27), (100, 36)]⟩, ⟨some 102, .move (.tmp 101), none, [(101, 37)]⟩, ⟨some 103, .load 26 (.tmp 7), some (some 102, false), [(102, 38)]⟩, ⟨some 104, .move (.tmp 5), some (some 102, false), [(102, 38)]⟩, ⟨some 105, .call { callee := .value (.func 13), args := #[.tmp 103, .const (.int .i64 0), .tmp 104], argTypes := #[26, 3, 3] }, some (some 102, false), [(102, 38), (103, 39), (104, 40)]⟩, ⟨some 106, .load 26 (.tmp 15), some (some 102, false), [(102, 38)]⟩, ⟨some 107, .move (.tmp 5), some (some 102, false), [(102, 38)]⟩, ⟨some 108, .call { callee := .value (.func 13), args := #[.tmp 106, .const (.int .i64 0), .tmp 107], argTypes := #[26, 3, 3] }, some (some 102, false), [(102, 38), (106, 42), (107, 43)]⟩, ⟨some 109, .binOp .neq 4 (.tmp 105) (.tmp 108) 4, some (some 102, false), [(102, 38), (105, 41), (108, 44)]⟩, ⟨some 110, .pick (.tmp 102) (.const (Value.bool true)) (.tmp 109), none, [(102, 38), (109, 45)]⟩] [some 64, some 65, some 66, some 67, some 68, some 69, some 70, some 71, some 72, some 73, some 74, some 75, some 76, some 77, some 78, some 79, some 80, some 81, some 82, some 83, some 84, some 85, some 86, some 87, some 88, some 89, some 90, some 91, some 92, some 93, some 94, some 95, some 96, some 97, some 98, some 99, some 100, some 101, some 102, some 103, some 104, some 105, some 106, some 107, some 108, some 109, some 110] (by kernel_rfl) (by kernel_rfl) (by kernel_rfl) (by kernel_rfl) (by kernel_rfl) ?hS ?hmono ?hsteps ?hfin
      case hS => exact hS
      case hmono =>
        refine MonoL.cons (fun x w1 w2 _ _ _ hx => hx) ?_
        refine MonoL.cons (fun x w1 w2 _ _ _ hx => hx) ?_
        refine MonoL.cons (fun x w1 w2 _ _ _ hx => hx) ?_
        refine MonoL.cons (fun x w1 w2 _ _ hR hx => ?_) ?_
        · exact hx.below hR hR.size
        refine MonoL.cons (fun x w1 w2 _ _ _ hx => hx) ?_
        refine MonoL.cons (fun x w1 w2 _ _ _ hx => hx) ?_
        refine MonoL.cons (fun x w1 w2 _ _ _ hx => hx) ?_
        refine MonoL.cons (fun x w1 w2 _ _ _ hx => hx) ?_
        refine MonoL.cons (fun x w1 w2 _ _ _ hx => hx) ?_
        refine MonoL.cons (fun x w1 w2 _ _ hR hx => ?_) ?_
        · exact hx.below hR hR.size
        refine MonoL.cons (fun x w1 w2 _ _ _ hx => hx) ?_
        refine MonoL.cons (fun x w1 w2 _ _ _ hx => hx) ?_
        refine MonoL.cons (fun x w1 w2 _ _ _ hx => hx) ?_
        refine MonoL.cons (fun x w1 w2 _ _ _ hx => hx) ?_
        refine MonoL.cons (fun x w1 w2 _ _ _ hx => hx) ?_
        refine MonoL.cons (fun x w1 w2 _ _ _ hx => hx) ?_
        refine MonoL.cons (fun x w1 w2 _ _ _ hx => hx) ?_
        refine MonoL.cons (fun x w1 w2 _ _ _ hx => hx) ?_
        refine MonoL.cons (fun x w1 w2 _ _ _ hx => hx) ?_
        refine MonoL.cons (fun x w1 w2 _ _ _ hx => hx) ?_
        refine MonoL.cons (fun x w1 w2 _ _ _ hx => hx) ?_
        refine MonoL.cons (fun x w1 w2 _ _ _ hx => hx) ?_
        refine MonoL.cons (fun x w1 w2 _ _ _ hx => hx) ?_
        refine MonoL.cons (fun x w1 w2 _ _ _ hx => hx) ?_
        refine MonoL.cons (fun x w1 w2 _ _ _ hx => hx) ?_
        refine MonoL.cons (fun x w1 w2 _ _ _ hx => hx) ?_
        refine MonoL.cons (fun x w1 w2 _ _ _ hx => hx) ?_
        refine MonoL.cons (fun x w1 w2 _ _ _ hx => hx) ?_
        refine MonoL.cons (fun x w1 w2 _ _ _ hx => hx) ?_
        refine MonoL.cons (fun x w1 w2 _ _ _ hx => hx) ?_
        refine MonoL.cons (fun x w1 w2 _ _ _ hx => hx) ?_
        refine MonoL.cons (fun x w1 w2 _ _ _ hx => hx) ?_
        refine MonoL.cons (fun x w1 w2 _ _ _ hx => hx) ?_
        refine MonoL.cons (fun x w1 w2 _ _ _ hx => hx) ?_
        refine MonoL.cons (fun x w1 w2 _ _ _ hx => hx) ?_
        refine MonoL.cons (fun x w1 w2 _ _ _ hx => hx) ?_
        refine MonoL.cons (fun x w1 w2 _ _ _ hx => hx) ?_
        refine MonoL.cons (fun x w1 w2 _ _ _ hx => hx) ?_
        refine MonoL.cons (fun x w1 w2 _ _ _ hx => hx) ?_
        refine MonoL.cons (fun x w1 w2 _ _ _ hx => hx) ?_
        refine MonoL.cons (fun x w1 w2 _ _ _ hx => hx) ?_
        refine MonoL.cons (fun x w1 w2 _ _ _ hx => hx) ?_
        refine MonoL.cons (fun x w1 w2 _ _ _ hx => hx) ?_
        refine MonoL.cons (fun x w1 w2 _ _ _ hx => hx) ?_
        refine MonoL.cons (fun x w1 w2 _ _ _ hx => hx) ?_
        refine MonoL.cons (fun x w1 w2 _ _ _ hx => hx) ?_
        refine MonoL.cons (fun x w1 w2 _ _ _ hx => hx) ?_
        exact MonoL.nil
      case hsteps =>
        refine StepsT.cons (fun (x : Value) (_ : World) => x = (.agg #[.int .i64 i1, .int .i64 i2, .int .i64 i3, .slice B1 j1 d1, .slice B2 j2 d2] : Value)) [] rfl rfl (fun oq hop _ wq hQS => ?_) ?_
        · exact StepFrom.load hop (p := (.pointer (some ⟨w5.heap.size, 0, none⟩) : Value)) (by kernel_rfl) (load_box X36.out hQS) (by kernel_rfl) hQS (Below.refl _ _) rfl
        refine StepsT.cons (fun (x : Value) (_ : World) => x = (.int .i64 m : Value)) [] rfl rfl (fun oq hop _ wq hQS => ?_) ?_
        · exact StepFrom.move hop (v := (.int .i64 m : Value)) (by kernel_rfl) (by kernel_rfl) hQS (Below.refl _ _) rfl
        refine StepsT.cons (fun (x : Value) (_ : World) => x = (.int .i64 f : Value)) [] rfl rfl (fun oq hop _ wq hQS => ?_) ?_
        · exact StepFrom.move hop (v := (.int .i64 f : Value)) (by kernel_rfl) (by kernel_rfl) hQS (Below.refl _ _) rfl
        refine StepsT.cons (fun (x : Value) (w : World) => TmAt w w.heap.size l x) [(64, (fun (x : Value) (_ : World) => x = (.agg #[.int .i64 i1, .int .i64 i2, .int .i64 i3, .slice B1 j1 d1, .slice B2 j2 d2] : Value))), (65, (fun (x : Value) (_ : World) => x = (.int .i64 m : Value))), (66, (fun (x : Value) (_ : World) => x = (.int .i64 f : Value)))] rfl rfl (fun oq hop _ wq hQS => ?_) ?_
        · refine StepFrom.more_eq ((.agg #[.int .i64 i1, .int .i64 i2, .int .i64 i3, .slice B1 j1 d1, .slice B2 j2 d2] : Value)) ?_
          refine StepFrom.more_eq ((.int .i64 m : Value)) ?_
          refine StepFrom.more_eq ((.int .i64 f : Value)) ?_
          exact StepFrom.call hop (vs := [(.agg #[.int .i64 i1, .int .i64 i2, .int .i64 i3, .slice B1 j1 d1, .slice B2 j2 d2] : Value), (.int .i64 m : Value), (.int .i64 f : Value)]) (by kernel_rfl) (fun w => enter_lift _ w) (by kernel_rfl) ((C67.out wq hQS).mono fun e w9 h9 => by obtain ⟨v, q1, q2, q3⟩ := h9; exact ⟨_, q1, hQS.trans (q3.mono hQS.size), q3, q2⟩)
        refine StepsT.cons (fun (x : Value) (_ : World) => x = (.agg #[s0, s1, s2, s3, s4] : Value)) [] rfl rfl (fun oq hop _ wq hQS => ?_) ?_
        · exact StepFrom.load hop (p := (.pointer (some ⟨w.heap.size, 0, none⟩) : Value)) (by kernel_rfl) (load_box X06.out hQS) (by kernel_rfl) hQS (Below.refl _ _) rfl
        refine StepsT.cons (fun (x : Value) (_ : World) => x = (.int .i64 n : Value)) [] rfl rfl (fun oq hop _ wq hQS => ?_) ?_
        · exact StepFrom.move hop (v := (.int .i64 n : Value)) (by kernel_rfl) (by kernel_rfl) hQS (Below.refl _ _) rfl
        refine StepsT.cons (fun (x : Value) (_ : World) => x = (.int .i64 m : Value)) [] rfl rfl (fun oq hop _ wq hQS => ?_) ?_
        · exact StepFrom.move hop (v := (.int .i64 m : Value)) (by kernel_rfl) (by kernel_rfl) hQS (Below.refl _ _) rfl
        refine StepsT.cons (fun (x : Value) (_ : World) => x = (.int .i64 nm : Value)) [(69, (fun (x : Value) (_ : World) => x = (.int .i64 n : Value))), (70, (fun (x : Value) (_ : World) => x = (.int .i64 m : Value)))] rfl rfl (fun oq hop _ wq hQS => ?_) ?_
        · refine StepFrom.more_eq ((.int .i64 n : Value)) ?_
          refine StepFrom.more_eq ((.int .i64 m : Value)) ?_
          exact StepFrom.bin hop (vx := (.int .i64 n : Value)) (vy := (.int .i64 m : Value)) (by kernel_rfl) (by kernel_rfl) (add_wrap _ _ _ W1.out) (by kernel_rfl) hQS (Below.refl _ _) rfl
        refine StepsT.cons (fun (x : Value) (_ : World) => x = (.int .i64 f : Value)) [] rfl rfl (fun oq hop _ wq hQS => ?_) ?_
        · exact StepFrom.move hop (v := (.int .i64 f : Value)) (by kernel_rfl) (by kernel_rfl) hQS (Below.refl _ _) rfl
        refine StepsT.cons (fun (x : Value) (w : World) => TmAt w w.heap.size l x) [(68, (fun (x : Value) (_ : World) => x = (.agg #[s0, s1, s2, s3, s4] : Value))), (71, (fun (x : Value) (_ : World) => x = (.int .i64 nm : Value))), (72, (fun (x : Value) (_ : World) => x = (.int .i64 f : Value)))] rfl rfl (fun oq hop _ wq hQS => ?_) ?_
        · refine StepFrom.more_eq ((.agg #[s0, s1, s2, s3, s4] : Value)) ?_
          refine StepFrom.more_eq ((.int .i64 nm : Value)) ?_
          refine StepFrom.more_eq ((.int .i64 f : Value)) ?_
          exact StepFrom.call hop (vs := [(.agg #[s0, s1, s2, s3, s4] : Value), (.int .i64 nm : Value), (.int .i64 f : Value)]) (by kernel_rfl) (fun w => enter_lift _ w) (by kernel_rfl) ((C73.out wq hQS).mono fun e w9 h9 => by obtain ⟨v, q1, q2, q3⟩ := h9; exact ⟨_, q1, hQS.trans (q3.mono hQS.size), q3, q2⟩)
        refine StepsT.cons (fun (x : Value) (_ : World) => x = (.bool true : Value)) [(67, (fun (x : Value) (w : World) => TmAt w w.heap.size l x)), (73, (fun (x : Value) (w : World) => TmAt w w.heap.size l x))] rfl rfl (fun oq hop _ wq hQS => ?_) ?_
        · refine StepFrom.more fun x67 h67 => ?_
          obtain h67 := h67
          refine StepFrom.more fun x73 h73 => ?_
          obtain h73 := h73
          exact StepFrom.call hop (vs := [(x67 : Value), (x73 : Value)]) (by kernel_rfl) (fun w => enter_sameTm2 _ w) (by kernel_rfl) ((same2_any l l x67 x73 wq true K5.out K5.out h67 h73 (by simp)).mono fun e w9 h9 => by obtain ⟨q1, q2⟩ := h9; exact ⟨_, q1, hQS.trans (q2.mono hQS.size), q2, rfl⟩)
        refine StepsT.cons (fun (x : Value) (_ : World) => x = (.bool false : Value)) [(74, (fun (x : Value) (_ : World) => x = (.bool true : Value)))] rfl rfl (fun oq hop _ wq hQS => ?_) ?_
        · refine StepFrom.more_eq ((.bool true : Value)) ?_
          exact StepFrom.not hop (b := true) (by kernel_rfl) (by kernel_rfl) hQS (Below.refl _ _) rfl
        refine StepsT.cons (fun (x : Value) (_ : World) => x = (.bool false : Value)) [(75, (fun (x : Value) (_ : World) => x = (.bool false : Value)))] rfl rfl (fun oq hop _ wq hQS => ?_) ?_
        · refine StepFrom.more_eq ((.bool false : Value)) ?_
          exact StepFrom.move hop (v := (.bool false : Value)) (by kernel_rfl) (by kernel_rfl) hQS (Below.refl _ _) rfl
        refine StepsT.cons (fun (x : Value) (_ : World) => x = (.agg #[.int .i64 i1, .int .i64 i2, .int .i64 i3, .slice B1 j1 d1, .slice B2 j2 d2] : Value)) [(76, (fun (x : Value) (_ : World) => x = (.bool false : Value)))] rfl rfl (fun oq hop _ wq hQS => ?_) ?_
        · refine StepFrom.more_eq ((.bool false : Value)) ?_
          exact StepFrom.load hop (p := (.pointer (some ⟨w5.heap.size, 0, none⟩) : Value)) (by kernel_rfl) (load_box X36.out hQS) (by kernel_rfl) hQS (Below.refl _ _) rfl
        refine StepsT.cons (fun (x : Value) (_ : World) => x = (.int .i64 (sz : Int) : Value)) [(76, (fun (x : Value) (_ : World) => x = (.bool false : Value))), (77, (fun (x : Value) (_ : World) => x = (.agg #[.int .i64 i1, .int .i64 i2, .int .i64 i3, .slice B1 j1 d1, .slice B2 j2 d2] : Value)))] rfl rfl (fun oq hop _ wq hQS => ?_) ?_
        · refine StepFrom.more_eq ((.bool false : Value)) ?_
          refine StepFrom.more_eq ((.agg #[.int .i64 i1, .int .i64 i2, .int .i64 i3, .slice B1 j1 d1, .slice B2 j2 d2] : Value)) ?_
          exact StepFrom.call hop (vs := [(.agg #[.int .i64 i1, .int .i64 i2, .int .i64 i3, .slice B1 j1 d1, .slice B2 j2 d2] : Value)]) (by kernel_rfl) (fun w => enter_size _ w) (by kernel_rfl) ((C78.out wq hQS).mono fun e w9 h9 => by obtain ⟨q1, q2⟩ := h9; exact ⟨_, q1, hQS.trans (q2.mono hQS.size), q2, rfl⟩)
        refine StepsT.cons (fun (x : Value) (_ : World) => x = (.agg #[s0, s1, s2, s3, s4] : Value)) [(76, (fun (x : Value) (_ : World) => x = (.bool false : Value)))] rfl rfl (fun oq hop _ wq hQS => ?_) ?_
        · refine StepFrom.more_eq ((.bool false : Value)) ?_
          exact StepFrom.load hop (p := (.pointer (some ⟨w.heap.size, 0, none⟩) : Value)) (by kernel_rfl) (load_box X06.out hQS) (by kernel_rfl) hQS (Below.refl _ _) rfl
        refine StepsT.cons (fun (x : Value) (_ : World) => x = (.int .i64 (sz : Int) : Value)) [(76, (fun (x : Value) (_ : World) => x = (.bool false : Value))), (79, (fun (x : Value) (_ : World) => x = (.agg #[s0, s1, s2, s3, s4] : Value)))] rfl rfl (fun oq hop _ wq hQS => ?_) ?_
        · refine StepFrom.more_eq ((.bool false : Value)) ?_
          refine StepFrom.more_eq ((.agg #[s0, s1, s2, s3, s4] : Value)) ?_
          exact StepFrom.call hop (vs := [(.agg #[s0, s1, s2, s3, s4] : Value)]) (by kernel_rfl) (fun w => enter_size _ w) (by kernel_rfl) ((C80.out wq hQS).mono fun e w9 h9 => by obtain ⟨q1, q2⟩ := h9; exact ⟨_, q1, hQS.trans (q2.mono hQS.size), q2, rfl⟩)
        refine StepsT.cons (fun (x : Value) (_ : World) => x = (.bool false : Value)) [(76, (fun (x : Value) (_ : World) => x = (.bool false : Value))), (78, (fun (x : Value) (_ : World) => x = (.int .i64 (sz : Int) : Value))), (80, (fun (x : Value) (_ : World) => x = (.int .i64 (sz : Int) : Value)))] rfl rfl (fun oq hop _ wq hQS => ?_) ?_
        · refine StepFrom.more_eq ((.bool false : Value)) ?_
          refine StepFrom.more_eq ((.int .i64 (sz : Int) : Value)) ?_
          refine StepFrom.more_eq ((.int .i64 (sz : Int) : Value)) ?_
          exact StepFrom.bin hop (vx := (.int .i64 (sz : Int) : Value)) (vy := (.int .i64 (sz : Int) : Value)) (by kernel_rfl) (by kernel_rfl) (neq_same _ _ _ _) (by kernel_rfl) hQS (Below.refl _ _) rfl
        refine StepsT.cons (fun (x : Value) (_ : World) => x = (.bool false : Value)) [(76, (fun (x : Value) (_ : World) => x = (.bool false : Value))), (81, (fun (x : Value) (_ : World) => x = (.bool false : Value)))] rfl rfl (fun oq hop _ wq hQS => ?_) ?_
        · refine StepFrom.more_eq ((.bool false : Value)) ?_
          refine StepFrom.more_eq ((.bool false : Value)) ?_
          exact StepFrom.pick hop (b := false) (vx := (Value.bool true : Value)) (vy := (.bool false : Value)) (by kernel_rfl) (by kernel_rfl) (by kernel_rfl) (by kernel_rfl) hQS (Below.refl _ _) rfl
        refine StepsT.cons (fun (x : Value) (_ : World) => x = (.bool false : Value)) [(82, (fun (x : Value) (_ : World) => x = (.bool false : Value)))] rfl rfl (fun oq hop _ wq hQS => ?_) ?_
        · refine StepFrom.more_eq ((.bool false : Value)) ?_
          exact StepFrom.move hop (v := (.bool false : Value)) (by kernel_rfl) (by kernel_rfl) hQS (Below.refl _ _) rfl
        refine StepsT.cons (fun (x : Value) (_ : World) => x = (.agg #[.int .i64 i1, .int .i64 i2, .int .i64 i3, .slice B1 j1 d1, .slice B2 j2 d2] : Value)) [(83, (fun (x : Value) (_ : World) => x = (.bool false : Value)))] rfl rfl (fun oq hop _ wq hQS => ?_) ?_
        · refine StepFrom.more_eq ((.bool false : Value)) ?_
          exact StepFrom.load hop (p := (.pointer (some ⟨w5.heap.size, 0, none⟩) : Value)) (by kernel_rfl) (load_box X36.out hQS) (by kernel_rfl) hQS (Below.refl _ _) rfl
        refine StepsT.cons (fun (x : Value) (_ : World) => x = (.int .i64 f : Value)) [(83, (fun (x : Value) (_ : World) => x = (.bool false : Value)))] rfl rfl (fun oq hop _ wq hQS => ?_) ?_
        · refine StepFrom.more_eq ((.bool false : Value)) ?_
          exact StepFrom.move hop (v := (.int .i64 f : Value)) (by kernel_rfl) (by kernel_rfl) hQS (Below.refl _ _) rfl
        refine StepsT.cons (fun (x : Value) (_ : World) => x = (.int .i64 f : Value)) [(83, (fun (x : Value) (_ : World) => x = (.bool false : Value)))] rfl rfl (fun oq hop _ wq hQS => ?_) ?_
        · refine StepFrom.more_eq ((.bool false : Value)) ?_
          exact StepFrom.move hop (v := (.int .i64 f : Value)) (by kernel_rfl) (by kernel_rfl) hQS (Below.refl _ _) rfl
        refine StepsT.cons (fun (x : Value) (_ : World) => x = (.int .i64 n : Value)) [(83, (fun (x : Value) (_ : World) => x = (.bool false : Value)))] rfl rfl (fun oq hop _ wq hQS => ?_) ?_
        · refine StepFrom.more_eq ((.bool false : Value)) ?_
          exact StepFrom.move hop (v := (.int .i64 n : Value)) (by kernel_rfl) (by kernel_rfl) hQS (Below.refl _ _) rfl
        refine StepsT.cons (fun (x : Value) (_ : World) => x = (.int .i64 fn : Value)) [(83, (fun (x : Value) (_ : World) => x = (.bool false : Value))), (86, (fun (x : Value) (_ : World) => x = (.int .i64 f : Value))), (87, (fun (x : Value) (_ : World) => x = (.int .i64 n : Value)))] rfl rfl (fun oq hop _ wq hQS => ?_) ?_
        · refine StepFrom.more_eq ((.bool false : Value)) ?_
          refine StepFrom.more_eq ((.int .i64 f : Value)) ?_
          refine StepFrom.more_eq ((.int .i64 n : Value)) ?_
          exact StepFrom.bin hop (vx := (.int .i64 f : Value)) (vy := (.int .i64 n : Value)) (by kernel_rfl) (by kernel_rfl) (add_wrap _ _ _ W2.out) (by kernel_rfl) hQS (Below.refl _ _) rfl
        refine StepsT.cons (fun (x : Value) (_ : World) => x = (.bool false : Value)) [(83, (fun (x : Value) (_ : World) => x = (.bool false : Value))), (84, (fun (x : Value) (_ : World) => x = (.agg #[.int .i64 i1, .int .i64 i2, .int .i64 i3, .slice B1 j1 d1, .slice B2 j2 d2] : Value))), (85, (fun (x : Value) (_ : World) => x = (.int .i64 f : Value))), (88, (fun (x : Value) (_ : World) => x = (.int .i64 fn : Value)))] rfl rfl (fun oq hop _ wq hQS => ?_) ?_
        · refine StepFrom.more_eq ((.bool false : Value)) ?_
          refine StepFrom.more_eq ((.agg #[.int .i64 i1, .int .i64 i2, .int .i64 i3, .slice B1 j1 d1, .slice B2 j2 d2] : Value)) ?_
          refine StepFrom.more_eq ((.int .i64 f : Value)) ?_
          refine StepFrom.more_eq ((.int .i64 fn : Value)) ?_
          exact StepFrom.call hop (vs := [(.agg #[.int .i64 i1, .int .i64 i2, .int .i64 i3, .slice B1 j1 d1, .slice B2 j2 d2] : Value), (.int .i64 f : Value), (.int .i64 fn : Value)]) (by kernel_rfl) (fun w => enter_freeTm _ w) (by kernel_rfl) ((C89.out wq hQS).mono fun e w9 h9 => by obtain ⟨q1, q2⟩ := h9; exact ⟨_, q1, hQS.trans (q2.mono hQS.size), q2, rfl⟩)
        refine StepsT.cons (fun (x : Value) (_ : World) => x = (.bool false : Value)) [(83, (fun (x : Value) (_ : World) => x = (.bool false : Value))), (89, (fun (x : Value) (_ : World) => x = (.bool false : Value)))] rfl rfl (fun oq hop _ wq hQS => ?_) ?_
        · refine StepFrom.more_eq ((.bool false : Value)) ?_
          refine StepFrom.more_eq ((.bool false : Value)) ?_
          exact StepFrom.pick hop (b := false) (vx := (Value.bool true : Value)) (vy := (.bool false : Value)) (by kernel_rfl) (by kernel_rfl) (by kernel_rfl) (by kernel_rfl) hQS (Below.refl _ _) rfl
        refine StepsT.cons (fun (x : Value) (_ : World) => x = (.bool false : Value)) [(90, (fun (x : Value) (_ : World) => x = (.bool false : Value)))] rfl rfl (fun oq hop _ wq hQS => ?_) ?_
        · refine StepFrom.more_eq ((.bool false : Value)) ?_
          exact StepFrom.move hop (v := (.bool false : Value)) (by kernel_rfl) (by kernel_rfl) hQS (Below.refl _ _) rfl
        refine StepsT.cons (fun (x : Value) (_ : World) => x = (.agg #[s0, s1, s2, s3, s4] : Value)) [(91, (fun (x : Value) (_ : World) => x = (.bool false : Value)))] rfl rfl (fun oq hop _ wq hQS => ?_) ?_
        · refine StepFrom.more_eq ((.bool false : Value)) ?_
          exact StepFrom.load hop (p := (.pointer (some ⟨w.heap.size, 0, none⟩) : Value)) (by kernel_rfl) (load_box X06.out hQS) (by kernel_rfl) hQS (Below.refl _ _) rfl
        refine StepsT.cons (fun (x : Value) (_ : World) => x = (.int .i64 f : Value)) [(91, (fun (x : Value) (_ : World) => x = (.bool false : Value)))] rfl rfl (fun oq hop _ wq hQS => ?_) ?_
        · refine StepFrom.more_eq ((.bool false : Value)) ?_
          exact StepFrom.move hop (v := (.int .i64 f : Value)) (by kernel_rfl) (by kernel_rfl) hQS (Below.refl _ _) rfl
        refine StepsT.cons (fun (x : Value) (_ : World) => x = (.bool fa1 : Value)) [(91, (fun (x : Value) (_ : World) => x = (.bool false : Value))), (92, (fun (x : Value) (_ : World) => x = (.agg #[s0, s1, s2, s3, s4] : Value))), (93, (fun (x : Value) (_ : World) => x = (.int .i64 f : Value)))] rfl rfl (fun oq hop _ wq hQS => ?_) ?_
        · refine StepFrom.more_eq ((.bool false : Value)) ?_
          refine StepFrom.more_eq ((.agg #[s0, s1, s2, s3, s4] : Value)) ?_
          refine StepFrom.more_eq ((.int .i64 f : Value)) ?_
          exact StepFrom.call hop (vs := [(.agg #[s0, s1, s2, s3, s4] : Value), (.int .i64 f : Value), (.int .i64 5000 : Value)]) (by kernel_rfl) (fun w => enter_freeTm _ w) (by kernel_rfl) ((C94.out wq hQS).mono fun e w9 h9 => by obtain ⟨q1, q2⟩ := h9; exact ⟨_, q1, hQS.trans (q2.mono hQS.size), q2, rfl⟩)
        refine StepsT.cons (fun (x : Value) (_ : World) => x = (.agg #[.int .i64 i1, .int .i64 i2, .int .i64 i3, .slice B1 j1 d1, .slice B2 j2 d2] : Value)) [(91, (fun (x : Value) (_ : World) => x = (.bool false : Value)))] rfl rfl (fun oq hop _ wq hQS => ?_) ?_
        · refine StepFrom.more_eq ((.bool false : Value)) ?_
          exact StepFrom.load hop (p := (.pointer (some ⟨w5.heap.size, 0, none⟩) : Value)) (by kernel_rfl) (load_box X36.out hQS) (by kernel_rfl) hQS (Below.refl _ _) rfl
        refine StepsT.cons (fun (x : Value) (_ : World) => x = (.int .i64 f : Value)) [(91, (fun (x : Value) (_ : World) => x = (.bool false : Value)))] rfl rfl (fun oq hop _ wq hQS => ?_) ?_
        · refine StepFrom.more_eq ((.bool false : Value)) ?_
          exact StepFrom.move hop (v := (.int .i64 f : Value)) (by kernel_rfl) (by kernel_rfl) hQS (Below.refl _ _) rfl
        refine StepsT.cons (fun (x : Value) (_ : World) => x = (.int .i64 n : Value)) [(91, (fun (x : Value) (_ : World) => x = (.bool false : Value)))] rfl rfl (fun oq hop _ wq hQS => ?_) ?_
        · refine StepFrom.more_eq ((.bool false : Value)) ?_
          exact StepFrom.move hop (v := (.int .i64 n : Value)) (by kernel_rfl) (by kernel_rfl) hQS (Below.refl _ _) rfl
        refine StepsT.cons (fun (x : Value) (_ : World) => x = (.int .i64 fn : Value)) [(91, (fun (x : Value) (_ : World) => x = (.bool false : Value))), (96, (fun (x : Value) (_ : World) => x = (.int .i64 f : Value))), (97, (fun (x : Value) (_ : World) => x = (.int .i64 n : Value)))] rfl rfl (fun oq hop _ wq hQS => ?_) ?_
        · refine StepFrom.more_eq ((.bool false : Value)) ?_
          refine StepFrom.more_eq ((.int .i64 f : Value)) ?_
          refine StepFrom.more_eq ((.int .i64 n : Value)) ?_
          exact StepFrom.bin hop (vx := (.int .i64 f : Value)) (vy := (.int .i64 n : Value)) (by kernel_rfl) (by kernel_rfl) (add_wrap _ _ _ W2.out) (by kernel_rfl) hQS (Below.refl _ _) rfl
        refine StepsT.cons (fun (x : Value) (_ : World) => x = (.bool fa1 : Value)) [(91, (fun (x : Value) (_ : World) => x = (.bool false : Value))), (95, (fun (x : Value) (_ : World) => x = (.agg #[.int .i64 i1, .int .i64 i2, .int .i64 i3, .slice B1 j1 d1, .slice B2 j2 d2] : Value))), (98, (fun (x : Value) (_ : World) => x = (.int .i64 fn : Value)))] rfl rfl (fun oq hop _ wq hQS => ?_) ?_
        · refine StepFrom.more_eq ((.bool false : Value)) ?_
          refine StepFrom.more_eq ((.agg #[.int .i64 i1, .int .i64 i2, .int .i64 i3, .slice B1 j1 d1, .slice B2 j2 d2] : Value)) ?_
          refine StepFrom.more_eq ((.int .i64 fn : Value)) ?_
          exact StepFrom.call hop (vs := [(.agg #[.int .i64 i1, .int .i64 i2, .int .i64 i3, .slice B1 j1 d1, .slice B2 j2 d2] : Value), (.int .i64 fn : Value), (.int .i64 6000 : Value)]) (by kernel_rfl) (fun w => enter_freeTm _ w) (by kernel_rfl) ((C99.out wq hQS).mono fun e w9 h9 => by obtain ⟨q1, q2⟩ := h9; exact ⟨_, q1, hQS.trans (q2.mono hQS.size), q2, rfl⟩)
        refine StepsT.cons (fun (x : Value) (_ : World) => x = (.bool false : Value)) [(91, (fun (x : Value) (_ : World) => x = (.bool false : Value))), (94, (fun (x : Value) (_ : World) => x = (.bool fa1 : Value))), (99, (fun (x : Value) (_ : World) => x = (.bool fa1 : Value)))] rfl rfl (fun oq hop _ wq hQS => ?_) ?_
        · refine StepFrom.more_eq ((.bool false : Value)) ?_
          refine StepFrom.more_eq ((.bool fa1 : Value)) ?_
          refine StepFrom.more_eq ((.bool fa1 : Value)) ?_
          exact StepFrom.bin hop (vx := (.bool fa1 : Value)) (vy := (.bool fa1 : Value)) (by kernel_rfl) (by kernel_rfl) (neq_sameB _ _ _ _) (by kernel_rfl) hQS (Below.refl _ _) rfl
        refine StepsT.cons (fun (x : Value) (_ : World) => x = (.bool false : Value)) [(91, (fun (x : Value) (_ : World) => x = (.bool false : Value))), (100, (fun (x : Value) (_ : World) => x = (.bool false : Value)))] rfl rfl (fun oq hop _ wq hQS => ?_) ?_
        · refine StepFrom.more_eq ((.bool false : Value)) ?_
          refine StepFrom.more_eq ((.bool false : Value)) ?_
          exact StepFrom.pick hop (b := false) (vx := (Value.bool true : Value)) (vy := (.bool false : Value)) (by kernel_rfl) (by kernel_rfl) (by kernel_rfl) (by kernel_rfl) hQS (Below.refl _ _) rfl
        refine StepsT.cons (fun (x : Value) (_ : World) => x = (.bool false : Value)) [(101, (fun (x : Value) (_ : World) => x = (.bool false : Value)))] rfl rfl (fun oq hop _ wq hQS => ?_) ?_
        · refine StepFrom.more_eq ((.bool false : Value)) ?_
          exact StepFrom.move hop (v := (.bool false : Value)) (by kernel_rfl) (by kernel_rfl) hQS (Below.refl _ _) rfl
        refine StepsT.cons (fun (x : Value) (_ : World) => x = (.agg #[s0, s1, s2, s3, s4] : Value)) [(102, (fun (x : Value) (_ : World) => x = (.bool false : Value)))] rfl rfl (fun oq hop _ wq hQS => ?_) ?_
        · refine StepFrom.more_eq ((.bool false : Value)) ?_
          exact StepFrom.load hop (p := (.pointer (some ⟨w.heap.size, 0, none⟩) : Value)) (by kernel_rfl) (load_box X06.out hQS) (by kernel_rfl) hQS (Below.refl _ _) rfl
        refine StepsT.cons (fun (x : Value) (_ : World) => x = (.int .i64 f : Value)) [(102, (fun (x : Value) (_ : World) => x = (.bool false : Value)))] rfl rfl (fun oq hop _ wq hQS => ?_) ?_
        · refine StepFrom.more_eq ((.bool false : Value)) ?_
          exact StepFrom.move hop (v := (.int .i64 f : Value)) (by kernel_rfl) (by kernel_rfl) hQS (Below.refl _ _) rfl
        refine StepsT.cons (fun (x : Value) (_ : World) => x = (.bool fb1 : Value)) [(102, (fun (x : Value) (_ : World) => x = (.bool false : Value))), (103, (fun (x : Value) (_ : World) => x = (.agg #[s0, s1, s2, s3, s4] : Value))), (104, (fun (x : Value) (_ : World) => x = (.int .i64 f : Value)))] rfl rfl (fun oq hop _ wq hQS => ?_) ?_
        · refine StepFrom.more_eq ((.bool false : Value)) ?_
          refine StepFrom.more_eq ((.agg #[s0, s1, s2, s3, s4] : Value)) ?_
          refine StepFrom.more_eq ((.int .i64 f : Value)) ?_
          exact StepFrom.call hop (vs := [(.agg #[s0, s1, s2, s3, s4] : Value), (.int .i64 0 : Value), (.int .i64 f : Value)]) (by kernel_rfl) (fun w => enter_freeTm _ w) (by kernel_rfl) ((C105.out wq hQS).mono fun e w9 h9 => by obtain ⟨q1, q2⟩ := h9; exact ⟨_, q1, hQS.trans (q2.mono hQS.size), q2, rfl⟩)
        refine StepsT.cons (fun (x : Value) (_ : World) => x = (.agg #[.int .i64 i1, .int .i64 i2, .int .i64 i3, .slice B1 j1 d1, .slice B2 j2 d2] : Value)) [(102, (fun (x : Value) (_ : World) => x = (.bool false : Value)))] rfl rfl (fun oq hop _ wq hQS => ?_) ?_
        · refine StepFrom.more_eq ((.bool false : Value)) ?_
          exact StepFrom.load hop (p := (.pointer (some ⟨w5.heap.size, 0, none⟩) : Value)) (by kernel_rfl) (load_box X36.out hQS) (by kernel_rfl) hQS (Below.refl _ _) rfl
        refine StepsT.cons (fun (x : Value) (_ : World) => x = (.int .i64 f : Value)) [(102, (fun (x : Value) (_ : World) => x = (.bool false : Value)))] rfl rfl (fun oq hop _ wq hQS => ?_) ?_
        · refine StepFrom.more_eq ((.bool false : Value)) ?_
          exact StepFrom.move hop (v := (.int .i64 f : Value)) (by kernel_rfl) (by kernel_rfl) hQS (Below.refl _ _) rfl
        refine StepsT.cons (fun (x : Value) (_ : World) => x = (.bool fb1 : Value)) [(102, (fun (x : Value) (_ : World) => x = (.bool false : Value))), (106, (fun (x : Value) (_ : World) => x = (.agg #[.int .i64 i1, .int .i64 i2, .int .i64 i3, .slice B1 j1 d1, .slice B2 j2 d2] : Value))), (107, (fun (x : Value) (_ : World) => x = (.int .i64 f : Value)))] rfl rfl (fun oq hop _ wq hQS => ?_) ?_
        · refine StepFrom.more_eq ((.bool false : Value)) ?_
          refine StepFrom.more_eq ((.agg #[.int .i64 i1, .int .i64 i2, .int .i64 i3, .slice B1 j1 d1, .slice B2 j2 d2] : Value)) ?_
          refine StepFrom.more_eq ((.int .i64 f : Value)) ?_
          exact StepFrom.call hop (vs := [(.agg #[.int .i64 i1, .int .i64 i2, .int .i64 i3, .slice B1 j1 d1, .slice B2 j2 d2] : Value), (.int .i64 0 : Value), (.int .i64 f : Value)]) (by kernel_rfl) (fun w => enter_freeTm _ w) (by kernel_rfl) ((C108.out wq hQS).mono fun e w9 h9 => by obtain ⟨q1, q2⟩ := h9; exact ⟨_, q1, hQS.trans (q2.mono hQS.size), q2, rfl⟩)
        refine StepsT.cons (fun (x : Value) (_ : World) => x = (.bool false : Value)) [(102, (fun (x : Value) (_ : World) => x = (.bool false : Value))), (105, (fun (x : Value) (_ : World) => x = (.bool fb1 : Value))), (108, (fun (x : Value) (_ : World) => x = (.bool fb1 : Value)))] rfl rfl (fun oq hop _ wq hQS => ?_) ?_
        · refine StepFrom.more_eq ((.bool false : Value)) ?_
          refine StepFrom.more_eq ((.bool fb1 : Value)) ?_
          refine StepFrom.more_eq ((.bool fb1 : Value)) ?_
          exact StepFrom.bin hop (vx := (.bool fb1 : Value)) (vy := (.bool fb1 : Value)) (by kernel_rfl) (by kernel_rfl) (neq_sameB _ _ _ _) (by kernel_rfl) hQS (Below.refl _ _) rfl
        refine StepsT.cons (fun (x : Value) (_ : World) => x = (.bool false : Value)) [(102, (fun (x : Value) (_ : World) => x = (.bool false : Value))), (109, (fun (x : Value) (_ : World) => x = (.bool false : Value)))] rfl rfl (fun oq hop _ wq hQS => ?_) ?_
        · refine StepFrom.more_eq ((.bool false : Value)) ?_
          refine StepFrom.more_eq ((.bool false : Value)) ?_
          exact StepFrom.pick hop (b := false) (vx := (Value.bool true : Value)) (vy := (.bool false : Value)) (by kernel_rfl) (by kernel_rfl) (by kernel_rfl) (by kernel_rfl) hQS (Below.refl _ _) rfl
        exact StepsT.nil
      case hfin =>
        intro w7 hb7
        refine FinalFrom.more fun x64 h64 => ?_
        refine FinalFrom.more fun x65 h65 => ?_
        refine FinalFrom.more fun x66 h66 => ?_
        refine FinalFrom.more fun x67 h67 => ?_
        refine FinalFrom.more fun x68 h68 => ?_
        refine FinalFrom.more fun x69 h69 => ?_
        refine FinalFrom.more fun x70 h70 => ?_
        refine FinalFrom.more fun x71 h71 => ?_
        refine FinalFrom.more fun x72 h72 => ?_
        refine FinalFrom.more fun x73 h73 => ?_
        refine FinalFrom.more fun x74 h74 => ?_
        refine FinalFrom.more fun x75 h75 => ?_
        refine FinalFrom.more fun x76 h76 => ?_
        refine FinalFrom.more fun x77 h77 => ?_
        refine FinalFrom.more fun x78 h78 => ?_
        refine FinalFrom.more fun x79 h79 => ?_
        refine FinalFrom.more fun x80 h80 => ?_
        refine FinalFrom.more fun x81 h81 => ?_
        refine FinalFrom.more fun x82 h82 => ?_
        refine FinalFrom.more fun x83 h83 => ?_
        refine FinalFrom.more fun x84 h84 => ?_
        refine FinalFrom.more fun x85 h85 => ?_
        refine FinalFrom.more fun x86 h86 => ?_
        refine FinalFrom.more fun x87 h87 => ?_
        refine FinalFrom.more fun x88 h88 => ?_
        refine FinalFrom.more fun x89 h89 => ?_
        refine FinalFrom.more fun x90 h90 => ?_
        refine FinalFrom.more fun x91 h91 => ?_
        refine FinalFrom.more fun x92 h92 => ?_
        refine FinalFrom.more fun x93 h93 => ?_
        refine FinalFrom.more fun x94 h94 => ?_
        refine FinalFrom.more fun x95 h95 => ?_
        refine FinalFrom.more fun x96 h96 => ?_
        refine FinalFrom.more fun x97 h97 => ?_
        refine FinalFrom.more fun x98 h98 => ?_
        refine FinalFrom.more fun x99 h99 => ?_
        refine FinalFrom.more fun x100 h100 => ?_
        refine FinalFrom.more fun x101 h101 => ?_
        refine FinalFrom.more fun x102 h102 => ?_
        refine FinalFrom.more fun x103 h103 => ?_
        refine FinalFrom.more fun x104 h104 => ?_
        refine FinalFrom.more fun x105 h105 => ?_
        refine FinalFrom.more fun x106 h106 => ?_
        refine FinalFrom.more fun x107 h107 => ?_
        refine FinalFrom.more fun x108 h108 => ?_
        refine FinalFrom.more fun x109 h109 => ?_
        refine FinalFrom.more fun x110 h110 => ?_
        refine FinalFrom.done ?_
        rw [show x110 = .bool false from h110]
        have X37 := Lib.hid ((hb7.block _ (heap_some_lt X36.out)).trans X36.out)
        have HX7 := Lib.hid (HX6.out.below hb7 hb7.size)
        clear hS h64 h65 h66 h67 h68 h69 h70 h71 h72 h73 h74 h75 h76 h77 h78 h79 h80 h81 h82 h83 h84 h85 h86 h87 h88 h89 h90 h91 h92 h93 h94 h95 h96 h97 h98 h99 h100 h101 h102 h103 h104 h105 h106 h107 h108 h109 h110 C67 C73 C78 C80 C89 C94 C99 C105 C108 X36 HX6 W1 W2 K3 K4 K6 K7 K8 K9
        have hz7 := hb7.size
        have H07 : Hid (0 < w7.heap.size) := by
          show _ < _
          have := H06.out
          omega
        have X07 := Lib.hid ((hb7.block _ (heap_some_lt X06.out)).trans X06.out)
        have X17 := Lib.hid ((hb7.block _ (heap_some_lt X16.out)).trans X16.out)
        have X27 := Lib.hid ((hb7.block _ (heap_some_lt X26.out)).trans X26.out)
        have HT7 := Lib.hid (HT6.out.below hb7 hz7)
        have HU7 := Lib.hid (HU6.out.below hb7 hz7)
        have HA7 := Lib.hid (HA6.out.below hb7 hz7)
        have HL7 := Lib.hid ((HL6.out.below hb7).more hz7)
        have HK7 := Lib.hid (HK6.out.below hb7 H06.out)
        have HEND7 : Hid (∀ w', Below w7.heap.size w7 w' → Below w.heap.size w w') := fun w' hx => HEND6.out w' (hb7.trans (hx.mono hz7))
        clear hb7 hz7 H06 X06 X16 X26 HT6 HU6 HA6 HL6 HK6 HEND6
        have t0 := cell_of_row _ _ 0 _ _ (0, 0) X07.out
        have t1 := cell_of_row _ _ 1 _ _ (0, 0) X07.out
        have t2 := cell_of_row _ _ 2 _ _ (0, 0) X07.out
        have t3 := cell_of_row _ _ 3 _ _ (0, 0) X07.out
        have t4 := cell_of_row _ _ 4 _ _ (0, 0) X07.out
        have u0 := cell_of_row _ _ 0 _ _ (0, 0) X17.out
        have u1 := cell_of_row _ _ 1 _ _ (0, 0) X17.out
        have u2 := cell_of_row _ _ 2 _ _ (0, 0) X17.out
        have u3 := cell_of_row _ _ 3 _ _ (0, 0) X17.out
        have u4 := cell_of_row _ _ 4 _ _ (0, 0) X17.out
        obtain ⟨rs, hrs⟩ := bool_is (tt.norm = tu.norm)
        have HSM : Hid (Calls Tryd.prog 14 #[.agg #[s0, s1, s2, s3, s4], .agg #[p0, p1, p2, p3, p4]] w7 (HasPost w7 rs)) := one_any tt (Tm.fit_wide _ FT.out) tu _ _ w7 rs (Tm.fit_wide _ FU.out) HT7.out HU7.out hrs
        have HRS := Lib.hid hrs
        clear hrs
        simp only [Act.put, List.setIfInBounds_toArray, List.set_cons_zero, List.set_cons_succ]
        go_wp2_with (fail)
        refine HSM.out.mono ?_
        rintro e w8 ⟨rfl, hb8⟩
        have X38 := Lib.hid ((hb8.block _ (heap_some_lt X37.out)).trans X37.out)
        have HX8 := Lib.hid (HX7.out.below hb8 hb8.size)
        clear HSM X37 HX7 t0 t1 t2 t3 t4 u0 u1 u2 u3 u4
        have hz8 := hb8.size
        have H08 : Hid (0 < w8.heap.size) := by
          show _ < _
          have := H07.out
          omega
        have X08 := Lib.hid ((hb8.block _ (heap_some_lt X07.out)).trans X07.out)
        have X18 := Lib.hid ((hb8.block _ (heap_some_lt X17.out)).trans X17.out)
        have X28 := Lib.hid ((hb8.block _ (heap_some_lt X27.out)).trans X27.out)
        have HT8 := Lib.hid (HT7.out.below hb8 hz8)
        have HU8 := Lib.hid (HU7.out.below hb8 hz8)
        have HA8 := Lib.hid (HA7.out.below hb8 hz8)
        have HL8 := Lib.hid ((HL7.out.below hb8).more hz8)
        have HK8 := Lib.hid (HK7.out.below hb8 H07.out)
        have HEND8 : Hid (∀ w', Below w8.heap.size w8 w' → Below w.heap.size w w') := fun w' hx => HEND7.out w' (hb8.trans (hx.mono hz8))
        clear hb8 hz8 H07 X07 X17 X27 HT7 HU7 HA7 HL7 HK7 HEND7
        have HKB : Hid (∀ w', Below w8.heap.size w8 w' → KindsAll w') := fun w' hx => HK8.out.below hx H08.out
        have hszt := HSZ.out
        cases rs with
        | true =>
          obtain ⟨y, pt, pu, k1, k2, k3, k4, k5, k6, k7, k8, k9⟩ := K11.out (HRS.out.1 rfl)
          obtain ⟨lt, hlt⟩ : ∃ z, tt.walk (levT bys) 0 = z := ⟨_, rfl⟩
          obtain ⟨lu, hlu⟩ : ∃ z, tu.walk (levT bys) 0 = z := ⟨_, rfl⟩
          have hln : lt.norm = lu.norm := by rw [← hlt, ← hlu]; exact lev_norm (HRS.out.1 rfl) bys
          have hwt : lt.wide := by rw [← hlt]; exact wide_lev H9.out tt FT.out 0
          have hwu : lu.wide := by rw [← hlu]; exact wide_lev H9.out tu FU.out 0
          have HSA : Hid (∀ b ∈ [ta], b.fit ∧ b.size ≤ 1073741824) := fun b hb => by
            obtain rfl : b = ta := (by simpa using hb)
            exact ⟨FA.out, by omega⟩
          have C118 : Hid (∀ w', Below w8.heap.size w8 w' → Calls Tryd.prog 11 #[.agg #[p0, p1, p2, p3, p4], .int .i64 n, .int .i64 f] w' (TmPost w' y)) := fun w' hx => by
            have := lift_tm tu _ w' n f FU.out (by omega) (HKB.out w' hx) (HU8.out.below hx hx.size)
            rw [k1] at this
            exact this
          have C124 : Hid (∀ w' v, Below w8.heap.size w8 w' → TmsV [ta] v w' → Calls Tryd.prog 10 #[.agg #[s0, s1, s2, s3, s4], v] w' (TmPost w' pt)) := fun w' v hx hv => by
            have := put_tm tt [ta] _ v w' FT.out (by omega) (HKB.out w' hx) (HT8.out.below hx hx.size) (by simp) hv HSA.out
            rw [k4] at this
            exact this
          have C128 : Hid (∀ w' v, Below w8.heap.size w8 w' → TmsV [ta] v w' → Calls Tryd.prog 10 #[.agg #[p0, p1, p2, p3, p4], v] w' (TmPost w' pu)) := fun w' v hx hv => by
            have := put_tm tu [ta] _ v w' FU.out (by omega) (HKB.out w' hx) (HU8.out.below hx hx.size) (by simp) hv HSA.out
            rw [k5] at this
            exact this
          have C134 : Hid (∀ w', Below w8.heap.size w8 w' → Calls Tryd.prog 15 #[.agg #[s0, s1, s2, s3, s4], .slice Al nl cl] w' (TmPost w' lt)) := fun w' hx => by
            rw [← hlt]
            exact (levels_any tt bys FT.out _ Al nl cl w' (by omega) (HKB.out w' hx).binds (HT8.out.below hx hx.size) HNL.out H9.out ((HL8.out.below hx).more hx.size)).mono fun _ _ h => h.tm
          have C137 : Hid (∀ w', Below w8.heap.size w8 w' → Calls Tryd.prog 15 #[.agg #[p0, p1, p2, p3, p4], .slice Al nl cl] w' (TmPost w' lu)) := fun w' hx => by
            rw [← hlu]
            exact (levels_any tu bys FU.out _ Al nl cl w' (by omega) (HKB.out w' hx).binds (HU8.out.below hx hx.size) HNL.out H9.out ((HL8.out.below hx).more hx.size)).mono fun _ _ h => h.tm
          obtain ⟨sz2, hsz2⟩ : ∃ z, tt.size = z := ⟨_, rfl⟩
          have C142 : Hid (∀ w', Below w8.heap.size w8 w' → Calls Tryd.prog 12 #[.agg #[s0, s1, s2, s3, s4]] w' (fun e w9 => e = .returned (.int .i64 (sz2 : Int)) ∧ Below w'.heap.size w' w9)) := fun w' hx => by
            have := size_any tt (by omega) _ w' (HT8.out.below hx hx.size)
            rw [hsz2] at this
            exact this
          have C144 : Hid (∀ w', Below w8.heap.size w8 w' → Calls Tryd.prog 12 #[.agg #[p0, p1, p2, p3, p4]] w' (fun e w9 => e = .returned (.int .i64 (sz2 : Int)) ∧ Below w'.heap.size w' w9)) := fun w' hx => by
            have := size_any tu (by omega) _ w' (HU8.out.below hx hx.size)
            rw [← k9, hsz2] at this
            exact this
          have WX := Lib.hid (Tm.fit_wide _ K2.out)
          have WY := Lib.hid (Tm.fit_wide _ k2)
          have WP := Lib.hid (Tm.fit_wide _ k6)
          have WQ := Lib.hid (Tm.fit_wide _ k7)
          have WT := Lib.hid hwt
          have WU := Lib.hid hwu
          have N1 := Lib.hid k3
          have N2 := Lib.hid k8
          have N3 := Lib.hid hln
          clear k1 k2 k3 k4 k5 k6 k7 k8 k9 hlt hlu hln hwt hwu hsz2 hszt HKB
          go_upto_region 9 with (fail)
          have hS : Below w8.heap.size w8 w8.drew := (Below.refl _ _).drew
          refine wp_region_tab (fun w' => Below w8.heap.size w8 w') (fun w1 w2 : World => Below w1.heap.size w1 w2) [(fun (x : Value) (_ : World) => x = (.agg #[.int .i64 i1, .int .i64 i2, .int .i64 i3, .slice B1 j1 d1, .slice B2 j2 d2] : Value)), (fun (x : Value) (_ : World) => x = (.agg #[p0, p1, p2, p3, p4] : Value)), (fun (x : Value) (_ : World) => x = (.int .i64 n : Value)), (fun (x : Value) (_ : World) => x = (.int .i64 f : Value)), (fun (x : Value) (w : World) => TmAt w w.heap.size y x), (fun (x : Value) (_ : World) => x = (.bool true : Value)), (fun (x : Value) (_ : World) => x = (.bool true : Value)), (fun (x : Value) (_ : World) => x = (.agg #[s0, s1, s2, s3, s4] : Value)), (fun (x : Value) (_ : World) => x = (.agg #[q0, q1, q2, q3, q4] : Value)), (fun (x : Value) (w : World) => TmsV [ta] x w), (fun (x : Value) (w : World) => TmAt w w.heap.size pt x), (fun (x : Value) (_ : World) => x = (.agg #[p0, p1, p2, p3, p4] : Value)), (fun (x : Value) (_ : World) => x = (.agg #[q0, q1, q2, q3, q4] : Value)), (fun (x : Value) (w : World) => TmsV [ta] x w), (fun (x : Value) (w : World) => TmAt w w.heap.size pu x), (fun (x : Value) (_ : World) => x = (.bool true : Value)), (fun (x : Value) (_ : World) => x = (.bool true : Value)), (fun (x : Value) (_ : World) => x = (.bool true : Value)), (fun (x : Value) (_ : World) => x = (.agg #[s0, s1, s2, s3, s4] : Value)), (fun (x : Value) (_ : World) => x = (.slice Al nl cl : Value)), (fun (x : Value) (w : World) => TmAt w w.heap.size lt x), (fun (x : Value) (_ : World) => x = (.agg #[p0, p1, p2, p3, p4] : Value)), (fun (x : Value) (_ : World) => x = (.slice Al nl cl : Value)), (fun (x : Value) (w : World) => TmAt w w.heap.size lu x), (fun (x : Value) (_ : World) => x = (.bool true : Value)), (fun (x : Value) (_ : World) => x = (.bool true : Value)), (fun (x : Value) (_ : World) => x = (.bool true : Value)), (fun (x : Value) (_ : World) => x = (.agg #[s0, s1, s2, s3, s4] : Value)), (fun (x : Value) (_ : World) => x = (.int .i64 (sz2 : Int) : Value)), (fun (x : Value) (_ : World) => x = (.agg #[p0, p1, p2, p3, p4] : Value)), (fun (x : Value) (_ : World) => x = (.int .i64 (sz2 : Int) : Value)), (fun (x : Value) (_ : World) => x = (.bool true : Value)), (fun (x : Value) (_ : World) => x = (.bool true : Value)), (fun (x : Value) (_ : World) => x = (.bool true : Value))] [⟨some 114, .load 26 (.tmp 15), none, []⟩, ⟨some 115, .load 26 (.tmp 8), none, []⟩, ⟨some 116, .move (.tmp 3), none, []⟩, ⟨some 117, .move (.tmp 5), none, []⟩, ⟨some 118, .call { callee := .value (.func 11), args := #[.tmp 115, .tmp 116, .tmp 117], argTypes := #[26, 3, 3] }, none, [(115, 1), (116, 2), (117, 3)]⟩, ⟨some 119, .call { callee := .value (.func 14), args := #[.tmp 114, .tmp 118], argTypes := #[26, 26] }, none, [(114, 0), (118, 4)]⟩, ⟨some 120, .move (.tmp 119), none, [(119, 5)]⟩, ⟨some 121, .load 26 (.tmp 7), some (some 120, true), [(120, 6)]⟩, ⟨some 122, .load 26 (.tmp 9), some (some 120, true), [(120, 6)]⟩, ⟨some 123, .buildSlice 24 1 #[(0, .tmp 122)], some (some 120, true), [(120, 6), (122, 8)]⟩, ⟨some 124, .call { callee := .value (.func 10), args := #[.tmp 121, .tmp 123], argTypes := #[26, 24] }, some (some 120, true), [(120, 6), (121, 7), (123, 9)]⟩, ⟨some 125, .load 26 (.tmp 8), some (some 120, true), [(120, 6)]⟩, ⟨some 126, .load 26 (.tmp 9), some (some 120, true), [(120, 6)]⟩, ⟨some 127, .buildSlice 24 1 #[(0, .tmp 126)], some (some 120, true), [(120, 6), (126, 12)]⟩, ⟨some 128, .call { callee := .value (.func 10), args := #[.tmp 125, .tmp 127], argTypes := #[26, 24] }, some (some 120, true), [(120, 6), (125, 11), (127, 13)]⟩, ⟨some 129, .call { callee := .value (.func 14), args := #[.tmp 124, .tmp 128], argTypes := #[26, 26] }, some (some 120, true), [(120, 6), (124, 10), (128, 14)]⟩, ⟨some 130, .pick (.tmp 120) (.tmp 129) (.const (Value.bool false)), none, [(120, 6), (129, 15)]⟩, ⟨some 131, .move (.tmp 130), none, [(130, 16)]⟩, ⟨some 132, .load 26 (.tmp 7), some (some 131, true), [(131, 17)]⟩, ⟨some 133, .move (.tmp 6), some (some 131, true), [(131, 17)]⟩, ⟨some 134, .call { callee := .value (.func 15), args := #[.tmp 132, .tmp 133], argTypes := #[26, 23] }, some (some 131, true), [(131, 17), (132, 18), (133, 19)]⟩, ⟨some 135, .load 26 (.tmp 8), some (some 131, true), [(131, 17)]⟩, ⟨some 136, .move (.tmp 6), some (some 131, true), [(131, 17)]⟩, ⟨some 137, .call { callee := .value (.func 15), args := #[.tmp 135, .tmp 136], argTypes := #[26, 23] }, some (some 131, true), [(131, 17), (135, 21), (136, 22)]⟩, ⟨some 138, .call { callee := .value (.func 14), args := #[.tmp 134, .tmp 137], argTypes := #[26, 26] }, some (some 131, true), [(131, 17), (134, 20), (137, 23)]⟩, ⟨some 139, .pick (.tmp 131) (.tmp 138) (.const (Value.bool false)), none, [(131, 17), (138, 24)]⟩, ⟨some 140, .move (.tmp 139), none, [(139, 25)]⟩, ⟨some 141, .load 26 (.tmp 7), some (some 140, true), [(140, 26)]⟩, ⟨some 142, .call { callee := .value (.func 12), args := #[.tmp 141], argTypes := #[26] }, some (some 140, true), [(140, 26), (141, 27)]⟩, ⟨some 143, .load 26 (.tmp 8), some (some 140, true), [(140, 26)]⟩, ⟨some 144, .call { callee := .value (.func 12), args := #[.tmp 143], argTypes := #[26] }, some (some 140, true), [(140, 26), (143, 29)]⟩, ⟨some 145, .binOp .eql 3 (.tmp 142) (.tmp 144) 3, some (some 140, true), [(140, 26), (142, 28), (144, 30)]⟩, ⟨some 146, .pick (.tmp 140) (.tmp 145) (.const (Value.bool false)), none, [(140, 26), (145, 31)]⟩, ⟨some 14, .assign (.tmp 146), none, [(146, 32)]⟩] [some 114, some 115, some 116, some 117, some 118, some 119, some 120, some 121, some 122, some 123, some 124, some 125, some 126, some 127, some 128, some 129, some 130, some 131, some 132, some 133, some 134, some 135, some 136, some 137, some 138, some 139, some 140, some 141, some 142, some 143, some 144, some 145, some 146, some 14] (by kernel_rfl) (by kernel_rfl) (by kernel_rfl) (by kernel_rfl) (by kernel_rfl) ?hS ?hmono ?hsteps ?hfin
          case hS => exact hS
          case hmono =>
            refine MonoL.cons (fun x w1 w2 _ _ _ hx => hx) ?_
            refine MonoL.cons (fun x w1 w2 _ _ _ hx => hx) ?_
            refine MonoL.cons (fun x w1 w2 _ _ _ hx => hx) ?_
            refine MonoL.cons (fun x w1 w2 _ _ _ hx => hx) ?_
            refine MonoL.cons (fun x w1 w2 _ _ hR hx => ?_) ?_
            · exact hx.below hR hR.size
            refine MonoL.cons (fun x w1 w2 _ _ _ hx => hx) ?_
            refine MonoL.cons (fun x w1 w2 _ _ _ hx => hx) ?_
            refine MonoL.cons (fun x w1 w2 _ _ _ hx => hx) ?_
            refine MonoL.cons (fun x w1 w2 _ _ _ hx => hx) ?_
            refine MonoL.cons (fun x w1 w2 _ _ hR hx => ?_) ?_
            · exact hx.mono hR
            refine MonoL.cons (fun x w1 w2 _ _ hR hx => ?_) ?_
            · exact hx.below hR hR.size
            refine MonoL.cons (fun x w1 w2 _ _ _ hx => hx) ?_
            refine MonoL.cons (fun x w1 w2 _ _ _ hx => hx) ?_
            refine MonoL.cons (fun x w1 w2 _ _ hR hx => ?_) ?_
            · exact hx.mono hR
            refine MonoL.cons (fun x w1 w2 _ _ hR hx => ?_) ?_
            · exact hx.below hR hR.size
            refine MonoL.cons (fun x w1 w2 _ _ _ hx => hx) ?_
            refine MonoL.cons (fun x w1 w2 _ _ _ hx => hx) ?_
            refine MonoL.cons (fun x w1 w2 _ _ _ hx => hx) ?_
            refine MonoL.cons (fun x w1 w2 _ _ _ hx => hx) ?_
            refine MonoL.cons (fun x w1 w2 _ _ _ hx => hx) ?_
            refine MonoL.cons (fun x w1 w2 _ _ hR hx => ?_) ?_
            · exact hx.below hR hR.size
            refine MonoL.cons (fun x w1 w2 _ _ _ hx => hx) ?_
            refine MonoL.cons (fun x w1 w2 _ _ _ hx => hx) ?_
            refine MonoL.cons (fun x w1 w2 _ _ hR hx => ?_) ?_
            · exact hx.below hR hR.size
            refine MonoL.cons (fun x w1 w2 _ _ _ hx => hx) ?_
            refine MonoL.cons (fun x w1 w2 _ _ _ hx => hx) ?_
            refine MonoL.cons (fun x w1 w2 _ _ _ hx => hx) ?_
            refine MonoL.cons (fun x w1 w2 _ _ _ hx => hx) ?_
            refine MonoL.cons (fun x w1 w2 _ _ _ hx => hx) ?_
            refine MonoL.cons (fun x w1 w2 _ _ _ hx => hx) ?_
            refine MonoL.cons (fun x w1 w2 _ _ _ hx => hx) ?_
            refine MonoL.cons (fun x w1 w2 _ _ _ hx => hx) ?_
            refine MonoL.cons (fun x w1 w2 _ _ _ hx => hx) ?_
            refine MonoL.cons (fun x w1 w2 _ _ _ hx => hx) ?_
            exact MonoL.nil
          case hsteps =>
            refine StepsT.cons (fun (x : Value) (_ : World) => x = (.agg #[.int .i64 i1, .int .i64 i2, .int .i64 i3, .slice B1 j1 d1, .slice B2 j2 d2] : Value)) [] rfl rfl (fun oq hop _ wq hQS => ?_) ?_
            · exact StepFrom.load hop (p := (.pointer (some ⟨w5.heap.size, 0, none⟩) : Value)) (by kernel_rfl) (load_box X38.out hQS) (by kernel_rfl) hQS (Below.refl _ _) rfl
            refine StepsT.cons (fun (x : Value) (_ : World) => x = (.agg #[p0, p1, p2, p3, p4] : Value)) [] rfl rfl (fun oq hop _ wq hQS => ?_) ?_
            · exact StepFrom.load hop (p := (.pointer (some ⟨w.heap.size + 1, 0, none⟩) : Value)) (by kernel_rfl) (load_box X18.out hQS) (by kernel_rfl) hQS (Below.refl _ _) rfl
            refine StepsT.cons (fun (x : Value) (_ : World) => x = (.int .i64 n : Value)) [] rfl rfl (fun oq hop _ wq hQS => ?_) ?_
            · exact StepFrom.move hop (v := (.int .i64 n : Value)) (by kernel_rfl) (by kernel_rfl) hQS (Below.refl _ _) rfl
            refine StepsT.cons (fun (x : Value) (_ : World) => x = (.int .i64 f : Value)) [] rfl rfl (fun oq hop _ wq hQS => ?_) ?_
            · exact StepFrom.move hop (v := (.int .i64 f : Value)) (by kernel_rfl) (by kernel_rfl) hQS (Below.refl _ _) rfl
            refine StepsT.cons (fun (x : Value) (w : World) => TmAt w w.heap.size y x) [(115, (fun (x : Value) (_ : World) => x = (.agg #[p0, p1, p2, p3, p4] : Value))), (116, (fun (x : Value) (_ : World) => x = (.int .i64 n : Value))), (117, (fun (x : Value) (_ : World) => x = (.int .i64 f : Value)))] rfl rfl (fun oq hop _ wq hQS => ?_) ?_
            · refine StepFrom.more_eq ((.agg #[p0, p1, p2, p3, p4] : Value)) ?_
              refine StepFrom.more_eq ((.int .i64 n : Value)) ?_
              refine StepFrom.more_eq ((.int .i64 f : Value)) ?_
              exact StepFrom.call hop (vs := [(.agg #[p0, p1, p2, p3, p4] : Value), (.int .i64 n : Value), (.int .i64 f : Value)]) (by kernel_rfl) (fun w => enter_lift _ w) (by kernel_rfl) ((C118.out wq hQS).mono fun e w9 h9 => by obtain ⟨v, q1, q2, q3⟩ := h9; exact ⟨_, q1, hQS.trans (q3.mono hQS.size), q3, q2⟩)
            refine StepsT.cons (fun (x : Value) (_ : World) => x = (.bool true : Value)) [(114, (fun (x : Value) (_ : World) => x = (.agg #[.int .i64 i1, .int .i64 i2, .int .i64 i3, .slice B1 j1 d1, .slice B2 j2 d2] : Value))), (118, (fun (x : Value) (w : World) => TmAt w w.heap.size y x))] rfl rfl (fun oq hop _ wq hQS => ?_) ?_
            · refine StepFrom.more_eq ((.agg #[.int .i64 i1, .int .i64 i2, .int .i64 i3, .slice B1 j1 d1, .slice B2 j2 d2] : Value)) ?_
              refine StepFrom.more fun x118 h118 => ?_
              obtain h118 := h118
              exact StepFrom.call hop (vs := [(.agg #[.int .i64 i1, .int .i64 i2, .int .i64 i3, .slice B1 j1 d1, .slice B2 j2 d2] : Value), (x118 : Value)]) (by kernel_rfl) (fun w => enter_sameOne _ w) (by kernel_rfl) ((one_any x WX.out y _ x118 wq true WY.out (HX8.out.below hQS hQS.size) h118 (by simp [N1.out])).mono fun e w9 h9 => by obtain ⟨q1, q2⟩ := h9; exact ⟨_, q1, hQS.trans (q2.mono hQS.size), q2, rfl⟩)
            refine StepsT.cons (fun (x : Value) (_ : World) => x = (.bool true : Value)) [(119, (fun (x : Value) (_ : World) => x = (.bool true : Value)))] rfl rfl (fun oq hop _ wq hQS => ?_) ?_
            · refine StepFrom.more_eq ((.bool true : Value)) ?_
              exact StepFrom.move hop (v := (.bool true : Value)) (by kernel_rfl) (by kernel_rfl) hQS (Below.refl _ _) rfl
            refine StepsT.cons (fun (x : Value) (_ : World) => x = (.agg #[s0, s1, s2, s3, s4] : Value)) [(120, (fun (x : Value) (_ : World) => x = (.bool true : Value)))] rfl rfl (fun oq hop _ wq hQS => ?_) ?_
            · refine StepFrom.more_eq ((.bool true : Value)) ?_
              exact StepFrom.load hop (p := (.pointer (some ⟨w.heap.size, 0, none⟩) : Value)) (by kernel_rfl) (load_box X08.out hQS) (by kernel_rfl) hQS (Below.refl _ _) rfl
            refine StepsT.cons (fun (x : Value) (_ : World) => x = (.agg #[q0, q1, q2, q3, q4] : Value)) [(120, (fun (x : Value) (_ : World) => x = (.bool true : Value)))] rfl rfl (fun oq hop _ wq hQS => ?_) ?_
            · refine StepFrom.more_eq ((.bool true : Value)) ?_
              exact StepFrom.load hop (p := (.pointer (some ⟨w.heap.size + 1 + 1, 0, none⟩) : Value)) (by kernel_rfl) (load_box X28.out hQS) (by kernel_rfl) hQS (Below.refl _ _) rfl
            refine StepsT.cons (fun (x : Value) (w : World) => TmsV [ta] x w) [(120, (fun (x : Value) (_ : World) => x = (.bool true : Value))), (122, (fun (x : Value) (_ : World) => x = (.agg #[q0, q1, q2, q3, q4] : Value)))] rfl rfl (fun oq hop _ wq hQS => ?_) ?_
            · refine StepFrom.more_eq ((.bool true : Value)) ?_
              refine StepFrom.more_eq ((.agg #[q0, q1, q2, q3, q4] : Value)) ?_
              exact StepFrom.slice hop (vs := [(0, .agg #[q0, q1, q2, q3, q4])]) (by kernel_rfl) (slice_tm (HA8.out.below hQS hQS.size)) (by kernel_rfl) (hQS.alloc hQS.size _) ((Below.refl _ _).alloc (Nat.le_refl _) _) (tmsV_one (HA8.out.below hQS hQS.size))
            refine StepsT.cons (fun (x : Value) (w : World) => TmAt w w.heap.size pt x) [(120, (fun (x : Value) (_ : World) => x = (.bool true : Value))), (121, (fun (x : Value) (_ : World) => x = (.agg #[s0, s1, s2, s3, s4] : Value))), (123, (fun (x : Value) (w : World) => TmsV [ta] x w))] rfl rfl (fun oq hop _ wq hQS => ?_) ?_
            · refine StepFrom.more_eq ((.bool true : Value)) ?_
              refine StepFrom.more_eq ((.agg #[s0, s1, s2, s3, s4] : Value)) ?_
              refine StepFrom.more fun x123 h123 => ?_
              obtain h123 := h123
              exact StepFrom.call hop (vs := [(.agg #[s0, s1, s2, s3, s4] : Value), (x123 : Value)]) (by kernel_rfl) (fun w => enter_putTm _ w) (by kernel_rfl) ((C124.out wq x123 hQS h123).mono fun e w9 h9 => by obtain ⟨v, q1, q2, q3⟩ := h9; exact ⟨_, q1, hQS.trans (q3.mono hQS.size), q3, q2⟩)
            refine StepsT.cons (fun (x : Value) (_ : World) => x = (.agg #[p0, p1, p2, p3, p4] : Value)) [(120, (fun (x : Value) (_ : World) => x = (.bool true : Value)))] rfl rfl (fun oq hop _ wq hQS => ?_) ?_
            · refine StepFrom.more_eq ((.bool true : Value)) ?_
              exact StepFrom.load hop (p := (.pointer (some ⟨w.heap.size + 1, 0, none⟩) : Value)) (by kernel_rfl) (load_box X18.out hQS) (by kernel_rfl) hQS (Below.refl _ _) rfl
            refine StepsT.cons (fun (x : Value) (_ : World) => x = (.agg #[q0, q1, q2, q3, q4] : Value)) [(120, (fun (x : Value) (_ : World) => x = (.bool true : Value)))] rfl rfl (fun oq hop _ wq hQS => ?_) ?_
            · refine StepFrom.more_eq ((.bool true : Value)) ?_
              exact StepFrom.load hop (p := (.pointer (some ⟨w.heap.size + 1 + 1, 0, none⟩) : Value)) (by kernel_rfl) (load_box X28.out hQS) (by kernel_rfl) hQS (Below.refl _ _) rfl
            refine StepsT.cons (fun (x : Value) (w : World) => TmsV [ta] x w) [(120, (fun (x : Value) (_ : World) => x = (.bool true : Value))), (126, (fun (x : Value) (_ : World) => x = (.agg #[q0, q1, q2, q3, q4] : Value)))] rfl rfl (fun oq hop _ wq hQS => ?_) ?_
            · refine StepFrom.more_eq ((.bool true : Value)) ?_
              refine StepFrom.more_eq ((.agg #[q0, q1, q2, q3, q4] : Value)) ?_
              exact StepFrom.slice hop (vs := [(0, .agg #[q0, q1, q2, q3, q4])]) (by kernel_rfl) (slice_tm (HA8.out.below hQS hQS.size)) (by kernel_rfl) (hQS.alloc hQS.size _) ((Below.refl _ _).alloc (Nat.le_refl _) _) (tmsV_one (HA8.out.below hQS hQS.size))
            refine StepsT.cons (fun (x : Value) (w : World) => TmAt w w.heap.size pu x) [(120, (fun (x : Value) (_ : World) => x = (.bool true : Value))), (125, (fun (x : Value) (_ : World) => x = (.agg #[p0, p1, p2, p3, p4] : Value))), (127, (fun (x : Value) (w : World) => TmsV [ta] x w))] rfl rfl (fun oq hop _ wq hQS => ?_) ?_
            · refine StepFrom.more_eq ((.bool true : Value)) ?_
              refine StepFrom.more_eq ((.agg #[p0, p1, p2, p3, p4] : Value)) ?_
              refine StepFrom.more fun x127 h127 => ?_
              obtain h127 := h127
              exact StepFrom.call hop (vs := [(.agg #[p0, p1, p2, p3, p4] : Value), (x127 : Value)]) (by kernel_rfl) (fun w => enter_putTm _ w) (by kernel_rfl) ((C128.out wq x127 hQS h127).mono fun e w9 h9 => by obtain ⟨v, q1, q2, q3⟩ := h9; exact ⟨_, q1, hQS.trans (q3.mono hQS.size), q3, q2⟩)
            refine StepsT.cons (fun (x : Value) (_ : World) => x = (.bool true : Value)) [(120, (fun (x : Value) (_ : World) => x = (.bool true : Value))), (124, (fun (x : Value) (w : World) => TmAt w w.heap.size pt x)), (128, (fun (x : Value) (w : World) => TmAt w w.heap.size pu x))] rfl rfl (fun oq hop _ wq hQS => ?_) ?_
            · refine StepFrom.more_eq ((.bool true : Value)) ?_
              refine StepFrom.more fun x124 h124 => ?_
              obtain h124 := h124
              refine StepFrom.more fun x128 h128 => ?_
              obtain h128 := h128
              exact StepFrom.call hop (vs := [(x124 : Value), (x128 : Value)]) (by kernel_rfl) (fun w => enter_sameOne _ w) (by kernel_rfl) ((one_any pt WP.out pu x124 x128 wq true WQ.out h124 h128 (by simp [N2.out])).mono fun e w9 h9 => by obtain ⟨q1, q2⟩ := h9; exact ⟨_, q1, hQS.trans (q2.mono hQS.size), q2, rfl⟩)
            refine StepsT.cons (fun (x : Value) (_ : World) => x = (.bool true : Value)) [(120, (fun (x : Value) (_ : World) => x = (.bool true : Value))), (129, (fun (x : Value) (_ : World) => x = (.bool true : Value)))] rfl rfl (fun oq hop _ wq hQS => ?_) ?_
            · refine StepFrom.more_eq ((.bool true : Value)) ?_
              refine StepFrom.more_eq ((.bool true : Value)) ?_
              exact StepFrom.pick hop (b := true) (vx := (.bool true : Value)) (vy := (Value.bool false : Value)) (by kernel_rfl) (by kernel_rfl) (by kernel_rfl) (by kernel_rfl) hQS (Below.refl _ _) rfl
            refine StepsT.cons (fun (x : Value) (_ : World) => x = (.bool true : Value)) [(130, (fun (x : Value) (_ : World) => x = (.bool true : Value)))] rfl rfl (fun oq hop _ wq hQS => ?_) ?_
            · refine StepFrom.more_eq ((.bool true : Value)) ?_
              exact StepFrom.move hop (v := (.bool true : Value)) (by kernel_rfl) (by kernel_rfl) hQS (Below.refl _ _) rfl
            refine StepsT.cons (fun (x : Value) (_ : World) => x = (.agg #[s0, s1, s2, s3, s4] : Value)) [(131, (fun (x : Value) (_ : World) => x = (.bool true : Value)))] rfl rfl (fun oq hop _ wq hQS => ?_) ?_
            · refine StepFrom.more_eq ((.bool true : Value)) ?_
              exact StepFrom.load hop (p := (.pointer (some ⟨w.heap.size, 0, none⟩) : Value)) (by kernel_rfl) (load_box X08.out hQS) (by kernel_rfl) hQS (Below.refl _ _) rfl
            refine StepsT.cons (fun (x : Value) (_ : World) => x = (.slice Al nl cl : Value)) [(131, (fun (x : Value) (_ : World) => x = (.bool true : Value)))] rfl rfl (fun oq hop _ wq hQS => ?_) ?_
            · refine StepFrom.more_eq ((.bool true : Value)) ?_
              exact StepFrom.move hop (v := (.slice Al nl cl : Value)) (by kernel_rfl) (by kernel_rfl) hQS (Below.refl _ _) rfl
            refine StepsT.cons (fun (x : Value) (w : World) => TmAt w w.heap.size lt x) [(131, (fun (x : Value) (_ : World) => x = (.bool true : Value))), (132, (fun (x : Value) (_ : World) => x = (.agg #[s0, s1, s2, s3, s4] : Value))), (133, (fun (x : Value) (_ : World) => x = (.slice Al nl cl : Value)))] rfl rfl (fun oq hop _ wq hQS => ?_) ?_
            · refine StepFrom.more_eq ((.bool true : Value)) ?_
              refine StepFrom.more_eq ((.agg #[s0, s1, s2, s3, s4] : Value)) ?_
              refine StepFrom.more_eq ((.slice Al nl cl : Value)) ?_
              exact StepFrom.call hop (vs := [(.agg #[s0, s1, s2, s3, s4] : Value), (.slice Al nl cl : Value)]) (by kernel_rfl) (fun w => enter_levelsTm _ w) (by kernel_rfl) ((C134.out wq hQS).mono fun e w9 h9 => by obtain ⟨v, q1, q2, q3⟩ := h9; exact ⟨_, q1, hQS.trans (q3.mono hQS.size), q3, q2⟩)
            refine StepsT.cons (fun (x : Value) (_ : World) => x = (.agg #[p0, p1, p2, p3, p4] : Value)) [(131, (fun (x : Value) (_ : World) => x = (.bool true : Value)))] rfl rfl (fun oq hop _ wq hQS => ?_) ?_
            · refine StepFrom.more_eq ((.bool true : Value)) ?_
              exact StepFrom.load hop (p := (.pointer (some ⟨w.heap.size + 1, 0, none⟩) : Value)) (by kernel_rfl) (load_box X18.out hQS) (by kernel_rfl) hQS (Below.refl _ _) rfl
            refine StepsT.cons (fun (x : Value) (_ : World) => x = (.slice Al nl cl : Value)) [(131, (fun (x : Value) (_ : World) => x = (.bool true : Value)))] rfl rfl (fun oq hop _ wq hQS => ?_) ?_
            · refine StepFrom.more_eq ((.bool true : Value)) ?_
              exact StepFrom.move hop (v := (.slice Al nl cl : Value)) (by kernel_rfl) (by kernel_rfl) hQS (Below.refl _ _) rfl
            refine StepsT.cons (fun (x : Value) (w : World) => TmAt w w.heap.size lu x) [(131, (fun (x : Value) (_ : World) => x = (.bool true : Value))), (135, (fun (x : Value) (_ : World) => x = (.agg #[p0, p1, p2, p3, p4] : Value))), (136, (fun (x : Value) (_ : World) => x = (.slice Al nl cl : Value)))] rfl rfl (fun oq hop _ wq hQS => ?_) ?_
            · refine StepFrom.more_eq ((.bool true : Value)) ?_
              refine StepFrom.more_eq ((.agg #[p0, p1, p2, p3, p4] : Value)) ?_
              refine StepFrom.more_eq ((.slice Al nl cl : Value)) ?_
              exact StepFrom.call hop (vs := [(.agg #[p0, p1, p2, p3, p4] : Value), (.slice Al nl cl : Value)]) (by kernel_rfl) (fun w => enter_levelsTm _ w) (by kernel_rfl) ((C137.out wq hQS).mono fun e w9 h9 => by obtain ⟨v, q1, q2, q3⟩ := h9; exact ⟨_, q1, hQS.trans (q3.mono hQS.size), q3, q2⟩)
            refine StepsT.cons (fun (x : Value) (_ : World) => x = (.bool true : Value)) [(131, (fun (x : Value) (_ : World) => x = (.bool true : Value))), (134, (fun (x : Value) (w : World) => TmAt w w.heap.size lt x)), (137, (fun (x : Value) (w : World) => TmAt w w.heap.size lu x))] rfl rfl (fun oq hop _ wq hQS => ?_) ?_
            · refine StepFrom.more_eq ((.bool true : Value)) ?_
              refine StepFrom.more fun x134 h134 => ?_
              obtain h134 := h134
              refine StepFrom.more fun x137 h137 => ?_
              obtain h137 := h137
              exact StepFrom.call hop (vs := [(x134 : Value), (x137 : Value)]) (by kernel_rfl) (fun w => enter_sameOne _ w) (by kernel_rfl) ((one_any lt WT.out lu x134 x137 wq true WU.out h134 h137 (by simp [N3.out])).mono fun e w9 h9 => by obtain ⟨q1, q2⟩ := h9; exact ⟨_, q1, hQS.trans (q2.mono hQS.size), q2, rfl⟩)
            refine StepsT.cons (fun (x : Value) (_ : World) => x = (.bool true : Value)) [(131, (fun (x : Value) (_ : World) => x = (.bool true : Value))), (138, (fun (x : Value) (_ : World) => x = (.bool true : Value)))] rfl rfl (fun oq hop _ wq hQS => ?_) ?_
            · refine StepFrom.more_eq ((.bool true : Value)) ?_
              refine StepFrom.more_eq ((.bool true : Value)) ?_
              exact StepFrom.pick hop (b := true) (vx := (.bool true : Value)) (vy := (Value.bool false : Value)) (by kernel_rfl) (by kernel_rfl) (by kernel_rfl) (by kernel_rfl) hQS (Below.refl _ _) rfl
            refine StepsT.cons (fun (x : Value) (_ : World) => x = (.bool true : Value)) [(139, (fun (x : Value) (_ : World) => x = (.bool true : Value)))] rfl rfl (fun oq hop _ wq hQS => ?_) ?_
            · refine StepFrom.more_eq ((.bool true : Value)) ?_
              exact StepFrom.move hop (v := (.bool true : Value)) (by kernel_rfl) (by kernel_rfl) hQS (Below.refl _ _) rfl
            refine StepsT.cons (fun (x : Value) (_ : World) => x = (.agg #[s0, s1, s2, s3, s4] : Value)) [(140, (fun (x : Value) (_ : World) => x = (.bool true : Value)))] rfl rfl (fun oq hop _ wq hQS => ?_) ?_
            · refine StepFrom.more_eq ((.bool true : Value)) ?_
              exact StepFrom.load hop (p := (.pointer (some ⟨w.heap.size, 0, none⟩) : Value)) (by kernel_rfl) (load_box X08.out hQS) (by kernel_rfl) hQS (Below.refl _ _) rfl
            refine StepsT.cons (fun (x : Value) (_ : World) => x = (.int .i64 (sz2 : Int) : Value)) [(140, (fun (x : Value) (_ : World) => x = (.bool true : Value))), (141, (fun (x : Value) (_ : World) => x = (.agg #[s0, s1, s2, s3, s4] : Value)))] rfl rfl (fun oq hop _ wq hQS => ?_) ?_
            · refine StepFrom.more_eq ((.bool true : Value)) ?_
              refine StepFrom.more_eq ((.agg #[s0, s1, s2, s3, s4] : Value)) ?_
              exact StepFrom.call hop (vs := [(.agg #[s0, s1, s2, s3, s4] : Value)]) (by kernel_rfl) (fun w => enter_size _ w) (by kernel_rfl) ((C142.out wq hQS).mono fun e w9 h9 => by obtain ⟨q1, q2⟩ := h9; exact ⟨_, q1, hQS.trans (q2.mono hQS.size), q2, rfl⟩)
            refine StepsT.cons (fun (x : Value) (_ : World) => x = (.agg #[p0, p1, p2, p3, p4] : Value)) [(140, (fun (x : Value) (_ : World) => x = (.bool true : Value)))] rfl rfl (fun oq hop _ wq hQS => ?_) ?_
            · refine StepFrom.more_eq ((.bool true : Value)) ?_
              exact StepFrom.load hop (p := (.pointer (some ⟨w.heap.size + 1, 0, none⟩) : Value)) (by kernel_rfl) (load_box X18.out hQS) (by kernel_rfl) hQS (Below.refl _ _) rfl
            refine StepsT.cons (fun (x : Value) (_ : World) => x = (.int .i64 (sz2 : Int) : Value)) [(140, (fun (x : Value) (_ : World) => x = (.bool true : Value))), (143, (fun (x : Value) (_ : World) => x = (.agg #[p0, p1, p2, p3, p4] : Value)))] rfl rfl (fun oq hop _ wq hQS => ?_) ?_
            · refine StepFrom.more_eq ((.bool true : Value)) ?_
              refine StepFrom.more_eq ((.agg #[p0, p1, p2, p3, p4] : Value)) ?_
              exact StepFrom.call hop (vs := [(.agg #[p0, p1, p2, p3, p4] : Value)]) (by kernel_rfl) (fun w => enter_size _ w) (by kernel_rfl) ((C144.out wq hQS).mono fun e w9 h9 => by obtain ⟨q1, q2⟩ := h9; exact ⟨_, q1, hQS.trans (q2.mono hQS.size), q2, rfl⟩)
            refine StepsT.cons (fun (x : Value) (_ : World) => x = (.bool true : Value)) [(140, (fun (x : Value) (_ : World) => x = (.bool true : Value))), (142, (fun (x : Value) (_ : World) => x = (.int .i64 (sz2 : Int) : Value))), (144, (fun (x : Value) (_ : World) => x = (.int .i64 (sz2 : Int) : Value)))] rfl rfl (fun oq hop _ wq hQS => ?_) ?_
            · refine StepFrom.more_eq ((.bool true : Value)) ?_
              refine StepFrom.more_eq ((.int .i64 (sz2 : Int) : Value)) ?_
              refine StepFrom.more_eq ((.int .i64 (sz2 : Int) : Value)) ?_
              exact StepFrom.bin hop (vx := (.int .i64 (sz2 : Int) : Value)) (vy := (.int .i64 (sz2 : Int) : Value)) (by kernel_rfl) (by kernel_rfl) (eql_same _ _ _ _) (by kernel_rfl) hQS (Below.refl _ _) rfl
            refine StepsT.cons (fun (x : Value) (_ : World) => x = (.bool true : Value)) [(140, (fun (x : Value) (_ : World) => x = (.bool true : Value))), (145, (fun (x : Value) (_ : World) => x = (.bool true : Value)))] rfl rfl (fun oq hop _ wq hQS => ?_) ?_
            · refine StepFrom.more_eq ((.bool true : Value)) ?_
              refine StepFrom.more_eq ((.bool true : Value)) ?_
              exact StepFrom.pick hop (b := true) (vx := (.bool true : Value)) (vy := (Value.bool false : Value)) (by kernel_rfl) (by kernel_rfl) (by kernel_rfl) (by kernel_rfl) hQS (Below.refl _ _) rfl
            refine StepsT.cons (fun (x : Value) (_ : World) => x = (.bool true : Value)) [(146, (fun (x : Value) (_ : World) => x = (.bool true : Value)))] rfl rfl (fun oq hop _ wq hQS => ?_) ?_
            · refine StepFrom.more_eq ((.bool true : Value)) ?_
              exact StepFrom.assign hop (v := (.bool true : Value)) (by kernel_rfl) (by kernel_rfl) hQS (Below.refl _ _) rfl
            exact StepsT.nil
          case hfin =>
            intro w9 hb9
            refine FinalFrom.more fun x114 h114 => ?_
            refine FinalFrom.more fun x115 h115 => ?_
            refine FinalFrom.more fun x116 h116 => ?_
            refine FinalFrom.more fun x117 h117 => ?_
            refine FinalFrom.more fun x118 h118 => ?_
            refine FinalFrom.more fun x119 h119 => ?_
            refine FinalFrom.more fun x120 h120 => ?_
            refine FinalFrom.more fun x121 h121 => ?_
            refine FinalFrom.more fun x122 h122 => ?_
            refine FinalFrom.more fun x123 h123 => ?_
            refine FinalFrom.more fun x124 h124 => ?_
            refine FinalFrom.more fun x125 h125 => ?_
            refine FinalFrom.more fun x126 h126 => ?_
            refine FinalFrom.more fun x127 h127 => ?_
            refine FinalFrom.more fun x128 h128 => ?_
            refine FinalFrom.more fun x129 h129 => ?_
            refine FinalFrom.more fun x130 h130 => ?_
            refine FinalFrom.more fun x131 h131 => ?_
            refine FinalFrom.more fun x132 h132 => ?_
            refine FinalFrom.more fun x133 h133 => ?_
            refine FinalFrom.more fun x134 h134 => ?_
            refine FinalFrom.more fun x135 h135 => ?_
            refine FinalFrom.more fun x136 h136 => ?_
            refine FinalFrom.more fun x137 h137 => ?_
            refine FinalFrom.more fun x138 h138 => ?_
            refine FinalFrom.more fun x139 h139 => ?_
            refine FinalFrom.more fun x140 h140 => ?_
            refine FinalFrom.more fun x141 h141 => ?_
            refine FinalFrom.more fun x142 h142 => ?_
            refine FinalFrom.more fun x143 h143 => ?_
            refine FinalFrom.more fun x144 h144 => ?_
            refine FinalFrom.more fun x145 h145 => ?_
            refine FinalFrom.more fun x146 h146 => ?_
            refine FinalFrom.more fun x14 h14 => ?_
            refine FinalFrom.done ?_
            obtain rfl : x14 = (.bool true : Value) := h14
            have HF : Hid (HasPost w true (.returned (.bool true)) w9) := ⟨rfl, HEND8.out w9 hb9⟩
            clear hS hb9
            simp only [Act.put, List.setIfInBounds_toArray, List.set_cons_zero, List.set_cons_succ]
            go_wp2
            go_ret
            exact HF.out
        | false =>
          have hne : tt ≠ tu := fun e => by
            have := HRS.out.2 (by rw [e])
            cases this
          obtain ⟨rt, hrt⟩ : ∃ z, tt.right = z := ⟨_, rfl⟩
          have C158 : Hid (∀ w' v, Below w8.heap.size w8 w' → TmAt w' w'.heap.size tt v → Calls Tryd.prog 16 #[v] w' (HasPost w' rt)) := fun w' v hx hv => by
            rw [← hrt]
            exact rightOf_any tt FT.out v w' (HKB.out w' hx) hv
          have C160 : Hid (∀ w', Below w8.heap.size w8 w' → Calls Tryd.prog 11 #[.agg #[s0, s1, s2, s3, s4], .int .i64 0, .int .i64 0] w' (TmPost w' tt)) := fun w' hx => by
            have := lift_tm tt _ w' 0 0 FT.out (by omega) (HKB.out w' hx) (HT8.out.below hx hx.size)
            rw [K10.out] at this
            exact this
          have HNE := Lib.hid hne
          have WT := Lib.hid (Tm.fit_wide _ FT.out)
          clear hne hrt hszt HKB
          go_upto_region 10 with (fail)
          have hS : Below w8.heap.size w8 w8.drew := (Below.refl _ _).drew
          refine wp_region_tab (fun w' => Below w8.heap.size w8 w') (fun w1 w2 : World => Below w1.heap.size w1 w2) [(fun (x : Value) (_ : World) => x = (.agg #[s0, s1, s2, s3, s4] : Value)), (fun (x : Value) (_ : World) => x = (.agg #[s0, s1, s2, s3, s4] : Value)), (fun (x : Value) (_ : World) => x = (.bool true : Value)), (fun (x : Value) (_ : World) => x = (.bool true : Value)), (fun (x : Value) (_ : World) => x = (.agg #[s0, s1, s2, s3, s4] : Value)), (fun (x : Value) (_ : World) => x = (.agg #[p0, p1, p2, p3, p4] : Value)), (fun (x : Value) (_ : World) => x = (.bool false : Value)), (fun (x : Value) (_ : World) => x = (.bool true : Value)), (fun (x : Value) (_ : World) => x = (.bool true : Value)), (fun (x : Value) (_ : World) => x = (.bool true : Value)), (fun (x : Value) (_ : World) => x = (.agg #[s0, s1, s2, s3, s4] : Value)), (fun (x : Value) (_ : World) => x = (.bool rt : Value)), (fun (x : Value) (_ : World) => x = (.agg #[s0, s1, s2, s3, s4] : Value)), (fun (x : Value) (w : World) => TmAt w w.heap.size tt x), (fun (x : Value) (_ : World) => x = (.bool rt : Value)), (fun (x : Value) (_ : World) => x = (.bool true : Value)), (fun (x : Value) (_ : World) => x = (.bool true : Value)), (fun (x : Value) (_ : World) => x = (.bool true : Value))] [⟨some 147, .load 26 (.tmp 7), none, []⟩, ⟨some 148, .load 26 (.tmp 7), none, []⟩, ⟨some 149, .call { callee := .value (.func 14), args := #[.tmp 147, .tmp 148], argTypes := #[26, 26] }, none, [(147, 0), (148, 1)]⟩, ⟨some 150, .move (.tmp 149), none, [(149, 2)]⟩, ⟨some 151, .load 26 (.tmp 7), some (some 150, true), [(150, 3)]⟩, ⟨some 152, .load 26 (.tmp 8), some (some 150, true), [(150, 3)]⟩, ⟨some 153, .call { callee := .value (.func 9), args := #[.tmp 151, .tmp 152], argTypes := #[26, 26] }, some (some 150, true), [(150, 3), (151, 4), (152, 5)]⟩, ⟨some 154, .unOp .not 4 (.tmp 153), some (some 150, true), [(150, 3), (153, 6)]⟩, ⟨some 155, .pick (.tmp 150) (.tmp 154) (.const (Value.bool false)), none, [(150, 3), (154, 7)]⟩, ⟨some 156, .move (.tmp 155), none, [(155, 8)]⟩, ⟨some 157, .load 26 (.tmp 7), some (some 156, true), [(156, 9)]⟩, ⟨some 158, .call { callee := .value (.func 16), args := #[.tmp 157], argTypes := #[26] }, some (some 156, true), [(156, 9), (157, 10)]⟩, ⟨some 159, .load 26 (.tmp 7), some (some 156, true), [(156, 9)]⟩, ⟨some 160, .call { callee := .value (.func 11), args := #[.tmp 159, .const (.int .i64 0), .const (.int .i64 0)], argTypes := #[26, 3, 3] }, some (some 156, true), [(156, 9), (159, 12)]⟩, ⟨some 161, .call { callee := .value (.func 16), args := #[.tmp 160], argTypes := #[26] }, some (some 156, true), [(156, 9), (160, 13)]⟩, ⟨some 162, .binOp .eql 4 (.tmp 158) (.tmp 161) 4, some (some 156, true), [(156, 9), (158, 11), (161, 14)]⟩, ⟨some 163, .pick (.tmp 156) (.tmp 162) (.const (Value.bool false)), none, [(156, 9), (162, 15)]⟩, ⟨some 14, .assign (.tmp 163), none, [(163, 16)]⟩] [some 147, some 148, some 149, some 150, some 151, some 152, some 153, some 154, some 155, some 156, some 157, some 158, some 159, some 160, some 161, some 162, some 163, some 14] (by kernel_rfl) (by kernel_rfl) (by kernel_rfl) (by kernel_rfl) (by kernel_rfl) ?hS ?hmono ?hsteps ?hfin
          case hS => exact hS
          case hmono =>
            refine MonoL.cons (fun x w1 w2 _ _ _ hx => hx) ?_
            refine MonoL.cons (fun x w1 w2 _ _ _ hx => hx) ?_
            refine MonoL.cons (fun x w1 w2 _ _ _ hx => hx) ?_
            refine MonoL.cons (fun x w1 w2 _ _ _ hx => hx) ?_
            refine MonoL.cons (fun x w1 w2 _ _ _ hx => hx) ?_
            refine MonoL.cons (fun x w1 w2 _ _ _ hx => hx) ?_
            refine MonoL.cons (fun x w1 w2 _ _ _ hx => hx) ?_
            refine MonoL.cons (fun x w1 w2 _ _ _ hx => hx) ?_
            refine MonoL.cons (fun x w1 w2 _ _ _ hx => hx) ?_
            refine MonoL.cons (fun x w1 w2 _ _ _ hx => hx) ?_
            refine MonoL.cons (fun x w1 w2 _ _ _ hx => hx) ?_
            refine MonoL.cons (fun x w1 w2 _ _ _ hx => hx) ?_
            refine MonoL.cons (fun x w1 w2 _ _ _ hx => hx) ?_
            refine MonoL.cons (fun x w1 w2 _ _ hR hx => ?_) ?_
            · exact hx.below hR hR.size
            refine MonoL.cons (fun x w1 w2 _ _ _ hx => hx) ?_
            refine MonoL.cons (fun x w1 w2 _ _ _ hx => hx) ?_
            refine MonoL.cons (fun x w1 w2 _ _ _ hx => hx) ?_
            refine MonoL.cons (fun x w1 w2 _ _ _ hx => hx) ?_
            exact MonoL.nil
          case hsteps =>
            refine StepsT.cons (fun (x : Value) (_ : World) => x = (.agg #[s0, s1, s2, s3, s4] : Value)) [] rfl rfl (fun oq hop _ wq hQS => ?_) ?_
            · exact StepFrom.load hop (p := (.pointer (some ⟨w.heap.size, 0, none⟩) : Value)) (by kernel_rfl) (load_box X08.out hQS) (by kernel_rfl) hQS (Below.refl _ _) rfl
            refine StepsT.cons (fun (x : Value) (_ : World) => x = (.agg #[s0, s1, s2, s3, s4] : Value)) [] rfl rfl (fun oq hop _ wq hQS => ?_) ?_
            · exact StepFrom.load hop (p := (.pointer (some ⟨w.heap.size, 0, none⟩) : Value)) (by kernel_rfl) (load_box X08.out hQS) (by kernel_rfl) hQS (Below.refl _ _) rfl
            refine StepsT.cons (fun (x : Value) (_ : World) => x = (.bool true : Value)) [(147, (fun (x : Value) (_ : World) => x = (.agg #[s0, s1, s2, s3, s4] : Value))), (148, (fun (x : Value) (_ : World) => x = (.agg #[s0, s1, s2, s3, s4] : Value)))] rfl rfl (fun oq hop _ wq hQS => ?_) ?_
            · refine StepFrom.more_eq ((.agg #[s0, s1, s2, s3, s4] : Value)) ?_
              refine StepFrom.more_eq ((.agg #[s0, s1, s2, s3, s4] : Value)) ?_
              exact StepFrom.call hop (vs := [(.agg #[s0, s1, s2, s3, s4] : Value), (.agg #[s0, s1, s2, s3, s4] : Value)]) (by kernel_rfl) (fun w => enter_sameOne _ w) (by kernel_rfl) ((one_any tt WT.out tt _ _ wq true WT.out (HT8.out.below hQS hQS.size) (HT8.out.below hQS hQS.size) (by simp)).mono fun e w9 h9 => by obtain ⟨q1, q2⟩ := h9; exact ⟨_, q1, hQS.trans (q2.mono hQS.size), q2, rfl⟩)
            refine StepsT.cons (fun (x : Value) (_ : World) => x = (.bool true : Value)) [(149, (fun (x : Value) (_ : World) => x = (.bool true : Value)))] rfl rfl (fun oq hop _ wq hQS => ?_) ?_
            · refine StepFrom.more_eq ((.bool true : Value)) ?_
              exact StepFrom.move hop (v := (.bool true : Value)) (by kernel_rfl) (by kernel_rfl) hQS (Below.refl _ _) rfl
            refine StepsT.cons (fun (x : Value) (_ : World) => x = (.agg #[s0, s1, s2, s3, s4] : Value)) [(150, (fun (x : Value) (_ : World) => x = (.bool true : Value)))] rfl rfl (fun oq hop _ wq hQS => ?_) ?_
            · refine StepFrom.more_eq ((.bool true : Value)) ?_
              exact StepFrom.load hop (p := (.pointer (some ⟨w.heap.size, 0, none⟩) : Value)) (by kernel_rfl) (load_box X08.out hQS) (by kernel_rfl) hQS (Below.refl _ _) rfl
            refine StepsT.cons (fun (x : Value) (_ : World) => x = (.agg #[p0, p1, p2, p3, p4] : Value)) [(150, (fun (x : Value) (_ : World) => x = (.bool true : Value)))] rfl rfl (fun oq hop _ wq hQS => ?_) ?_
            · refine StepFrom.more_eq ((.bool true : Value)) ?_
              exact StepFrom.load hop (p := (.pointer (some ⟨w.heap.size + 1, 0, none⟩) : Value)) (by kernel_rfl) (load_box X18.out hQS) (by kernel_rfl) hQS (Below.refl _ _) rfl
            refine StepsT.cons (fun (x : Value) (_ : World) => x = (.bool false : Value)) [(150, (fun (x : Value) (_ : World) => x = (.bool true : Value))), (151, (fun (x : Value) (_ : World) => x = (.agg #[s0, s1, s2, s3, s4] : Value))), (152, (fun (x : Value) (_ : World) => x = (.agg #[p0, p1, p2, p3, p4] : Value)))] rfl rfl (fun oq hop _ wq hQS => ?_) ?_
            · refine StepFrom.more_eq ((.bool true : Value)) ?_
              refine StepFrom.more_eq ((.agg #[s0, s1, s2, s3, s4] : Value)) ?_
              refine StepFrom.more_eq ((.agg #[p0, p1, p2, p3, p4] : Value)) ?_
              exact StepFrom.call hop (vs := [(.agg #[s0, s1, s2, s3, s4] : Value), (.agg #[p0, p1, p2, p3, p4] : Value)]) (by kernel_rfl) (fun w => enter_sameTm2 _ w) (by kernel_rfl) ((same2_any tt tu _ _ wq false FT.out FU.out (HT8.out.below hQS hQS.size) (HU8.out.below hQS hQS.size) (by simp [HNE.out])).mono fun e w9 h9 => by obtain ⟨q1, q2⟩ := h9; exact ⟨_, q1, hQS.trans (q2.mono hQS.size), q2, rfl⟩)
            refine StepsT.cons (fun (x : Value) (_ : World) => x = (.bool true : Value)) [(150, (fun (x : Value) (_ : World) => x = (.bool true : Value))), (153, (fun (x : Value) (_ : World) => x = (.bool false : Value)))] rfl rfl (fun oq hop _ wq hQS => ?_) ?_
            · refine StepFrom.more_eq ((.bool true : Value)) ?_
              refine StepFrom.more_eq ((.bool false : Value)) ?_
              exact StepFrom.not hop (b := false) (by kernel_rfl) (by kernel_rfl) hQS (Below.refl _ _) rfl
            refine StepsT.cons (fun (x : Value) (_ : World) => x = (.bool true : Value)) [(150, (fun (x : Value) (_ : World) => x = (.bool true : Value))), (154, (fun (x : Value) (_ : World) => x = (.bool true : Value)))] rfl rfl (fun oq hop _ wq hQS => ?_) ?_
            · refine StepFrom.more_eq ((.bool true : Value)) ?_
              refine StepFrom.more_eq ((.bool true : Value)) ?_
              exact StepFrom.pick hop (b := true) (vx := (.bool true : Value)) (vy := (Value.bool false : Value)) (by kernel_rfl) (by kernel_rfl) (by kernel_rfl) (by kernel_rfl) hQS (Below.refl _ _) rfl
            refine StepsT.cons (fun (x : Value) (_ : World) => x = (.bool true : Value)) [(155, (fun (x : Value) (_ : World) => x = (.bool true : Value)))] rfl rfl (fun oq hop _ wq hQS => ?_) ?_
            · refine StepFrom.more_eq ((.bool true : Value)) ?_
              exact StepFrom.move hop (v := (.bool true : Value)) (by kernel_rfl) (by kernel_rfl) hQS (Below.refl _ _) rfl
            refine StepsT.cons (fun (x : Value) (_ : World) => x = (.agg #[s0, s1, s2, s3, s4] : Value)) [(156, (fun (x : Value) (_ : World) => x = (.bool true : Value)))] rfl rfl (fun oq hop _ wq hQS => ?_) ?_
            · refine StepFrom.more_eq ((.bool true : Value)) ?_
              exact StepFrom.load hop (p := (.pointer (some ⟨w.heap.size, 0, none⟩) : Value)) (by kernel_rfl) (load_box X08.out hQS) (by kernel_rfl) hQS (Below.refl _ _) rfl
            refine StepsT.cons (fun (x : Value) (_ : World) => x = (.bool rt : Value)) [(156, (fun (x : Value) (_ : World) => x = (.bool true : Value))), (157, (fun (x : Value) (_ : World) => x = (.agg #[s0, s1, s2, s3, s4] : Value)))] rfl rfl (fun oq hop _ wq hQS => ?_) ?_
            · refine StepFrom.more_eq ((.bool true : Value)) ?_
              refine StepFrom.more_eq ((.agg #[s0, s1, s2, s3, s4] : Value)) ?_
              exact StepFrom.call hop (vs := [(.agg #[s0, s1, s2, s3, s4] : Value)]) (by kernel_rfl) (fun w => enter_rightTm _ w) (by kernel_rfl) ((C158.out wq _ hQS (HT8.out.below hQS hQS.size)).mono fun e w9 h9 => by obtain ⟨q1, q2⟩ := h9; exact ⟨_, q1, hQS.trans (q2.mono hQS.size), q2, rfl⟩)
            refine StepsT.cons (fun (x : Value) (_ : World) => x = (.agg #[s0, s1, s2, s3, s4] : Value)) [(156, (fun (x : Value) (_ : World) => x = (.bool true : Value)))] rfl rfl (fun oq hop _ wq hQS => ?_) ?_
            · refine StepFrom.more_eq ((.bool true : Value)) ?_
              exact StepFrom.load hop (p := (.pointer (some ⟨w.heap.size, 0, none⟩) : Value)) (by kernel_rfl) (load_box X08.out hQS) (by kernel_rfl) hQS (Below.refl _ _) rfl
            refine StepsT.cons (fun (x : Value) (w : World) => TmAt w w.heap.size tt x) [(156, (fun (x : Value) (_ : World) => x = (.bool true : Value))), (159, (fun (x : Value) (_ : World) => x = (.agg #[s0, s1, s2, s3, s4] : Value)))] rfl rfl (fun oq hop _ wq hQS => ?_) ?_
            · refine StepFrom.more_eq ((.bool true : Value)) ?_
              refine StepFrom.more_eq ((.agg #[s0, s1, s2, s3, s4] : Value)) ?_
              exact StepFrom.call hop (vs := [(.agg #[s0, s1, s2, s3, s4] : Value), (.int .i64 0 : Value), (.int .i64 0 : Value)]) (by kernel_rfl) (fun w => enter_lift _ w) (by kernel_rfl) ((C160.out wq hQS).mono fun e w9 h9 => by obtain ⟨v, q1, q2, q3⟩ := h9; exact ⟨_, q1, hQS.trans (q3.mono hQS.size), q3, q2⟩)
            refine StepsT.cons (fun (x : Value) (_ : World) => x = (.bool rt : Value)) [(156, (fun (x : Value) (_ : World) => x = (.bool true : Value))), (160, (fun (x : Value) (w : World) => TmAt w w.heap.size tt x))] rfl rfl (fun oq hop _ wq hQS => ?_) ?_
            · refine StepFrom.more_eq ((.bool true : Value)) ?_
              refine StepFrom.more fun x160 h160 => ?_
              obtain h160 := h160
              exact StepFrom.call hop (vs := [(x160 : Value)]) (by kernel_rfl) (fun w => enter_rightTm _ w) (by kernel_rfl) ((C158.out wq x160 hQS h160).mono fun e w9 h9 => by obtain ⟨q1, q2⟩ := h9; exact ⟨_, q1, hQS.trans (q2.mono hQS.size), q2, rfl⟩)
            refine StepsT.cons (fun (x : Value) (_ : World) => x = (.bool true : Value)) [(156, (fun (x : Value) (_ : World) => x = (.bool true : Value))), (158, (fun (x : Value) (_ : World) => x = (.bool rt : Value))), (161, (fun (x : Value) (_ : World) => x = (.bool rt : Value)))] rfl rfl (fun oq hop _ wq hQS => ?_) ?_
            · refine StepFrom.more_eq ((.bool true : Value)) ?_
              refine StepFrom.more_eq ((.bool rt : Value)) ?_
              refine StepFrom.more_eq ((.bool rt : Value)) ?_
              exact StepFrom.bin hop (vx := (.bool rt : Value)) (vy := (.bool rt : Value)) (by kernel_rfl) (by kernel_rfl) (eql_sameB _ _ _ _) (by kernel_rfl) hQS (Below.refl _ _) rfl
            refine StepsT.cons (fun (x : Value) (_ : World) => x = (.bool true : Value)) [(156, (fun (x : Value) (_ : World) => x = (.bool true : Value))), (162, (fun (x : Value) (_ : World) => x = (.bool true : Value)))] rfl rfl (fun oq hop _ wq hQS => ?_) ?_
            · refine StepFrom.more_eq ((.bool true : Value)) ?_
              refine StepFrom.more_eq ((.bool true : Value)) ?_
              exact StepFrom.pick hop (b := true) (vx := (.bool true : Value)) (vy := (Value.bool false : Value)) (by kernel_rfl) (by kernel_rfl) (by kernel_rfl) (by kernel_rfl) hQS (Below.refl _ _) rfl
            refine StepsT.cons (fun (x : Value) (_ : World) => x = (.bool true : Value)) [(163, (fun (x : Value) (_ : World) => x = (.bool true : Value)))] rfl rfl (fun oq hop _ wq hQS => ?_) ?_
            · refine StepFrom.more_eq ((.bool true : Value)) ?_
              exact StepFrom.assign hop (v := (.bool true : Value)) (by kernel_rfl) (by kernel_rfl) hQS (Below.refl _ _) rfl
            exact StepsT.nil
          case hfin =>
            intro w9 hb9
            refine FinalFrom.more fun x147 h147 => ?_
            refine FinalFrom.more fun x148 h148 => ?_
            refine FinalFrom.more fun x149 h149 => ?_
            refine FinalFrom.more fun x150 h150 => ?_
            refine FinalFrom.more fun x151 h151 => ?_
            refine FinalFrom.more fun x152 h152 => ?_
            refine FinalFrom.more fun x153 h153 => ?_
            refine FinalFrom.more fun x154 h154 => ?_
            refine FinalFrom.more fun x155 h155 => ?_
            refine FinalFrom.more fun x156 h156 => ?_
            refine FinalFrom.more fun x157 h157 => ?_
            refine FinalFrom.more fun x158 h158 => ?_
            refine FinalFrom.more fun x159 h159 => ?_
            refine FinalFrom.more fun x160 h160 => ?_
            refine FinalFrom.more fun x161 h161 => ?_
            refine FinalFrom.more fun x162 h162 => ?_
            refine FinalFrom.more fun x163 h163 => ?_
            refine FinalFrom.more fun x14 h14 => ?_
            refine FinalFrom.done ?_
            obtain rfl : x14 = (.bool true : Value) := h14
            have HF : Hid (HasPost w true (.returned (.bool true)) w9) := ⟨rfl, HEND8.out w9 hb9⟩
            clear hS hb9
            simp only [Act.put, List.setIfInBounds_toArray, List.set_cons_zero, List.set_cons_succ]
            go_wp2
            go_ret
            exact HF.out
end Go.Proofs.YtafgmndlbbjphaaDoor
