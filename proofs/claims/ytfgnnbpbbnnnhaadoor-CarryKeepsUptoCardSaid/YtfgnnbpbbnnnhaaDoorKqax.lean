/- Laws. -/
import Derived.Test.YtfgnnbpbbnnnhaaDoorKqam
import Derived.RangeFuncNested
import Derived.RangeFuncBound
import Derived.RangeFuncCalls
import Derived.RangeFuncLeaves
import Derived.RangeFuncFrom
import Derived.Shelf.Abstract
import Derived.Shelf.RegionOpen
import Derived.OwnWalkIn
import Derived.TacticsInMore
import Derived.LoopNIn
import Derived.LoopIn
namespace Go.Proofs.YtfgnnbpbbnnnhaaDoor
open Go.RowKit Go.Shelf
attribute [local go_sem] Oper.semAt_some
mutual
/-- the kinds of a term and of all terms within it, in their order -/
def Tm.kinds : Tm → List Int
  | .mk k _ _ _ kids => k :: Tm.kindsL kids
def Tm.kindsL : List Tm → List Int
  | [] => []
  | t :: ts => t.kinds ++ Tm.kindsL ts
end
theorem Tm.kinds_mk (k n a : Int) (lv : List (List (Int × Int))) (kids : List Tm) : (Tm.mk k n a lv kids).kinds = k :: Tm.kindsL kids := by rw [Tm.kinds]
theorem Tm.kindsL_take : ∀ (ts : List Tm) (i : Nat) (t : Tm), ts[i]? = some t → Tm.kindsL (ts.take (i + 1)) = Tm.kindsL (ts.take i) ++ t.kinds
  | [], i, t, h => by simp at h
  | s :: ts, 0, t, h => by
    injection h with h
    subst h
    simp [Tm.kindsL]
  | s :: ts, i + 1, t, h => by
    have := Tm.kindsL_take ts i t (by simpa using h)
    simp only [List.take_succ_cons, Tm.kindsL, this, List.append_assoc]
theorem Tm.kindsL_part : ∀ (ts : List Tm) (i : Nat), Tm.kindsL (ts.take i) <+: Tm.kindsL ts
  | [], i => by simp
  | s :: ts, 0 => by simp [Tm.kindsL]
  | s :: ts, i + 1 => by
    simp only [List.take_succ_cons, Tm.kindsL]
    exact (List.prefix_append_right_inj _).2 (Tm.kindsL_part ts i)
mutual
theorem Tm.kinds_length : ∀ t : Tm, t.kinds.length = t.size
  | .mk k n a lv kids => by rw [Tm.kinds_mk, Tm.size_mk, List.length_cons, Tm.kindsL_length kids]; omega
theorem Tm.kindsL_length : ∀ ts : List Tm, (Tm.kindsL ts).length = Tm.sizeL ts
  | [] => by simp [Tm.kindsL, Tm.sizeL]
  | t :: ts => by rw [Tm.kindsL, Tm.sizeL, List.length_append, Tm.kinds_length t, Tm.kindsL_length ts]
end
/-- a node as it is handed on -/
structure NodeE where
  k : Int
  n : Int
  a : Int
  A1 : Option Addr
  p1 : Nat
  c1 : Nat
  A2 : Option Addr
  p2 : Nat
  c2 : Nat
def NodeE.enc (x : NodeE) : Value := .agg #[.int .i64 x.k, .int .i64 x.n, .int .i64 x.a, .slice x.A1 x.p1 x.c1, .slice x.A2 x.p2 x.c2]
/-- whatever is cells lies as it lay -/
def KeepsC (W W' : World) : Prop := ∀ (b : Nat) (cs : Array Value) (t : TypeId) (fr : Nat × Nat), W.heap[b]? = some (Obj.cells cs t fr) → W'.heap[b]? = some (Obj.cells cs t fr)
theorem KeepsC.refl (W : World) : KeepsC W W := fun _ _ _ _ h => h
theorem KeepsC.trans {A B C : World} (h : KeepsC A B) (k : KeepsC B C) : KeepsC A C := fun b cs t fr e => k b cs t fr (h b cs t fr e)
theorem KeepsC.alloc {A B : World} (h : KeepsC A B) (o : Obj) : KeepsC A (B.alloc o) := fun b cs t fr e => by
  have := h b cs t fr e
  rw [Below.heap_alloc _ _ _ (heap_some_lt this)]
  exact this
def Kc (n₀ : Nat) (W W' : World) : Prop := Below n₀ W W' ∧ KeepsC W W'
theorem Kc.t {n₀ : Nat} {A B C : World} (h : Kc n₀ A B) (k : Kc n₀ B C) : Kc n₀ A C := ⟨h.1.trans k.1, h.2.trans k.2⟩
theorem Kc.refl (n₀ : Nat) (A : World) : Kc n₀ A A := ⟨Below.refl _ _, KeepsC.refl _⟩
theorem Kc.alloc {n₀ : Nat} {A B : World} (h : Kc n₀ A B) (hB : n₀ ≤ B.heap.size) (o : Obj) : Kc n₀ A (B.alloc o) := ⟨h.1.alloc hB o, h.2.alloc o⟩
theorem Kc.b {n₀ : Nat} {w : World} (hn : n₀ ≤ w.heap.size) (W : World) (l : Nat) (o o' : Obj) (hl : w.heap.size ≤ l) (h : W.heap[l]? = some o) (hc : o.isCells = false) (hw : o.isWalk = false) : Kc n₀ W (W.putObj l o') :=
  ⟨belowK_b hn W l o o' hl h hc hw, fun b cs t fr e => by
    have hb : some b ≠ some l := fun e' => by
      injection e' with e'
      subst e'
      rw [e] at h
      injection h with h
      subst h
      cases hc
    exact ((grownBy_putObj' W l o').block b (heap_some_lt e) hb).trans e⟩
set_option maxRecDepth 100000 in
set_option maxHeartbeats 4000000 in
theorem visit_in (F : Fence) (hd : F.depth = none) (hf : F.fn 84) (hro : F.round = none) (l n₀ N : Nat) (J Jx : List NodeE → World → Prop) (hJ : ∀ s W o, J s W → J s (W.alloc o))
    (hY : ∀ m pre x W, J pre W → pre.length < N → YieldAt F m Tryd.prog l #[NodeE.enc x] W fun e W' => (e = .returned (.bool true) ∧ J (pre ++ [x]) W' ∧ Kc n₀ W W') ∨ (e = .returned (.bool false) ∧ Jx (pre ++ [x]) W'))
    (k n a : Int) (lv : List (List (Int × Int))) (kids : List Tm)
    (ih : ∀ t ∈ kids, ∀ (d : Nat) (x : NodeE) (pre : List NodeE) (W : World), TmAt W n₀ t x.enc → n₀ ≤ W.heap.size → J pre W → pre.length + t.size ≤ N → t.fit → CallsIn F d Tryd.prog 84 #[x.enc, .func (.yield l) #[] #[]] W fun e W' => (e = .returned (.bool true) ∧ ∃ ys, ys.map (·.k) = t.kinds ∧ J (pre ++ ys) W' ∧ Kc n₀ W W') ∨ (e = .returned (.bool false) ∧ ∃ ys, ys.map (·.k) <+: t.kinds ∧ Jx (pre ++ ys) W')) :
    ∀ (d : Nat) (x : NodeE) (pre : List NodeE) (W : World), TmAt W n₀ (.mk k n a lv kids) x.enc → n₀ ≤ W.heap.size → J pre W → pre.length + (Tm.mk k n a lv kids).size ≤ N → (Tm.mk k n a lv kids).fit → CallsIn F d Tryd.prog 84 #[x.enc, .func (.yield l) #[] #[]] W fun e W' => (e = .returned (.bool true) ∧ ∃ ys, ys.map (·.k) = (Tm.mk k n a lv kids).kinds ∧ J (pre ++ ys) W' ∧ Kc n₀ W W') ∨ (e = .returned (.bool false) ∧ ∃ ys, ys.map (·.k) <+: (Tm.mk k n a lv kids).kinds ∧ Jx (pre ++ ys) W') := by
  intro d x pre W hT hn hj hN hfit
  obtain ⟨Al, cl, Ak, ck, e, _, _, q3⟩ := hT.open
  obtain ⟨xk, xn, xa, A1, p1, c1, A2, p2, c2⟩ := x
  unfold NodeE.enc at e hT ⊢
  injection e with e
  injection e with e
  injection e with e0 e
  injection e with e1 e
  injection e with e2 e
  injection e with e3 e
  injection e with e4 _
  injection e0 with _ e0
  injection e1 with _ e1
  injection e2 with _ e2
  injection e3 with e3 e5 e6
  injection e4 with e4 e7 e8
  subst e0 e1 e2 e3 e6 e4 e8
  have hdd : ∀ k : Nat, (F.depth.isSome = true → 1 ≤ k) := fun k h => by rw [hd] at h; cases h
  obtain ⟨W1, hW1⟩ : ∃ y, W.alloc (.cells #[.int .i64 xk, .int .i64 xn, .int .i64 xa, .slice A1 p1 c1, .slice A2 p2 c2] 27) = y := ⟨_, rfl⟩
  have hk1 : Kc n₀ W W1 := by rw [← hW1]; exact (Kc.refl _ _).alloc hn _
  have x1 : W1.heap[W.heap.size]? = some (.cells #[.int .i64 xk, .int .i64 xn, .int .i64 xa, .slice A1 p1 c1, .slice A2 p2 c2] 27 (0, 0)) := by rw [← hW1]; exact heap_alloc_new W _
  have hj1 : J pre W1 := by rw [← hW1]; exact hJ _ _ _ hj
  obtain ⟨fn, tmps, assign, body, hy, hR⟩ := hY (d - 1) pre ⟨xk, xn, xa, A1, p1, c1, A2, p2, c2⟩ W1 hj1 (by rw [Tm.size_mk] at hN; omega)
  unfold NodeE.enc at hy
  have a0 := cell_of_row _ _ 0 _ _ (0, 0) x1
  have a1 := cell_of_row _ _ 1 _ _ (0, 0) x1
  have a2 := cell_of_row _ _ 2 _ _ (0, 0) x1
  have a3 := cell_of_row _ _ 3 _ _ (0, 0) x1
  have a4 := cell_of_row _ _ 4 _ _ (0, 0) x1
  refine callsIn_of_wp Tryd.func84 rfl hf ?_ hro
  simp only [Tryd.ntmps84, List.size_toArray, List.length_cons, List.length_nil, Nat.reduceAdd, Nat.reduceSub, Array.replicate_succ, Array.replicate_zero, List.push_toArray, List.append_toArray, List.nil_append, List.cons_append]
  have HIH := Lib.hid ih
  have HT3 := Lib.hid q3
  have HX1 := Lib.hid x1
  have HK1 := Lib.hid hk1
  have HJ := Lib.hid hJ
  have hkl : Tm.kindsL kids = Tm.kindsL kids := rfl
  rw [Tm.size_mk] at hN
  rw [Tm.fit_mk] at hfit
  have HFT : Hid (∀ t ∈ kids, t.fit) := (Tm.fitL_iff kids).1 hfit.2.2.2
  have hp9 : p2 ≤ 1048576 := by have h9 := hfit.2.2.1; have e9 : p2 = kids.length := e7; omega
  have HP2 : Hid (kids.length = p2) := e7.symm
  clear ih q3 x1 hk1 hJ hY hj hj1 hT hfit hkl e5 e7
  gi_wp2
  refine hR.mono ?_
  rintro e W2 (⟨rfl, hj2, hk2⟩ | ⟨rfl, hx2⟩)
  · have HJ2 := Lib.hid hj2
    have HK2 : Hid (Kc n₀ W W2) := HK1.out.t hk2
    have hn2 : n₀ ≤ W2.heap.size := by have := HK2.out.1.size; omega
    have x2 := hk2.2 _ _ _ _ HX1.out
    have b4 := cell_of_row _ _ 4 _ _ (0, 0) x2
    clear hR hy a0 a1 a2 a3 a4 hj2 hk2 x2 hW1
    gi_wp2
    clear b4
    gi_loopw [14] (fun i wr => ∃ q : Nat, q ≤ p2 ∧ i = .int .i64 (q : Int) ∧ ∃ ys : List NodeE, ys.map (·.k) = Tm.kindsL (kids.take q) ∧ J (pre ++ [(⟨xk, xn, xa, A1, p1, c1, A2, p2, c2⟩ : NodeE)] ++ ys) wr ∧ Kc n₀ W2 wr) (fun i _ => p2 - (intOf i).toNat)
    case atStart => exact ⟨0, Nat.zero_le _, rfl, [], by simp [Tm.kindsL], by simpa using HJ2.out, Kc.refl _ _⟩
    case round =>
      obtain ⟨q, hq, rfl, ys, hys, hjq, hkq⟩ := hrel
      have hnr : n₀ ≤ wr.heap.size := by have := hkq.1.size; omega
      have hyl : ys.length = Tm.sizeL (kids.take q) := by rw [← Tm.kindsL_length, ← hys, List.length_map]
      have HJQ := Lib.hid hjq
      have HKQ := Lib.hid hkq
      by_cases hlt : q < p2
      · obtain ⟨t, ht⟩ : ∃ t, kids[q]? = some t := ⟨_, List.getElem?_eq_getElem (by rw [HP2.out]; exact hlt)⟩
        obtain ⟨b, o, k2, n2, a2, A3, p3, c3, A4, p4, c4, e, hbB, hvt, f0, f1, f2, f3, f4⟩ := HT3.out.at (HK2.out.1.trans hkq.1) ht
        subst e
        obtain ⟨wk, hwk⟩ : ∃ y, wr.alloc (.cells #[.int .i64 k2, .int .i64 n2, .int .i64 a2, .slice A3 p3 c3, .slice A4 p4 c4] 27) = y := ⟨_, rfl⟩
        have hkk : Kc n₀ wr wk := by rw [← hwk]; exact (Kc.refl _ _).alloc hnr _
        have xk' : wk.heap[wr.heap.size]? = some (.cells #[.int .i64 k2, .int .i64 n2, .int .i64 a2, .slice A3 p3 c3, .slice A4 p4 c4] 27 (0, 0)) := by rw [← hwk]; exact heap_alloc_new wr _
        have g0 := cell_of_row _ _ 0 _ _ (0, 0) xk'
        have g1 := cell_of_row _ _ 1 _ _ (0, 0) xk'
        have g2 := cell_of_row _ _ 2 _ _ (0, 0) xk'
        have g3 := cell_of_row _ _ 3 _ _ (0, 0) xk'
        have g4 := cell_of_row _ _ 4 _ _ (0, 0) xk'
        have hjk := HJ.out _ _ (.cells #[.int .i64 k2, .int .i64 n2, .int .i64 a2, .slice A3 p3 c3, .slice A4 p4 c4] 27) hjq
        rw [hwk] at hjk
        have hm := List.mem_of_getElem? ht
        have hst := Tm.sizeL_take kids q t ht
        have hsl : Tm.sizeL (kids.take (q + 1)) ≤ Tm.sizeL kids := by rw [← Tm.kindsL_length, ← Tm.kindsL_length]; exact (Tm.kindsL_part kids (q + 1)).length_le
        have HC := Lib.hid (HIH.out t hm (d - 1) ⟨k2, n2, a2, A3, p3, c3, A4, p4, c4⟩ _ wk (hvt.below ((HK2.out.1.trans hkq.1).trans hkk.1) (Nat.le_refl _)) (by have := hkk.1.size; omega) hjk (by simp only [List.length_append, List.length_cons, List.length_nil]; omega) (HFT.out t hm))
        have HKK := Lib.hid hkk
        have HYS := Lib.hid hys
        have HTQ := Lib.hid ht
        unfold NodeE.enc at HC
        have ij0 : (0 : Int) ≤ (q : Int) := by omega
        have ij1 : (q : Int) < (p2 : Int) := by omega
        clear hjq hkq hjk hkk hys ht hvt xk' hm hst hsl hyl
        gi_wp2_with (first | ((try refine ⟨hdd _, ?_⟩); gi_at_call 84; refine HC.out.mono ?_; clear HC; rintro e W3 (⟨rfl, zs, hzs, hjz, hkz⟩ | ⟨rfl, zs, hzs, hxz⟩)))
        · have hz : (ys ++ zs).map (·.k) = Tm.kindsL (kids.take (q + 1)) := by rw [Tm.kindsL_take kids q t HTQ.out, List.map_append, HYS.out, hzs]
          go_roundw
          case rel => exact ⟨q + 1, by omega, by go_num, ys ++ zs, hz, by simpa [List.append_assoc] using hjz, (HKQ.out.t HKK.out).t hkz⟩
          case measure => simp [intOf]; omega
        · go_ret
          refine .inr ⟨rfl, ⟨xk, xn, xa, A1, p1, c1, some ⟨b, o, none⟩, p2, c2⟩ :: (ys ++ zs), ?_, by simpa [List.append_assoc] using hxz⟩
          rw [Tm.kinds_mk, List.map_cons, List.map_append, HYS.out]
          refine (List.prefix_cons_inj _).2 (List.IsPrefix.trans ?_ (Tm.kindsL_part kids (q + 1)))
          rw [Tm.kindsL_take kids q t HTQ.out]
          exact (List.prefix_append_right_inj _).2 hzs
      · obtain rfl : p2 = q := by omega
        have hz : (((⟨xk, xn, xa, A1, p1, c1, A2, p2, c2⟩ : NodeE) :: ys)).map (·.k) = (Tm.mk xk xn xa lv kids).kinds := by
          rw [Tm.kinds_mk, List.map_cons, hys, List.take_of_length_le (Nat.le_of_eq HP2.out)]
        clear hjq hkq hys hyl
        gi_wp2
        go_ret
        exact .inl ⟨rfl, _, hz, by simpa [List.append_assoc] using HJQ.out, HK2.out.t HKQ.out⟩
  · gi_wp2
    go_ret
    exact .inr ⟨rfl, [⟨xk, xn, xa, A1, p1, c1, A2, p2, c2⟩], by rw [Tm.kinds_mk]; simp, hx2⟩
theorem visit_any (F : Fence) (hd : F.depth = none) (hf : F.fn 84) (hro : F.round = none) (l n₀ N : Nat) (J Jx : List NodeE → World → Prop) (hJ : ∀ s W o, J s W → J s (W.alloc o))
    (hY : ∀ m pre x W, J pre W → pre.length < N → YieldAt F m Tryd.prog l #[NodeE.enc x] W fun e W' => (e = .returned (.bool true) ∧ J (pre ++ [x]) W' ∧ Kc n₀ W W') ∨ (e = .returned (.bool false) ∧ Jx (pre ++ [x]) W')) (t : Tm) :
    ∀ (d : Nat) (x : NodeE) (pre : List NodeE) (W : World), TmAt W n₀ t x.enc → n₀ ≤ W.heap.size → J pre W → pre.length + t.size ≤ N → t.fit → CallsIn F d Tryd.prog 84 #[x.enc, .func (.yield l) #[] #[]] W fun e W' => (e = .returned (.bool true) ∧ ∃ ys, ys.map (·.k) = t.kinds ∧ J (pre ++ ys) W' ∧ Kc n₀ W W') ∨ (e = .returned (.bool false) ∧ ∃ ys, ys.map (·.k) <+: t.kinds ∧ Jx (pre ++ ys) W') := by
  induction t using Tm.ind with
  | h k n a lv kids ih => exact visit_in F hd hf hro l n₀ N J Jx hJ hY k n a lv kids ih
theorem room_of_none9 {F : Fence} (hd : F.depth = none) (k : Nat) : F.room k := fun d h => by rw [hd] at h; cases h
theorem YieldAt.anyDepth9 {F : Fence} (hd : F.depth = none) {m : Nat} (m' : Nat) {P : Program} {l : Nat} {args : Array Value} {W : World} {R : Ending → World → Prop} (h : YieldAt F m P l args W R) : YieldAt F m' P l args W R := by
  obtain ⟨fn, tmps, assign, body, hy, hR⟩ := h
  exact ⟨fn, tmps, assign, body, hy, hR.1, fun c cs _ => hR.2 c cs (room_of_none9 hd _)⟩
set_option maxRecDepth 100000 in
set_option maxHeartbeats 1000000 in
/-- the iterator's function -/
theorem within1_in (F : Fence) (hd : F.depth = none) (n : Nat) (hf1 : F.fn 83) (hf : F.fn 84) (hro : F.round = none) (l g n₀ : Nat) (t : Tm) (x : NodeE) (J Jx : List NodeE → World → Prop) (hJ : ∀ s W o, J s W → J s (W.alloc o))
    (hY : ∀ pre x W, J pre W → pre.length < t.size → YieldAt F (n - 1) Tryd.prog l #[NodeE.enc x] W fun e W' => (e = .returned (.bool true) ∧ J (pre ++ [x]) W' ∧ Kc n₀ W W') ∨ (e = .returned (.bool false) ∧ Jx (pre ++ [x]) W'))
    (W : World) (hg : W.heap[g]? = some (.cells #[.int .i64 x.k, .int .i64 x.n, .int .i64 x.a, .slice x.A1 x.p1 x.c1, .slice x.A2 x.p2 x.c2] 27 (0, 0))) (hT : TmAt W n₀ t x.enc) (hn : n₀ ≤ W.heap.size) (hfit : t.fit) (h0 : J [] W) :
    CallsIn F n Tryd.prog 83 #[.func (.yield l) #[] #[], .pointer (some ⟨g, 0, none⟩)] W fun e W' => (∃ v, e = .returned v) ∧ ((∃ ys : List NodeE, ys.map (·.k) = t.kinds ∧ J ys W') ∨ (∃ pre : List NodeE, pre.map (·.k) <+: t.kinds ∧ Jx pre W')) := by
  have hdd : ∀ k : Nat, (F.depth.isSome = true → 1 ≤ k) := fun k h => by rw [hd] at h; cases h
  have hp := visit_any F hd hf hro l n₀ t.size J Jx hJ (fun m pre x W hj hl => YieldAt.anyDepth9 hd m (hY pre x W hj hl)) t (n - 1) x [] W hT hn h0 (by simp) hfit
  have a0 := cell_of_row _ _ 0 _ _ (0, 0) hg
  have a1 := cell_of_row _ _ 1 _ _ (0, 0) hg
  have a2 := cell_of_row _ _ 2 _ _ (0, 0) hg
  have a3 := cell_of_row _ _ 3 _ _ (0, 0) hg
  have a4 := cell_of_row _ _ 4 _ _ (0, 0) hg
  unfold NodeE.enc at hp
  have HP := Lib.hid hp
  clear hp hY hJ hT hg
  refine callsIn_of_wp Tryd.func83 rfl hf1 ?_ hro
  simp only [Tryd.ntmps83, List.size_toArray, List.length_cons, List.length_nil, Nat.reduceAdd, Nat.reduceSub, Array.replicate_succ, Array.replicate_zero, List.push_toArray, List.append_toArray, List.nil_append, List.cons_append]
  gi_wp2_with ((try refine ⟨hdd _, ?_⟩); gi_at_call 84; refine HP.out.mono ?_; clear HP; rintro e W1 (⟨rfl, ys, hys, hJ1, _⟩ | ⟨rfl, ys, hys, hx⟩))
  · go_end0
    exact ⟨⟨_, rfl⟩, .inl ⟨ys, hys, by simpa using hJ1⟩⟩
  · go_end0
    exact ⟨⟨_, rfl⟩, .inr ⟨ys, hys, by simpa using hx⟩⟩
theorem within_stops (F : Fence) (hd : F.depth = none) (n : Nat) (hf1 : F.fn 83) (hf : F.fn 84) (hro : F.round = none) (g n₀ : Nat) (t : Tm) (x : NodeE) (w : World)
    (hg : w.heap[g]? = some (.cells #[.int .i64 x.k, .int .i64 x.n, .int .i64 x.a, .slice x.A1 x.p1 x.c1, .slice x.A2 x.p2 x.c2] 27 (0, 0))) (hT : TmAt w n₀ t x.enc) (hn : n₀ ≤ w.heap.size) (hfit : t.fit) :
    SeqStopsK F n Tryd.prog 83 #[.pointer (some ⟨g, 0, none⟩)] (fun x : NodeE => #[x.enc]) (Kc n₀) (fun ys => ys.map (·.k) = t.kinds) (fun pre => pre.map (·.k) <+: t.kinds) t.size w := fun l J Jx W hW hJ _ hY h0 =>
  within1_in F hd n hf1 hf hro l g n₀ t x J Jx (fun s W o h => hJ s W (W.alloc o) none h (World.grownBy_alloc W o none) (by simp)) hY W ((hW.block g (heap_some_lt hg)).trans hg) (hT.below (hW.mono hn) (Nat.le_refl _)) (by have := hW.size; omega) hfit h0
end Go.Proofs.YtfgnnbpbbnnnhaaDoor
