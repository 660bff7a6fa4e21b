/- Laws. -/
import Derived.Test.YtfgnnbpbbnnnhaaDoorRrah
import Derived.Test.YtfgnnbpbbnnnhaaDoorRral
namespace Go.Proofs.YtfgnnbpbbnnnhaaDoor
open Go.RowKit Go.Shelf
attribute [local go_sem] Oper.semAt_some
/-- a block of cells that stays as it is -/
def KeepsG (g : Nat) (W W' : World) : Prop := ∀ (cs : Array Value) (t : TypeId) (fr : Nat × Nat), W.heap[g]? = some (Obj.cells cs t fr) → W'.heap[g]? = some (Obj.cells cs t fr)
def Kg (n₀ g : Nat) (W W' : World) : Prop := Below n₀ W W' ∧ KeepsG g W W'
theorem Kg.refl (n₀ g : Nat) (A : World) : Kg n₀ g A A := ⟨Below.refl _ _, fun _ _ _ h => h⟩
theorem Kg.t {n₀ g : Nat} {A B C : World} (h : Kg n₀ g A B) (k : Kg n₀ g B C) : Kg n₀ g A C := ⟨h.1.trans k.1, fun cs t fr e => k.2 cs t fr (h.2 cs t fr e)⟩
theorem Kg.below {n₀ g : Nat} {A B : World} (h : Below A.heap.size A B) (hB : n₀ ≤ A.heap.size) : Kg n₀ g A B := ⟨h.mono hB, fun _ _ _ e => (h.block g (heap_some_lt e)).trans e⟩
theorem Kg.set {n₀ g g' : Nat} {A B : World} (h : Kg n₀ g A B) (hB : n₀ ≤ g') (hg : g ≠ g') (j : Nat) (v : Value) : Kg n₀ g A (B.setCell ⟨g', j, none⟩ v) := ⟨h.1.setCell hB v, fun cs t fr e => (Below.heap_setCell B ⟨g', j, none⟩ v g hg).trans (h.2 cs t fr e)⟩
theorem Kg.b {n₀ g : Nat} {w : World} (hn : n₀ ≤ w.heap.size) (W : World) (l : Nat) (o o' : Obj) (hl : w.heap.size ≤ l) (h : W.heap[l]? = some o) (hc : o.isCells = false) (hw : o.isWalk = false) : Kg n₀ g W (W.putObj l o') :=
  ⟨belowK_b hn W l o o' hl h hc hw, fun cs t fr e => by
    have hb : some g ≠ some l := fun e' => by
      injection e' with e'
      subst e'
      rw [e] at h
      injection h with h
      subst h
      cases hc
    exact ((grownBy_putObj' W l o').block g (heap_some_lt e) hb).trans e⟩
/-- one of a row, and its place -/
def RowE (w : World) (B : Nat) (ts : List Tm) : Type := {x : Nat × NodeE // ∃ t, ts[x.1]? = some t ∧ TmAt w B t x.2.enc}
def RowE.at {w : World} {B : Nat} {ts : List Tm} (x : RowE w B ts) : Nat := x.1.1
def RowE.encs {w : World} {B : Nat} {ts : List Tm} (x : RowE w B ts) : Array Value := #[.int .i64 (x.1.1 : Int), x.1.2.enc]
theorem range_drop {n k : Nat} (h : k < n) : ((List.range n).drop k).reverse = ((List.range n).drop (k + 1)).reverse ++ [k] := by
  rw [List.drop_eq_getElem_cons (by simpa using h), List.reverse_cons]
  simp
set_option maxRecDepth 100000 in
set_option maxHeartbeats 4000000 in
theorem back1_in (F : Fence) (n : Nat) (hf1 : F.fn 103) (hro : F.round = none) (hn1 : 1 ≤ n) (l g n₀ : Nat) (w : World) (A : Option Addr) (c : Nat) (ts : List Tm) (hts : Tms w n₀ A c ts) (m : Nat) (hm : ts.length = m) (hmm : m ≤ 1048576) (J Jx : List (RowE w n₀ ts) → World → Prop)
    (hY : ∀ pre (x : RowE w n₀ ts) W, J pre W → pre.length < m → YieldAt F (n - 1) Tryd.prog l x.encs W fun e W' => (e = .returned (.bool true) ∧ J (pre ++ [x]) W' ∧ Kg n₀ g W W') ∨ (e = .returned (.bool false) ∧ Jx (pre ++ [x]) W'))
    (W : World) (hg : W.heap[g]? = some (.cells #[.slice A m c] 87 (0, 0))) (hB : Below n₀ w W) (h0 : J [] W) :
    CallsIn F n Tryd.prog 103 #[.func (.yield l) #[] #[], .pointer (some ⟨g, 0, none⟩)] W fun e W' => (∃ v, e = .returned v) ∧ ((∃ ys : List (RowE w n₀ ts), ys.map RowE.at = (List.range m).reverse ∧ J ys W') ∨ (∃ pre : List (RowE w n₀ ts), (∃ k, pre.map RowE.at = ((List.range m).drop k).reverse) ∧ Jx pre W')) := by
  have a0 := cell_of_row _ _ 0 _ _ (0, 0) hg
  refine callsIn_of_wp Tryd.func103 rfl hf1 ?_ hro
  simp only [Tryd.ntmps103, List.size_toArray, List.length_cons, List.length_nil, Nat.reduceAdd, Nat.reduceSub, Array.replicate_succ, Array.replicate_zero, List.push_toArray, List.append_toArray, List.nil_append, List.cons_append]
  have HT := Lib.hid hts
  have HG := Lib.hid hg
  have HB := Lib.hid hB
  have HY := Lib.hid hY
  have HJ0 := Lib.hid h0
  have HM := Lib.hid hm
  clear hts hg hB hY h0 hm
  gi_wp2
  clear a0
  gi_loopw [3] (fun i wr => ∃ k : Nat, k ≤ m ∧ i = .int .i64 ((k : Int) - 1) ∧ ∃ ys : List (RowE w n₀ ts), ys.map RowE.at = ((List.range m).drop k).reverse ∧ J ys wr ∧ Kg n₀ g W wr) (fun i _ => (intOf i + 1).toNat)
  case atStart => exact ⟨m, Nat.le_refl _, by go_num, [], by simp, HJ0.out, Kg.refl _ _ _⟩
  case round =>
    obtain ⟨k, hk, rfl, ys, hys, hjs, hkg⟩ := hrel
    have HYS := Lib.hid hys
    have HJS := Lib.hid hjs
    have HKG := Lib.hid hkg
    have hyl : ys.length = m - k := by
      have := congrArg List.length hys
      simpa using this
    clear hys hjs hkg
    rcases k with _ | k
    · have hz : ys.map RowE.at = (List.range m).reverse := by rw [HYS.out]; simp
      gi_wp2
      go_end0
      exact ⟨⟨_, rfl⟩, .inl ⟨ys, hz, HJS.out⟩⟩
    · obtain ⟨t, ht⟩ : ∃ t, ts[k]? = some t := ⟨_, List.getElem?_eq_getElem (by rw [HM.out]; omega)⟩
      obtain ⟨b, o, k2, n2, a2, A3, p3, c3, A4, p4, c4, e, hbB, hvt, f0, f1, f2, f3, f4⟩ := HT.out.at (HB.out.trans HKG.out.1) ht
      subst e
      obtain ⟨x, hx1, hx2⟩ : ∃ x : RowE w n₀ ts, x.at = k ∧ x.encs = #[.int .i64 (k : Int), .agg #[.int .i64 k2, .int .i64 n2, .int .i64 a2, .slice A3 p3 c3, .slice A4 p4 c4]] := ⟨⟨(k, ⟨k2, n2, a2, A3, p3, c3, A4, p4, c4⟩), t, ht, hvt⟩, rfl, rfl⟩
      obtain ⟨fn, tmps, assign, body, hy, hR⟩ := HY.out ys x wr HJS.out (by omega)
      rw [hx2] at hy
      have gx := HKG.out.2 _ _ _ HG.out
      have a1 := cell_of_row _ _ 0 _ _ (0, 0) gx
      have e1 : ((k + 1 : Nat) : Int) - 1 = (k : Int) := by omega
      have hz : (ys ++ [x]).map RowE.at = ((List.range m).drop k).reverse := by rw [List.map_append, HYS.out, range_drop (n := m) (k := k) (by omega), List.map_cons, List.map_nil, hx1]
      have HZ := Lib.hid hz
      have i0 : (0 : Int) ≤ (k : Int) := by omega
      have i1 : (k : Int) < (m : Int) := by omega
      rw [e1]
      clear hz ht hvt gx e1 hx1 hx2 hyl
      gi_wp2
      try refine ⟨fun _ => hn1, ?_⟩
      refine hR.mono ?_
      rintro e W2 (⟨rfl, hj2, hk2⟩ | ⟨rfl, hx2⟩)
      · have HJ2 := Lib.hid hj2
        have HK2 := Lib.hid (HKG.out.t hk2)
        clear hR hy f0 f1 f2 f3 f4 a1 hj2 hk2
        gi_wp2
        go_roundw
        case rel => exact ⟨k, by omega, by go_num, ys ++ [x], HZ.out, HJ2.out, HK2.out⟩
        case measure => simp [intOf]
      · gi_wp2
        refine bodyPost_ret (results_none rfl _ _ _) rfl ?_
        exact ⟨⟨_, rfl⟩, .inr ⟨_, ⟨k, HZ.out⟩, hx2⟩⟩
theorem back_stops (F : Fence) (n : Nat) (hf1 : F.fn 103) (hro : F.round = none) (hn1 : 1 ≤ n) (g n₀ : Nat) (w w1 : World) (A : Option Addr) (c : Nat) (ts : List Tm) (hts : Tms w n₀ A c ts) (m : Nat) (hm : ts.length = m) (hmm : m ≤ 1048576)
    (hg : w1.heap[g]? = some (.cells #[.slice A m c] 87 (0, 0))) (hB : Below n₀ w w1) (hn : n₀ ≤ w1.heap.size) :
    SeqStopsK F n Tryd.prog 103 #[.pointer (some ⟨g, 0, none⟩)] (fun x : RowE w n₀ ts => x.encs) (Kg n₀ g) (fun ys => ys.map RowE.at = (List.range m).reverse) (fun pre => ∃ k, pre.map RowE.at = ((List.range m).drop k).reverse) m w1 := fun l J Jx W hW _ _ hY h0 =>
  back1_in F n hf1 hro hn1 l g n₀ w A c ts hts m hm hmm J Jx hY W ((hW.block g (heap_some_lt hg)).trans hg) (hB.trans (hW.mono hn)) h0
set_option maxRecDepth 100000 in
theorem backward_any (A : Option Addr) (m c : Nat) (F : Fence) (n : Nat) (hf : F.fn 73) (hro : F.round = none) (w : World) : CallsIn F n Tryd.prog 73 #[.slice A m c] w (fun e w' => e = .returned (.func (.func 103) #[] #[.pointer (some ⟨w.heap.size, 0, none⟩)]) ∧ w' = w.alloc (.cells #[.slice A m c] 87)) := by
  refine callsIn_of_wp Tryd.func73 rfl hf ?_ hro
  simp only [Tryd.ntmps73, List.size_toArray, List.length_cons, List.length_nil, Nat.reduceAdd, Nat.reduceSub, Array.replicate_succ, Array.replicate_zero, List.push_toArray, List.append_toArray, List.nil_append, List.cons_append]
  gi_wp2
  go_ret
  exact ⟨rfl, rfl⟩
end Go.Proofs.YtfgnnbpbbnnnhaaDoor
