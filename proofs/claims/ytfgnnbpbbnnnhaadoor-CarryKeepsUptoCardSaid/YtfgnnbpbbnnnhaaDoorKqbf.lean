/- Laws. -/
import Derived.Test.YtfgnnbpbbnnnhaaDoorKqap
import Derived.Test.YtfgnnbpbbnnnhaaDoorKqaq
import Derived.Test.YtfgnnbpbbnnnhaaDoorKqaw
import Derived.Test.YtfgnnbpbbnnnhaaDoorKqbc
import Derived.Test.YtfgnnbpbbnnnhaaDoorKqbe
namespace Go.Proofs.YtfgnnbpbbnnnhaaDoor
open Go.ChangeShapes Go.WideShapes Go.ChangeAt Go.RowKit Go.Deep
theorem mems_none9 (w : World) (B : Nat) : Mems w B none 0 [] := ⟨fun _ => rfl, fun h => by simp at h⟩
theorem ctrs_none9 (w : World) (B : Nat) : Ctrs w B none 0 [] := ⟨fun _ => rfl, fun h => by simp at h⟩
theorem trod_struct2 {H : Type} {P : Program} {w : World} {base : Nat} {spare : Nat → Bool} {held : Bool} {enc : TypeId × Value → H} {t : TypeId} {f0 f1 : Field} {fuel : Nat} {cs : List Value} {x : DataW H × List MemPlace} (ht : P.underlying t = some (.struct #[f0, f1])) (h : DataW.trod enc P w base spare held fuel t cs = some x) :
    ∃ y0 y1 n, x.1 = .agg [y0.1, y1.1] ∧ cs.length = P.cellsOf t ∧ DataW.trod enc P w base spare held n f0.type ((cs.drop f0.offset).take (P.cellsOf f0.type)) = some y0 ∧ DataW.trod enc P w base spare held n f1.type ((cs.drop f1.offset).take (P.cellsOf f1.type)) = some y1 := by
  obtain ⟨xs, n, _, rfl, hl, hlen, hf⟩ := DataW.trod_struct ht h
  match xs, hlen with
  | [y0, y1], _ => exact ⟨y0, y1, n, by simp, hl, by simpa using hf 0 f0 rfl, by simpa using hf 1 f1 rfl⟩
theorem trod_struct8 {H : Type} {P : Program} {w : World} {base : Nat} {spare : Nat → Bool} {held : Bool} {enc : TypeId × Value → H} {t : TypeId} {f0 f1 f2 f3 f4 f5 f6 f7 : Field} {fuel : Nat} {cs : List Value} {x : DataW H × List MemPlace} (ht : P.underlying t = some (.struct #[f0, f1, f2, f3, f4, f5, f6, f7])) (h : DataW.trod enc P w base spare held fuel t cs = some x) :
    ∃ y0 y1 y2 y3 y4 y5 y6 y7 n, x.1 = .agg [y0.1, y1.1, y2.1, y3.1, y4.1, y5.1, y6.1, y7.1] ∧ cs.length = P.cellsOf t ∧ DataW.trod enc P w base spare held n f0.type ((cs.drop f0.offset).take (P.cellsOf f0.type)) = some y0 ∧
      DataW.trod enc P w base spare held n f1.type ((cs.drop f1.offset).take (P.cellsOf f1.type)) = some y1 ∧ DataW.trod enc P w base spare held n f2.type ((cs.drop f2.offset).take (P.cellsOf f2.type)) = some y2 ∧
      DataW.trod enc P w base spare held n f3.type ((cs.drop f3.offset).take (P.cellsOf f3.type)) = some y3 ∧ DataW.trod enc P w base spare held n f4.type ((cs.drop f4.offset).take (P.cellsOf f4.type)) = some y4 ∧
      DataW.trod enc P w base spare held n f5.type ((cs.drop f5.offset).take (P.cellsOf f5.type)) = some y5 ∧ DataW.trod enc P w base spare held n f6.type ((cs.drop f6.offset).take (P.cellsOf f6.type)) = some y6 ∧ DataW.trod enc P w base spare held n f7.type ((cs.drop f7.offset).take (P.cellsOf f7.type)) = some y7 := by
  obtain ⟨xs, n, _, rfl, hl, hlen, hf⟩ := DataW.trod_struct ht h
  match xs, hlen with
  | [y0, y1, y2, y3, y4, y5, y6, y7], _ => exact ⟨y0, y1, y2, y3, y4, y5, y6, y7, n, by simp, hl, by simpa using hf 0 f0 rfl, by simpa using hf 1 f1 rfl, by simpa using hf 2 f2 rfl, by simpa using hf 3 f3 rfl, by simpa using hf 4 f4 rfl, by simpa using hf 5 f5 rfl, by simpa using hf 6 f6 rfl, by simpa using hf 7 f7 rfl⟩
/-- a sum over a row -/
def sumF {α : Type} (f : α → Nat) : List α → Nat
  | [] => 0
  | x :: l => f x + sumF f l
theorem bulk_sumF {H : Type} {α : Type} {f : α → Nat} {D : Nat → DataW H} {q : Nat → α} : ∀ l : List Nat, (∀ i ∈ l, f (q i) ≤ Rows.uptoBulk (D i)) → sumF f (l.map q) ≤ Rows.uptoBulkAll (l.map D)
  | [], _ => by simp [sumF]
  | j :: l, h => by
    have h1 := h j (by simp)
    have h2 := bulk_sumF (f := f) l fun i hi => h i (by simp [hi])
    simp only [List.map_cons, Rows.uptoBulkAll, sumF]
    omega
theorem sumF_mem {α : Type} {f : α → Nat} : ∀ {l : List α} {x : α}, x ∈ l → f x ≤ sumF f l
  | y :: l, x, h => by
    unfold sumF
    rcases List.mem_cons.1 h with rfl | h
    · omega
    · have := sumF_mem (f := f) h
      omega
theorem sumF_len {α : Type} {f : α → Nat} (h1 : ∀ x, 1 ≤ f x) : ∀ l : List α, l.length ≤ sumF f l
  | [] => by simp [sumF]
  | y :: l => by
    have := h1 y
    have := sumF_len h1 l
    simp only [sumF, List.length_cons]
    omega
/-- how much a declaration is in all -/
def Dc.all (d : Dc) : Nat := 1 + d.ty.count + d.bo.count + Tm.countL d.pars + d.sort.length + sumF (fun m : List Tm => 1 + Tm.countL m) d.mems + sumF (fun c : Int × Tm => 1 + c.2.count) d.ctors
/-- its terms fit -/
def Dc.fits (d : Dc) : Prop := d.ty.fit ∧ d.bo.fit ∧ (∀ t ∈ d.pars, t.fit) ∧ (∀ m ∈ d.mems, ∀ t ∈ m, t.fit) ∧ ∀ c ∈ d.ctors, c.2.fit
instance : Inhabited Dc := ⟨⟨0, 0, default, default, [], [], [], []⟩⟩
theorem Dc.all_ok {d : Dc} (h : d.all ≤ 1048576) : d.ok := by
  unfold Dc.all at h
  have h1 := sumF_len (f := fun m : List Tm => 1 + Tm.countL m) (fun _ => by omega) d.mems
  have h2 := sumF_len (f := fun c : Int × Tm => 1 + c.2.count) (fun _ => by omega) d.ctors
  refine ⟨by omega, by omega, by omega, by omega, by omega, fun m hm => ?_, by omega, fun c hc => ?_⟩
  · have := sumF_mem (f := fun m : List Tm => 1 + Tm.countL m) hm
    omega
  · have := sumF_mem (f := fun c : Int × Tm => 1 + c.2.count) hc
    omega
theorem Dc.all_cnt (d : Dc) : d.cnt ≤ 6 * d.all := by
  have h1 := sumF_len (f := fun m : List Tm => 1 + Tm.countL m) (fun _ => by omega) d.mems
  have h2 := sumF_len (f := fun c : Int × Tm => 1 + c.2.count) (fun _ => by omega) d.ctors
  unfold Dc.cnt Dc.all
  split
  · omega
  · split <;> omega
theorem all_cntSum : ∀ ds : List Dc, cntSum ds ≤ 6 * sumF Dc.all ds
  | [] => by simp [cntSum]
  | d :: ds => by
    have h1 := Dc.all_cnt d
    have h2 := all_cntSum ds
    simp only [cntSum, sumF]
    omega
set_option maxRecDepth 100000 in
/-- a row of terms, read -/
theorem open_tms {H : Type} {enc : TypeId × Value → H} {w : World} {fuel : Nat} {c : Value} {x : DataW H × List MemPlace} (h : DataW.trod enc Tryd.prog w 0 (fun _ => true) true fuel 25 [c] = some x) (hN : Rows.uptoBulk x.1 ≤ 1048576) :
    ∃ (A : Option Addr) (ts : List Tm) (k : Nat), c = .slice A ts.length k ∧ Tms w w.heap.size A k ts ∧ (∀ t ∈ ts, t.fit) ∧ Tm.countL ts + 1 ≤ Rows.uptoBulk x.1 := by
  have hC : Tryd.prog.cellsOf 27 = 5 := by kernel_rfl
  rcases open_elems (α := Tm) (fun cs d t => TmAt w w.heap.size t (.agg cs.toArray) ∧ t.fit ∧ t.count ≤ Rows.uptoBulk d) Tryd.underlying25 hC (by decide) h (fun n cs y hy _ ht => open_tm _ n cs y (Nat.le_refl _) (by omega) ht) with rfl | ⟨ad, len0, cap0, D, q, rfl, hb, hp, hi⟩
  · have := bulk_one x.1
    exact ⟨none, [], 0, rfl, tms_nil _ _, by simp, by simp only [Tm.countL]; omega⟩
  · have hll : ((List.range len0).map q).length = len0 := by simp
    have hsum := bulk_counts (D := D) (q := q) (List.range len0) fun i hi' => by
      obtain ⟨cs, _, ⟨_, _, h5⟩, _⟩ := hi i (List.mem_range.1 hi')
      exact h5
    refine ⟨some ad, (List.range len0).map q, cap0, by rw [hll], ⟨(fun e => by cases e), fun hpos => ?_⟩, fun t ht => ?_, by omega⟩
    · rw [hll] at hpos
      obtain ⟨b, o, rfl, hbl⟩ := hp hpos
      refine ⟨b, o, rfl, hbl, TmsAt.of fun i t hi' => ?_⟩
      have hlt : i < len0 := by
        have := (List.getElem?_eq_some_iff.1 hi').1
        omega
      have ht : t = q i := by
        simp [hlt] at hi'
        exact hi'.symm
      subst ht
      obtain ⟨cs, k1, ⟨k2, _, _⟩, k5⟩ := hi i hlt
      obtain ⟨d0, d1, d2, d3, d4, rfl⟩ : ∃ c0 c1 c2 c3 c4, cs = [c0, c1, c2, c3, c4] := by
        match cs, k1 with
        | [c0, c1, c2, c3, c4], _ => exact ⟨c0, c1, c2, c3, c4, rfl⟩
      have j0 := k5 0 (by decide)
      have j1 := k5 1 (by decide)
      have j2 := k5 2 (by decide)
      have j3 := k5 3 (by decide)
      have j4 := k5 4 (by decide)
      rw [addr_add, addr_add] at j0 j1 j2 j3 j4
      exact ⟨_, ⟨d0, d1, d2, d3, d4, rfl, j0, j1, j2, j3, j4⟩, k2⟩
    · obtain ⟨i, hi', rfl⟩ := List.mem_map.1 ht
      obtain ⟨cs, _, ⟨_, h5, _⟩, _⟩ := hi i (List.mem_range.1 hi')
      exact h5
set_option maxRecDepth 100000 in
/-- a row of members, read -/
theorem open_mems {H : Type} {enc : TypeId × Value → H} {w : World} {fuel : Nat} {c : Value} {x : DataW H × List MemPlace} (h : DataW.trod enc Tryd.prog w 0 (fun _ => true) true fuel 40 [c] = some x) (hN : Rows.uptoBulk x.1 ≤ 1048576) :
    ∃ (A : Option Addr) (ms : List (List Tm)) (k : Nat), c = .slice A ms.length k ∧ Mems w w.heap.size A k ms ∧ (∀ m ∈ ms, ∀ t ∈ m, t.fit) ∧ sumF (fun m : List Tm => 1 + Tm.countL m) ms + 1 ≤ Rows.uptoBulk x.1 := by
  have hC : Tryd.prog.cellsOf 47 = 1 := by kernel_rfl
  have hC2 : Tryd.prog.cellsOf 25 = 1 := by kernel_rfl
  rcases open_elems (α := Option Addr × List Tm × Nat) (fun cs d q => cs = [.slice q.1 q.2.1.length q.2.2] ∧ Tms w w.heap.size q.1 q.2.2 q.2.1 ∧ (∀ t ∈ q.2.1, t.fit) ∧ 1 + Tm.countL q.2.1 ≤ Rows.uptoBulk d) Tryd.underlying40 hC (by decide) h (fun n cs y hy hl ht => by
    obtain ⟨c', rfl⟩ : ∃ c', cs = [c'] := by
      match cs, hl with
      | [c'], _ => exact ⟨c', rfl⟩
    obtain ⟨y0, n', hy1, _, h0⟩ := trod_struct1 Tryd.underlying47 ht
    have hyb : Rows.uptoBulk y.1 = Rows.uptoBulk y0.1 + 1 := by
      rw [hy1]
      simp only [Rows.uptoBulk, Rows.uptoBulkAll]
    obtain ⟨A, ts, k, rfl, q1, q2, q3⟩ := open_tms (c := c') (x := y0) (fuel := n') (by simpa [hC2] using h0) (by omega)
    exact ⟨(A, ts, k), rfl, q1, q2, by show 1 + Tm.countL ts ≤ _; omega⟩) with rfl | ⟨ad, len0, cap0, D, q, rfl, hb, hp, hi⟩
  · have := bulk_one x.1
    exact ⟨none, [], 0, rfl, mems_none9 _ _, by simp, by simp only [sumF]; omega⟩
  · have hll : ((List.range len0).map fun i => (q i).2.1).length = len0 := by simp
    have hsum := bulk_sumF (f := fun m : List Tm => 1 + Tm.countL m) (D := D) (q := fun i => (q i).2.1) (List.range len0) fun i hi' => by
      obtain ⟨cs, _, ⟨_, _, _, h5⟩, _⟩ := hi i (List.mem_range.1 hi')
      exact h5
    refine ⟨some ad, (List.range len0).map fun i => (q i).2.1, cap0, by rw [hll], ⟨(fun e => by cases e), fun hpos => ?_⟩, fun m hm => ?_, by omega⟩
    · rw [hll] at hpos
      obtain ⟨b, o, rfl, hbl⟩ := hp hpos
      refine ⟨b, o, rfl, hbl, fun i m hi' => ?_⟩
      have hlt : i < len0 := by
        have := (List.getElem?_eq_some_iff.1 hi').1
        omega
      have hm : m = (q i).2.1 := by
        simp [hlt] at hi'
        exact hi'.symm
      subst hm
      obtain ⟨cs, _, ⟨rfl, k2, _, _⟩, k5⟩ := hi i hlt
      have j0 := k5 0 (by decide)
      rw [addr_add, addr_add] at j0
      exact ⟨(q i).1, (q i).2.2, by simpa using j0, k2⟩
    · obtain ⟨i, hi', rfl⟩ := List.mem_map.1 hm
      obtain ⟨cs, _, ⟨_, _, h5, _⟩, _⟩ := hi i (List.mem_range.1 hi')
      exact h5
set_option maxRecDepth 100000 in
/-- a row of constructors, read -/
theorem open_ctors {H : Type} {enc : TypeId × Value → H} {w : World} {fuel : Nat} {c : Value} {x : DataW H × List MemPlace} (h : DataW.trod enc Tryd.prog w 0 (fun _ => true) true fuel 41 [c] = some x) (hN : Rows.uptoBulk x.1 ≤ 1048576) :
    ∃ (A : Option Addr) (cs : List (Int × Tm)) (k : Nat), c = .slice A cs.length k ∧ Ctrs w w.heap.size A k cs ∧ (∀ c ∈ cs, c.2.fit) ∧ sumF (fun c : Int × Tm => 1 + c.2.count) cs + 1 ≤ Rows.uptoBulk x.1 := by
  have hC : Tryd.prog.cellsOf 50 = 6 := by kernel_rfl
  have hC1 : Tryd.prog.cellsOf 3 = 1 := by kernel_rfl
  have hC5 : Tryd.prog.cellsOf 27 = 5 := by kernel_rfl
  rcases open_elems (α := Int × Tm) (fun cs d q => (∃ v0 v1 v2 v3 v4, cs = [.int .i64 q.1, v0, v1, v2, v3, v4] ∧ TmAt w w.heap.size q.2 (.agg #[v0, v1, v2, v3, v4])) ∧ q.2.fit ∧ 1 + q.2.count ≤ Rows.uptoBulk d) Tryd.underlying41 hC (by decide) h (fun n cs y hy hl ht => by
    obtain ⟨y0, y1, n', hy1, _, h0, h1⟩ := trod_struct2 Tryd.underlying50 ht
    obtain ⟨c0, c1, c2, c3, c4, c5, rfl⟩ : ∃ c0 c1 c2 c3 c4 c5, cs = [c0, c1, c2, c3, c4, c5] := by
      match cs, hl with
      | [c0, c1, c2, c3, c4, c5], _ => exact ⟨c0, c1, c2, c3, c4, c5, rfl⟩
    simp only [hC1, hC5, List.drop_zero, List.drop_succ_cons, List.take_succ_cons, List.take_zero] at h0 h1
    have hyb : Rows.uptoBulk y.1 = Rows.uptoBulk y0.1 + Rows.uptoBulk y1.1 + 1 := by
      rw [hy1]
      simp only [Rows.uptoBulk, Rows.uptoBulkAll]
      omega
    obtain ⟨a0, e0, _, _⟩ := DataW.trod_int Tryd.underlying3 h0
    simp at e0
    subst e0
    obtain ⟨t, t1, t2, t3⟩ := open_tm _ n' _ y1 (Nat.le_refl _) (by omega) h1
    have := bulk_one y0.1
    exact ⟨(a0, t), ⟨_, _, _, _, _, rfl, t1⟩, t2, by show 1 + t.count ≤ _; omega⟩) with rfl | ⟨ad, len0, cap0, D, q, rfl, hb, hp, hi⟩
  · have := bulk_one x.1
    exact ⟨none, [], 0, rfl, ctrs_none9 _ _, by simp, by simp only [sumF]; omega⟩
  · have hll : ((List.range len0).map q).length = len0 := by simp
    have hsum := bulk_sumF (f := fun c : Int × Tm => 1 + c.2.count) (D := D) (q := q) (List.range len0) fun i hi' => by
      obtain ⟨cs, _, ⟨_, _, h5⟩, _⟩ := hi i (List.mem_range.1 hi')
      exact h5
    refine ⟨some ad, (List.range len0).map q, cap0, by rw [hll], ⟨(fun e => by cases e), fun hpos => ?_⟩, fun t ht => ?_, by omega⟩
    · rw [hll] at hpos
      obtain ⟨b, o, rfl, hbl⟩ := hp hpos
      refine ⟨b, o, rfl, hbl, fun i t hi' => ?_⟩
      have hlt : i < len0 := by
        have := (List.getElem?_eq_some_iff.1 hi').1
        omega
      have ht : t = q i := by
        simp [hlt] at hi'
        exact hi'.symm
      subst ht
      obtain ⟨cs, _, ⟨⟨v0, v1, v2, v3, v4, rfl, k2⟩, _, _⟩, k5⟩ := hi i hlt
      have j0 := k5 0 (by decide)
      have j1 := k5 1 (by decide)
      have j2 := k5 2 (by decide)
      have j3 := k5 3 (by decide)
      have j4 := k5 4 (by decide)
      have j5 := k5 5 (by decide)
      rw [addr_add, addr_add] at j0 j1 j2 j3 j4 j5
      exact ⟨_, j0, ⟨v0, v1, v2, v3, v4, rfl, j1, j2, j3, j4, j5⟩, k2⟩
    · obtain ⟨i, hi', rfl⟩ := List.mem_map.1 ht
      obtain ⟨cs, _, ⟨_, h5, _⟩, _⟩ := hi i (List.mem_range.1 hi')
      exact h5
set_option maxRecDepth 100000 in
/-- a declaration, read -/
theorem open_decl {H : Type} {enc : TypeId × Value → H} {w : World} {fuel : Nat} {cs : List Value} {x : DataW H × List MemPlace} (h : DataW.trod enc Tryd.prog w 0 (fun _ => true) true fuel 43 cs = some x) (hN : Rows.uptoBulk x.1 ≤ 1048576) :
    ∃ d : Dc, DcAt w w.heap.size d cs.toArray ∧ d.fits ∧ d.all ≤ Rows.uptoBulk x.1 := by
  obtain ⟨y0, y1, y2, y3, y4, y5, y6, y7, n, hx, hl, h0, h1, h2, h3, h4, h5, h6, h7⟩ := trod_struct8 Tryd.underlying43 h
  have hC : Tryd.prog.cellsOf 43 = 16 := by kernel_rfl
  have hC0 : Tryd.prog.cellsOf 36 = 1 := by kernel_rfl
  have hC1 : Tryd.prog.cellsOf 3 = 1 := by kernel_rfl
  have hC2 : Tryd.prog.cellsOf 27 = 5 := by kernel_rfl
  have hC3 : Tryd.prog.cellsOf 25 = 1 := by kernel_rfl
  have hC4 : Tryd.prog.cellsOf 39 = 1 := by kernel_rfl
  have hC5 : Tryd.prog.cellsOf 40 = 1 := by kernel_rfl
  have hC6 : Tryd.prog.cellsOf 41 = 1 := by kernel_rfl
  have hC7 : Tryd.prog.cellsOf 37 = 1 := by kernel_rfl
  rw [hC] at hl
  obtain ⟨c0, c1, c2, c3, c4, c5, c6, c7, c8, c9, ca, cb, cc, cd, ce, cf, rfl⟩ : ∃ c0 c1 c2 c3 c4 c5 c6 c7 c8 c9 ca cb cc cd ce cf, cs = [c0, c1, c2, c3, c4, c5, c6, c7, c8, c9, ca, cb, cc, cd, ce, cf] := by
    match cs, hl with
    | [c0, c1, c2, c3, c4, c5, c6, c7, c8, c9, ca, cb, cc, cd, ce, cf], _ => exact ⟨c0, c1, c2, c3, c4, c5, c6, c7, c8, c9, ca, cb, cc, cd, ce, cf, rfl⟩
  simp only [hC0, hC1, hC2, hC3, hC4, hC5, hC6, List.drop_zero, List.drop_succ_cons, List.take_succ_cons, List.take_zero] at h0 h1 h2 h3 h4 h5 h6 h7
  obtain ⟨a0, e0, _, _⟩ := DataW.trod_int Tryd.underlying36 h0
  obtain ⟨a1, e1, _, _⟩ := DataW.trod_int Tryd.underlying3 h1
  simp at e0 e1
  subst e0 e1
  have hbx : Rows.uptoBulk x.1 = Rows.uptoBulk y0.1 + Rows.uptoBulk y1.1 + Rows.uptoBulk y2.1 + Rows.uptoBulk y3.1 + Rows.uptoBulk y4.1 + Rows.uptoBulk y5.1 + Rows.uptoBulk y6.1 + Rows.uptoBulk y7.1 + 1 := by
    rw [hx]
    simp only [Rows.uptoBulk, Rows.uptoBulkAll]
    omega
  obtain ⟨ty, t1, t2, t3⟩ := open_tm _ n _ y2 (Nat.le_refl _) (by omega) h2
  obtain ⟨bo, b1, b2, b3⟩ := open_tm _ n _ y3 (Nat.le_refl _) (by omega) h3
  obtain ⟨Ap, ps, kp, rfl, p1, p2, p3⟩ := open_tms h4 (by omega)
  obtain ⟨z0, n', hz1, _, hz⟩ := trod_struct1 Tryd.underlying39 h5
  obtain ⟨As, so, ks, rfl, s1, s2, s3, _⟩ := open_parts (c := cd) (x := z0) (fuel := n') (by simpa [hC7] using hz)
  obtain ⟨Am, ms, km, rfl, m1, m2, m3⟩ := open_mems h6 (by omega)
  obtain ⟨Ac, cs, kc, rfl, d1, d2, d3⟩ := open_ctors h7 (by omega)
  have hzb : Rows.uptoBulk y5.1 = Rows.uptoBulk z0.1 + 1 := by
    rw [hz1]
    simp only [Rows.uptoBulk, Rows.uptoBulkAll]
  have hz0 := bulk_one y0.1
  have hz2 := bulk_one y1.1
  refine ⟨⟨a0, a1, ty, bo, ps, so, ms, cs⟩, ⟨c2, c3, c4, c5, c6, c7, c8, c9, ca, cb, Ap, As, Am, Ac, kp, ks, km, kc, rfl, t1, b1, p1, s1, s2, m1, d1⟩, ⟨t2, b2, p2, m2, d2⟩, ?_⟩
  unfold Dc.all
  simp only
  omega
set_option maxRecDepth 100000 in
/-- an argument that is a row of declarations -/
theorem open_decls {H : Type} {enc : TypeId × Value → H} {w : World} {r : Reach} {b0 : Nat} {v : Value} {d : DataW H} {p : List MemPlace} (hv : Value.okWide Tryd.prog w r b0 22 v) (h : DataW.Trod enc Tryd.prog w 0 (fun _ => true) true 22 v d p) (hN : Rows.uptoBulk d ≤ 1048576) :
    ∃ (A : Option Addr) (ds : List Dc) (c : Nat), v = .slice A ds.length c ∧ Dcs w w.heap.size A c ds ∧ (∀ d ∈ ds, d.fits) ∧ sumF Dc.all ds + 1 ≤ Rows.uptoBulk d := by
  obtain ⟨a0, len0, cap0, rfl⟩ := okWide_slice Tryd.underlying22 hv
  obtain ⟨fuel, hf⟩ := h
  have hC : Tryd.prog.cellsOf 43 = 16 := by kernel_rfl
  rcases open_elems (α := Dc) (fun cs d q => DcAt w w.heap.size q cs.toArray ∧ q.fits ∧ q.all ≤ Rows.uptoBulk d) Tryd.underlying22 hC (by decide) (by simpa [Value.cells] using hf) (fun n cs y hy _ ht => open_decl ht (by have hy : Rows.uptoBulk y.1 < Rows.uptoBulk d := hy; omega)) with e | ⟨ad, len, cap, D, q, e, hb, hp, hi⟩
  · injection e with e1 e2 e3
    subst e1 e2 e3
    have := bulk_one d
    exact ⟨none, [], 0, rfl, ⟨fun _ => rfl, fun h => by simp at h⟩, by simp, by simp only [sumF]; omega⟩
  · injection e with e1 e2 e3
    subst e1 e2 e3
    have hll : ((List.range len0).map q).length = len0 := by simp
    have hsum := bulk_sumF (f := Dc.all) (D := D) (q := q) (List.range len0) fun i hi' => by
      obtain ⟨cs, _, ⟨_, _, h5⟩, _⟩ := hi i (List.mem_range.1 hi')
      exact h5
    have hb : Rows.uptoBulkAll ((List.range len0).map D) + 1 ≤ Rows.uptoBulk d := hb
    refine ⟨some ad, (List.range len0).map q, cap0, by rw [hll], ⟨(fun e => by cases e), fun hpos => ?_⟩, fun t ht => ?_, by omega⟩
    · rw [hll] at hpos
      obtain ⟨b, o, rfl, hbl⟩ := hp hpos
      refine ⟨b, o, rfl, hbl, fun i t hi' => ?_⟩
      have hlt : i < len0 := by
        have := (List.getElem?_eq_some_iff.1 hi').1
        omega
      have ht : t = q i := by
        simp [hlt] at hi'
        exact hi'.symm
      subst ht
      obtain ⟨cs, k1, ⟨k2, _, _⟩, k5⟩ := hi i hlt
      refine ⟨cs.toArray, k2, fun j hj => ?_⟩
      have j0 := k5 j hj
      rw [addr_add, addr_add] at j0
      rw [j0, List.getElem?_toArray]
    · obtain ⟨i, hi', rfl⟩ := List.mem_map.1 ht
      obtain ⟨cs, _, ⟨_, h5, _⟩, _⟩ := hi i (List.mem_range.1 hi')
      exact h5
end Go.Proofs.YtfgnnbpbbnnnhaaDoor
namespace Go.Proofs.YtfgnnbpbbnnnhaaDoor
open Go.RowKit Go.Maps
/-- a count: no more than there are, and all of them where it is not too great -/
def Cp (r c : Nat) : Prop := r ≤ c ∧ (r ≤ 1500 → r = c)
theorem cp_add {r s : Nat} (h : r + s ≤ 1099511627776) : IntKind.i64.wrap ((r : Int) + (s : Int)) = ((r + s : Nat) : Int) := by rw [IntWalk.i64_in _ (by omega)]; omega
theorem sumF_take {α : Type} {f : α → Nat} : ∀ (ts : List α) (i : Nat) (t : α), ts[i]? = some t → sumF f (ts.take (i + 1)) = sumF f (ts.take i) + f t
  | [], i, t, h => by simp at h
  | s :: ts, 0, t, h => by
    injection h with h
    subst h
    simp [sumF]
  | s :: ts, i + 1, t, h => by
    have := sumF_take (f := f) ts i t (by simpa using h)
    simp only [List.take_succ_cons, sumF, this]
    omega
theorem sumF_take_le {α : Type} {f : α → Nat} : ∀ (ts : List α) (i : Nat), sumF f (ts.take i) ≤ sumF f ts
  | [], i => by simp [sumF]
  | s :: ts, 0 => by simp [sumF]
  | s :: ts, i + 1 => by
    have := sumF_take_le (f := f) ts i
    simp only [List.take_succ_cons, sumF]
    omega
set_option maxRecDepth 100000 in
set_option maxHeartbeats 2000000 in
theorem membersOf_cnt (ds : List (List Tm)) (A : Option Addr) (c n : Nat) (w : World) (hn : ds.length = n) (hn9 : n ≤ 1048576) (hs : ∀ m ∈ ds, Tm.countL m ≤ 1048576) (h : Mems w w.heap.size A c ds) :
    Calls Tryd.prog 75 #[.slice A n c, .int .i64 1500] w (CountPost w (sumF (fun m : List Tm => 1 + Tm.countL m) ds) 1500) := by
  have HN := Lib.hid hn
  have HL := Lib.hid h
  have HS := Lib.hid hs
  clear hn h hs
  go_enter Tryd.func75, Tryd.ntmps75
  go_wp2
  go_loopw [5, 6] (fun u i wr => ∃ (k r : Nat), k ≤ n ∧ i = .int .i64 (k : Int) ∧ u = .int .i64 (r : Int) ∧ Below w.heap.size w wr ∧ Cp r (sumF (fun m : List Tm => 1 + Tm.countL m) (ds.take k))) (fun _ i _ => n - (intOf i).toNat)
  case atStart => exact ⟨0, 0, Nat.zero_le _, rfl, rfl, Below.refl _ _, by simp [sumF, Cp]⟩
  case round =>
    obtain ⟨k, r, hk, rfl, rfl, hb, hcp⟩ := hrel
    have HCP := Lib.hid hcp
    clear hcp
    have hbz := hb.size
    have HB := Lib.hid hb
    by_cases hlt : k < n
    · by_cases hu : r ≤ 1500
      · obtain ⟨d, hd⟩ : ∃ d, ds[k]? = some d := ⟨_, List.getElem?_eq_getElem (by rw [HN.out]; exact hlt)⟩
        obtain ⟨b, o, rfl, hbB, hc⟩ := HL.out.2 (by have := HN.out; omega)
        obtain ⟨Ai, ci, q1, q2⟩ := hc k d hd
        have e0 := (hb.cell (p := ⟨b, o + k, none⟩) hbB).trans q1
        have hst := sumF_take (f := fun m : List Tm => 1 + Tm.countL m) ds k d hd
        have hcb : Tm.countL d ≤ 1048576 := HS.out d (List.mem_of_getElem? hd)
        have HC := Lib.hid (termsOf_any d Ai ci 1500 _ wr rfl (HS.out d (List.mem_of_getElem? hd)) (by decide) (q2.below hb hbz))
        obtain ⟨l, hl⟩ : ∃ l, d.length = l := ⟨_, rfl⟩
        rw [hl] at e0 HC
        clear hc q1 q2 hd hl
        have ij0 : (0 : Int) ≤ (k : Int) := by omega
        have ij1 : (k : Int) < (n : Int) := by omega
        clear hb
        go_wp2_with (fail)
        refine HC.out.mono ?_
        rintro e w1 ⟨s, rfl, g1, g2, hb1⟩
        have HB1 : Hid (Below w.heap.size w w1) := HB.out.trans (hb1.mono hbz)
        have hcp := HCP.out
        have HN2 : Hid (Cp (r + 1 + s) (sumF (fun m : List Tm => 1 + Tm.countL m) (ds.take (k + 1)))) := by show Cp _ _; rw [hst]; unfold Cp at *; have g3 := g2; omega
        clear hb1 g2 hcp
        go_wp2
        go_roundw
        case rel => exact ⟨k + 1, r + 1 + s, by omega, by go_num, by go_num, HB1.out, HN2.out⟩
        case measure => simp [intOf]; omega
      · have hu2 : decide ((r : Int) ≤ 1500) = false := by rw [decide_eq_false_iff_not]; omega
        have hu9 : Hid (1500 < r) := by show _ < _; omega
        clear hb hu
        go_wp2
        go_ret
        have hcp := HCP.out
        have hle := sumF_take_le (f := fun m : List Tm => 1 + Tm.countL m) ds k
        exact ⟨r, rfl, by unfold Cp at hcp; omega, fun h => by have := hu9.out; omega, HB.out⟩
    · obtain rfl : n = k := by omega
      have hcp := HCP.out
      rw [List.take_of_length_le (Nat.le_of_eq HN.out)] at hcp
      have HCQ := Lib.hid hcp
      clear hb hcp
      go_wp2
      go_ret
      exact ⟨r, rfl, HCQ.out.1, HCQ.out.2, HB.out⟩
set_option maxRecDepth 100000 in
set_option maxHeartbeats 2000000 in
theorem ctorsOf_cnt (ds : List (Int × Tm)) (A : Option Addr) (c n : Nat) (w : World) (hn : ds.length = n) (hn9 : n ≤ 1048576) (hs : ∀ m ∈ ds, m.2.count ≤ 1048576) (h : Ctrs w w.heap.size A c ds) :
    Calls Tryd.prog 76 #[.slice A n c, .int .i64 1500] w (CountPost w (sumF (fun c : Int × Tm => 1 + c.2.count) ds) 1500) := by
  have HN := Lib.hid hn
  have HL := Lib.hid h
  have HS := Lib.hid hs
  clear hn h hs
  go_enter Tryd.func76, Tryd.ntmps76
  go_wp2
  go_loopw [5, 6] (fun u i wr => ∃ (k r : Nat), k ≤ n ∧ i = .int .i64 (k : Int) ∧ u = .int .i64 (r : Int) ∧ Below w.heap.size w wr ∧ Cp r (sumF (fun c : Int × Tm => 1 + c.2.count) (ds.take k))) (fun _ i _ => n - (intOf i).toNat)
  case atStart => exact ⟨0, 0, Nat.zero_le _, rfl, rfl, Below.refl _ _, by simp [sumF, Cp]⟩
  case round =>
    obtain ⟨k, r, hk, rfl, rfl, hb, hcp⟩ := hrel
    have HCP := Lib.hid hcp
    clear hcp
    have hbz := hb.size
    have HB := Lib.hid hb
    by_cases hlt : k < n
    · by_cases hu : r ≤ 1500
      · obtain ⟨d, hd⟩ : ∃ d, ds[k]? = some d := ⟨_, List.getElem?_eq_getElem (by rw [HN.out]; exact hlt)⟩
        obtain ⟨b, o, rfl, hbB, hc⟩ := HL.out.2 (by have := HN.out; omega)
        obtain ⟨v, q1, q2, q3⟩ := hc k d hd
        obtain ⟨a0, a1, a2, a3, a4, rfl, f0, f1, f2, f3, f4⟩ := q2
        obtain ⟨i0, i1, i2, S0, S1, l0, m0, l1, m1, rfl, rfl, rfl, rfl, rfl⟩ := tm_cells5 q3
        have e0 := (hb.cell (p := ⟨b, o + k * 6 + 1, none⟩) hbB).trans f0
        have e1 := (hb.cell (p := ⟨b, o + k * 6 + 1 + 1, none⟩) hbB).trans f1
        have e2 := (hb.cell (p := ⟨b, o + k * 6 + 1 + 2, none⟩) hbB).trans f2
        have e3 := (hb.cell (p := ⟨b, o + k * 6 + 1 + 3, none⟩) hbB).trans f3
        have e4 := (hb.cell (p := ⟨b, o + k * 6 + 1 + 4, none⟩) hbB).trans f4
        have hst := sumF_take (f := fun c : Int × Tm => 1 + c.2.count) ds k d hd
        have hcb : d.2.count ≤ 1048576 := HS.out d (List.mem_of_getElem? hd)
        have HC := Lib.hid (termOf_any d.2 (HS.out d (List.mem_of_getElem? hd)) 1500 _ wr (by decide) (q3.below hb hbz))
        clear hc q1 q3 hd f0 f1 f2 f3 f4
        have ij0 : (0 : Int) ≤ (k : Int) := by omega
        have ij1 : (k : Int) < (n : Int) := by omega
        clear hb
        go_wp2_with (fail)
        refine HC.out.mono ?_
        rintro e w1 ⟨s, rfl, g1, g2, hb1⟩
        have HB1 : Hid (Below w.heap.size w w1) := HB.out.trans (hb1.mono hbz)
        have hcp := HCP.out
        have HN2 : Hid (Cp (r + 1 + s) (sumF (fun c : Int × Tm => 1 + c.2.count) (ds.take (k + 1)))) := by show Cp _ _; rw [hst]; unfold Cp at *; have g3 := g2; omega
        clear hb1 g2 hcp
        go_wp2
        go_roundw
        case rel => exact ⟨k + 1, r + 1 + s, by omega, by go_num, by go_num, HB1.out, HN2.out⟩
        case measure => simp [intOf]; omega
      · have hu2 : decide ((r : Int) ≤ 1500) = false := by rw [decide_eq_false_iff_not]; omega
        have hu9 : Hid (1500 < r) := by show _ < _; omega
        clear hb hu
        go_wp2
        go_ret
        have hcp := HCP.out
        have hle := sumF_take_le (f := fun c : Int × Tm => 1 + c.2.count) ds k
        exact ⟨r, rfl, by unfold Cp at hcp; omega, fun h => by have := hu9.out; omega, HB.out⟩
    · obtain rfl : n = k := by omega
      have hcp := HCP.out
      rw [List.take_of_length_le (Nat.le_of_eq HN.out)] at hcp
      have HCQ := Lib.hid hcp
      clear hb hcp
      go_wp2
      go_ret
      exact ⟨r, rfl, HCQ.out.1, HCQ.out.2, HB.out⟩
/-- how many parts a declaration has -/
def Dc.cn (d : Dc) : Nat := 1 + d.ty.count + d.bo.count + Tm.countL d.pars + (1 + d.sort.length) + sumF (fun m : List Tm => 1 + Tm.countL m) d.mems + sumF (fun c : Int × Tm => 1 + c.2.count) d.ctors
/-- its parts are not too many, all in all -/
def Dc.ok9 (d : Dc) : Prop := d.all ≤ 1048576
theorem Dc.ok_cn {d : Dc} (h : d.ok9) : d.cn ≤ 8388608 := by
  unfold Dc.ok9 Dc.all at h
  unfold Dc.cn
  omega
theorem all_cn : ∀ ds : List Dc, sumF Dc.cn ds ≤ 2 * sumF Dc.all ds
  | [] => by simp [sumF]
  | d :: ds => by
    have h := all_cn ds
    have h1 : d.cn ≤ 2 * d.all := by unfold Dc.cn Dc.all; omega
    simp only [sumF]
    omega
set_option maxRecDepth 100000 in
set_option maxHeartbeats 4000000 in
theorem declOf_cnt (d : Dc) (cs : Array Value) (w : World) (h : DcAt w w.heap.size d cs) (hok : d.ok9) :
    Calls Tryd.prog 48 #[.agg cs, .int .i64 1500] w (CountPost w d.cn 1500) := by
  obtain ⟨w1, hw1⟩ : ∃ x, w.alloc (.cells cs 43) = x := ⟨_, rfl⟩
  have hb1 : Below w.heap.size w w1 := by rw [← hw1]; exact (Below.refl _ _).alloc (Nat.le_refl _) _
  have x1 : w1.heap[w.heap.size]? = some (.cells cs 43 (0, 0)) := by rw [← hw1]; exact heap_alloc_new w _
  have hcn9 := Dc.ok_cn hok
  obtain ⟨o1, o2, o3, o4, o5, o6, o7, o8⟩ := Dc.all_ok hok
  obtain ⟨a0, a1, a2, a3, a4, b0, b1, b2, b3, b4, Ap, As, Am, Ac, cp, cz, cm, cc, rfl, h1, h2, h3, h4, h5, h6, h7⟩ := h
  obtain ⟨np, hnp⟩ : ∃ x, d.pars.length = x := ⟨_, rfl⟩
  obtain ⟨nz, hnz⟩ : ∃ x, d.sort.length = x := ⟨_, rfl⟩
  obtain ⟨nm, hnm⟩ : ∃ x, d.mems.length = x := ⟨_, rfl⟩
  obtain ⟨nc, hnc⟩ : ∃ x, d.ctors.length = x := ⟨_, rfl⟩
  obtain ⟨kd, hkd⟩ : ∃ x, d.kind = x := ⟨_, rfl⟩
  obtain ⟨kl, hkl⟩ : ∃ x, d.lev = x := ⟨_, rfl⟩
  rw [hnp, hnz, hnm, hnc, hkd, hkl] at x1 hw1 ⊢
  have HT1 : Hid (∀ w', Below w1.heap.size w1 w' → Calls Tryd.prog 19 #[.agg #[a0, a1, a2, a3, a4], .int .i64 1500] w' (CountPost w' d.ty.count 1500)) := fun w' hx => termOf_any _ o1 1500 _ w' (by decide) (h1.below (hb1.trans (hx.mono hb1.size)) (hb1.trans (hx.mono hb1.size)).size)
  have HT2 : Hid (∀ w', Below w1.heap.size w1 w' → Calls Tryd.prog 19 #[.agg #[b0, b1, b2, b3, b4], .int .i64 1500] w' (CountPost w' d.bo.count 1500)) := fun w' hx => termOf_any _ o2 1500 _ w' (by decide) (h2.below (hb1.trans (hx.mono hb1.size)) (hb1.trans (hx.mono hb1.size)).size)
  have HT3 : Hid (∀ w', Below w1.heap.size w1 w' → Calls Tryd.prog 31 #[.slice Ap np cp, .int .i64 1500] w' (CountPost w' (Tm.countL d.pars) 1500)) := fun w' hx => termsOf_any _ Ap cp 1500 np w' hnp o3 (by decide) (h3.below (hb1.trans (hx.mono hb1.size)) (hb1.trans (hx.mono hb1.size)).size)
  have HT4 : Hid (∀ w', Calls Tryd.prog 49 #[.agg #[.slice As nz cz], .int .i64 1500] w' (CountPost w' (1 + nz) 1500)) := fun w' => levelOf_m As nz cz 1500 w' (by omega) (by decide)
  have HT5 : Hid (∀ w', Below w1.heap.size w1 w' → Calls Tryd.prog 75 #[.slice Am nm cm, .int .i64 1500] w' (CountPost w' (sumF (fun m : List Tm => 1 + Tm.countL m) d.mems) 1500)) := fun w' hx => membersOf_cnt d.mems Am cm nm w' hnm (by omega) o6 (h6.keep (hb1.trans (hx.mono hb1.size)).size fun p hp => (hb1.trans (hx.mono hb1.size)).cell hp)
  have HT6 : Hid (∀ w', Below w1.heap.size w1 w' → Calls Tryd.prog 76 #[.slice Ac nc cc, .int .i64 1500] w' (CountPost w' (sumF (fun c : Int × Tm => 1 + c.2.count) d.ctors) 1500)) := fun w' hx => ctorsOf_cnt d.ctors Ac cc nc w' hnc (by omega) o8 (h7.keep (hb1.trans (hx.mono hb1.size)).size fun p hp => (hb1.trans (hx.mono hb1.size)).cell hp)
  obtain ⟨c8, hc8⟩ : ∃ x, d.ty.count = x := ⟨_, rfl⟩
  obtain ⟨c13, hc13⟩ : ∃ x, d.bo.count = x := ⟨_, rfl⟩
  obtain ⟨c18, hc18⟩ : ∃ x, Tm.countL d.pars = x := ⟨_, rfl⟩
  obtain ⟨c23, hc23⟩ : ∃ x, 1 + nz = x := ⟨_, rfl⟩
  obtain ⟨c28, hc28⟩ : ∃ x, sumF (fun m : List Tm => 1 + Tm.countL m) d.mems = x := ⟨_, rfl⟩
  obtain ⟨c33, hc33⟩ : ∃ x, sumF (fun c : Int × Tm => 1 + c.2.count) d.ctors = x := ⟨_, rfl⟩
  have HCN : Hid (d.cn = 1 + c8 + c13 + c18 + c23 + c28 + c33) := by
    show _ = _
    unfold Dc.cn
    rw [hc8, hc13, hc18, hnz, hc23, hc28, hc33]
  rw [hc8] at HT1
  rw [hc13] at HT2
  rw [hc18] at HT3
  rw [hc23] at HT4
  rw [hc28] at HT5
  rw [hc33] at HT6
  rw [HCN.out] at hcn9
  have HB1 := Lib.hid hb1
  have l1 := heap_some_lt x1
  clear h1 h2 h3 h4 h5 h6 h7 hb1 o1 o2 o3 o4 o5 o6 o7 o8 hnp hnz hnm hnc hkd hkl hok hc8 hc13 hc18 hc23 hc28 hc33
  go_enter Tryd.func48, Tryd.ntmps48
  go_upto_region 1 with (fail)
  have hS : Below w1.heap.size w1 w1.drew := (Below.refl _ _).drew
  refine wp_region_tab (fun w' => Below w1.heap.size w1 w') (fun w1 w2 : World => Below w1.heap.size w1 w2) [(fun (x : Value) (_ : World) => x = (.pointer (some ⟨w.heap.size, 2, none⟩) : Value)), (fun (x : Value) (_ : World) => x = (.agg #[a0, a1, a2, a3, a4] : Value)), (fun (x : Value) (_ : World) => x = (.int .i64 1500 : Value)), (fun (x : Value) (w : World) => ∃ r : Nat, x = .int .i64 (r : Int) ∧ Cp r c8), (fun (x : Value) (w : World) => ∃ r : Nat, x = .int .i64 (r : Int) ∧ Cp r (1 + c8)), (fun (x : Value) (_ : World) => x = (.pointer (some ⟨w.heap.size, 7, none⟩) : Value)), (fun (x : Value) (_ : World) => x = (.agg #[b0, b1, b2, b3, b4] : Value)), (fun (x : Value) (_ : World) => x = (.int .i64 1500 : Value)), (fun (x : Value) (w : World) => ∃ r : Nat, x = .int .i64 (r : Int) ∧ Cp r c13), (fun (x : Value) (w : World) => ∃ r : Nat, x = .int .i64 (r : Int) ∧ Cp r (1 + c8 + c13)), (fun (x : Value) (_ : World) => x = (.pointer (some ⟨w.heap.size, 12, none⟩) : Value)), (fun (x : Value) (_ : World) => x = (.slice Ap np cp : Value)), (fun (x : Value) (_ : World) => x = (.int .i64 1500 : Value)), (fun (x : Value) (w : World) => ∃ r : Nat, x = .int .i64 (r : Int) ∧ Cp r c18), (fun (x : Value) (w : World) => ∃ r : Nat, x = .int .i64 (r : Int) ∧ Cp r (1 + c8 + c13 + c18)), (fun (x : Value) (_ : World) => x = (.pointer (some ⟨w.heap.size, 13, none⟩) : Value)), (fun (x : Value) (_ : World) => x = (.agg #[.slice As nz cz] : Value)), (fun (x : Value) (_ : World) => x = (.int .i64 1500 : Value)), (fun (x : Value) (w : World) => ∃ r : Nat, x = .int .i64 (r : Int) ∧ Cp r c23), (fun (x : Value) (w : World) => ∃ r : Nat, x = .int .i64 (r : Int) ∧ Cp r (1 + c8 + c13 + c18 + c23)), (fun (x : Value) (_ : World) => x = (.pointer (some ⟨w.heap.size, 14, none⟩) : Value)), (fun (x : Value) (_ : World) => x = (.slice Am nm cm : Value)), (fun (x : Value) (_ : World) => x = (.int .i64 1500 : Value)), (fun (x : Value) (w : World) => ∃ r : Nat, x = .int .i64 (r : Int) ∧ Cp r c28), (fun (x : Value) (w : World) => ∃ r : Nat, x = .int .i64 (r : Int) ∧ Cp r (1 + c8 + c13 + c18 + c23 + c28)), (fun (x : Value) (_ : World) => x = (.pointer (some ⟨w.heap.size, 15, none⟩) : Value)), (fun (x : Value) (_ : World) => x = (.slice Ac nc cc : Value)), (fun (x : Value) (_ : World) => x = (.int .i64 1500 : Value)), (fun (x : Value) (w : World) => ∃ r : Nat, x = .int .i64 (r : Int) ∧ Cp r c33), (fun (x : Value) (w : World) => ∃ r : Nat, x = .int .i64 (r : Int) ∧ Cp r (1 + c8 + c13 + c18 + c23 + c28 + c33)), (fun (x : Value) (w : World) => ∃ r : Nat, x = .int .i64 (r : Int) ∧ Cp r (1 + c8 + c13 + c18 + c23 + c28 + c33))] [⟨some 5, .fieldAddr 43 (.tmp 2) 2, none, []⟩, ⟨some 6, .load 27 (.tmp 5), none, [(5, 0)]⟩, ⟨some 7, .move (.tmp 1), none, []⟩, ⟨some 8, .call { callee := .value (.func 19), args := #[.tmp 6, .tmp 7], argTypes := #[27, 3] }, none, [(6, 1), (7, 2)]⟩, ⟨some 9, .binOp .add 3 (.const (.int .i64 1)) (.tmp 8) 3, none, [(8, 3)]⟩, ⟨some 10, .fieldAddr 43 (.tmp 2) 3, none, []⟩, ⟨some 11, .load 27 (.tmp 10), none, [(10, 5)]⟩, ⟨some 12, .move (.tmp 1), none, []⟩, ⟨some 13, .call { callee := .value (.func 19), args := #[.tmp 11, .tmp 12], argTypes := #[27, 3] }, none, [(11, 6), (12, 7)]⟩, ⟨some 14, .binOp .add 3 (.tmp 9) (.tmp 13) 3, none, [(9, 4), (13, 8)]⟩, ⟨some 15, .fieldAddr 43 (.tmp 2) 4, none, []⟩, ⟨some 16, .load 25 (.tmp 15), none, [(15, 10)]⟩, ⟨some 17, .move (.tmp 1), none, []⟩, ⟨some 18, .call { callee := .value (.func 31), args := #[.tmp 16, .tmp 17], argTypes := #[25, 3] }, none, [(16, 11), (17, 12)]⟩, ⟨some 19, .binOp .add 3 (.tmp 14) (.tmp 18) 3, none, [(14, 9), (18, 13)]⟩, ⟨some 20, .fieldAddr 43 (.tmp 2) 5, none, []⟩, ⟨some 21, .load 39 (.tmp 20), none, [(20, 15)]⟩, ⟨some 22, .move (.tmp 1), none, []⟩, ⟨some 23, .call { callee := .value (.func 49), args := #[.tmp 21, .tmp 22], argTypes := #[39, 3] }, none, [(21, 16), (22, 17)]⟩, ⟨some 24, .binOp .add 3 (.tmp 19) (.tmp 23) 3, none, [(19, 14), (23, 18)]⟩, ⟨some 25, .fieldAddr 43 (.tmp 2) 6, none, []⟩, ⟨some 26, .load 40 (.tmp 25), none, [(25, 20)]⟩, ⟨some 27, .move (.tmp 1), none, []⟩, ⟨some 28, .call { callee := .value (.func 75), args := #[.tmp 26, .tmp 27], argTypes := #[40, 3] }, none, [(26, 21), (27, 22)]⟩, ⟨some 29, .binOp .add 3 (.tmp 24) (.tmp 28) 3, none, [(24, 19), (28, 23)]⟩, ⟨some 30, .fieldAddr 43 (.tmp 2) 7, none, []⟩, ⟨some 31, .load 41 (.tmp 30), none, [(30, 25)]⟩, ⟨some 32, .move (.tmp 1), none, []⟩, ⟨some 33, .call { callee := .value (.func 76), args := #[.tmp 31, .tmp 32], argTypes := #[41, 3] }, none, [(31, 26), (32, 27)]⟩, ⟨some 34, .binOp .add 3 (.tmp 29) (.tmp 33) 3, none, [(29, 24), (33, 28)]⟩, ⟨some 4, .assign (.tmp 34), none, [(34, 29)]⟩] [some 5, some 6, some 7, some 8, some 9, some 10, some 11, some 12, some 13, some 14, some 15, some 16, some 17, some 18, some 19, some 20, some 21, some 22, some 23, some 24, some 25, some 26, some 27, some 28, some 29, some 30, some 31, some 32, some 33, some 34, some 4] (by kernel_rfl) (by kernel_rfl) (by kernel_rfl) (by kernel_rfl) (by kernel_rfl) ?hS ?hmono ?hsteps ?hfin
  case hS => exact hS
  case hmono =>
    refine MonoL.cons (fun x w1 w2 _ _ _ hx => hx) ?_
    refine MonoL.cons (fun x w1 w2 _ _ _ hx => hx) ?_
    refine MonoL.cons (fun x w1 w2 _ _ _ hx => hx) ?_
    refine MonoL.cons (fun x w1 w2 _ _ hR hx => ?_) ?_
    · exact hx
    refine MonoL.cons (fun x w1 w2 _ _ hR hx => ?_) ?_
    · exact hx
    refine MonoL.cons (fun x w1 w2 _ _ _ hx => hx) ?_
    refine MonoL.cons (fun x w1 w2 _ _ _ hx => hx) ?_
    refine MonoL.cons (fun x w1 w2 _ _ _ hx => hx) ?_
    refine MonoL.cons (fun x w1 w2 _ _ hR hx => ?_) ?_
    · exact hx
    refine MonoL.cons (fun x w1 w2 _ _ hR hx => ?_) ?_
    · exact hx
    refine MonoL.cons (fun x w1 w2 _ _ _ hx => hx) ?_
    refine MonoL.cons (fun x w1 w2 _ _ _ hx => hx) ?_
    refine MonoL.cons (fun x w1 w2 _ _ _ hx => hx) ?_
    refine MonoL.cons (fun x w1 w2 _ _ hR hx => ?_) ?_
    · exact hx
    refine MonoL.cons (fun x w1 w2 _ _ hR hx => ?_) ?_
    · exact hx
    refine MonoL.cons (fun x w1 w2 _ _ _ hx => hx) ?_
    refine MonoL.cons (fun x w1 w2 _ _ _ hx => hx) ?_
    refine MonoL.cons (fun x w1 w2 _ _ _ hx => hx) ?_
    refine MonoL.cons (fun x w1 w2 _ _ hR hx => ?_) ?_
    · exact hx
    refine MonoL.cons (fun x w1 w2 _ _ hR hx => ?_) ?_
    · exact hx
    refine MonoL.cons (fun x w1 w2 _ _ _ hx => hx) ?_
    refine MonoL.cons (fun x w1 w2 _ _ _ hx => hx) ?_
    refine MonoL.cons (fun x w1 w2 _ _ _ hx => hx) ?_
    refine MonoL.cons (fun x w1 w2 _ _ hR hx => ?_) ?_
    · exact hx
    refine MonoL.cons (fun x w1 w2 _ _ hR hx => ?_) ?_
    · exact hx
    refine MonoL.cons (fun x w1 w2 _ _ _ hx => hx) ?_
    refine MonoL.cons (fun x w1 w2 _ _ _ hx => hx) ?_
    refine MonoL.cons (fun x w1 w2 _ _ _ hx => hx) ?_
    refine MonoL.cons (fun x w1 w2 _ _ hR hx => ?_) ?_
    · exact hx
    refine MonoL.cons (fun x w1 w2 _ _ hR hx => ?_) ?_
    · exact hx
    refine MonoL.cons (fun x w1 w2 _ _ hR hx => ?_) ?_
    · exact hx
    exact MonoL.nil
  case hsteps =>
    refine StepsT.cons (fun (x : Value) (_ : World) => x = (.pointer (some ⟨w.heap.size, 2, none⟩) : Value)) [] rfl rfl (fun oq hop _ wq hQS => ?_) ?_
    · exact StepFrom.fieldAddr hop (p := (.pointer (some ⟨w.heap.size, 0, none⟩) : Value)) (by kernel_rfl) (dc_field2) (by kernel_rfl) hQS (Below.refl _ _) rfl
    refine StepsT.cons (fun (x : Value) (_ : World) => x = (.agg #[a0, a1, a2, a3, a4] : Value)) [(5, (fun (x : Value) (_ : World) => x = (.pointer (some ⟨w.heap.size, 2, none⟩) : Value)))] rfl rfl (fun oq hop _ wq hQS => ?_) ?_
    · refine StepFrom.more_eq ((.pointer (some ⟨w.heap.size, 2, none⟩) : Value)) ?_
      exact StepFrom.load hop (p := (.pointer (some ⟨w.heap.size, 2, none⟩) : Value)) (by kernel_rfl) (load_tm_at ((hQS.block _ l1).trans x1) rfl rfl rfl rfl rfl) (by kernel_rfl) hQS (Below.refl _ _) rfl
    refine StepsT.cons (fun (x : Value) (_ : World) => x = (.int .i64 1500 : Value)) [] rfl rfl (fun oq hop _ wq hQS => ?_) ?_
    · exact StepFrom.move hop (v := (.int .i64 1500 : Value)) (by kernel_rfl) (by kernel_rfl) hQS (Below.refl _ _) rfl
    refine StepsT.cons (fun (x : Value) (w : World) => ∃ r : Nat, x = .int .i64 (r : Int) ∧ Cp r c8) [(6, (fun (x : Value) (_ : World) => x = (.agg #[a0, a1, a2, a3, a4] : Value))), (7, (fun (x : Value) (_ : World) => x = (.int .i64 1500 : Value)))] rfl rfl (fun oq hop _ wq hQS => ?_) ?_
    · refine StepFrom.more_eq ((.agg #[a0, a1, a2, a3, a4] : Value)) ?_
      refine StepFrom.more_eq ((.int .i64 1500 : Value)) ?_
      exact StepFrom.call hop (vs := [(.agg #[a0, a1, a2, a3, a4] : Value), (.int .i64 1500 : Value)]) (by kernel_rfl) (fun w => enter_termOf9 _ w) (by kernel_rfl) ((HT1.out wq hQS).mono fun e w9 h9 => by obtain ⟨s, q1, q2, q4, q3⟩ := h9; exact ⟨_, q1, hQS.trans (q3.mono hQS.size), q3, _, rfl, q2, q4⟩)
    refine StepsT.cons (fun (x : Value) (w : World) => ∃ r : Nat, x = .int .i64 (r : Int) ∧ Cp r (1 + c8)) [(8, (fun (x : Value) (w : World) => ∃ r : Nat, x = .int .i64 (r : Int) ∧ Cp r c8))] rfl rfl (fun oq hop _ wq hQS => ?_) ?_
    · refine StepFrom.more fun x8 h8 => ?_
      obtain ⟨r8, rfl, g8⟩ := h8
      exact StepFrom.bin hop (vx := (.int .i64 1 : Value)) (vy := (.int .i64 (r8 : Int) : Value)) (by kernel_rfl) (by kernel_rfl) (add_wrap9 _ _ _ _ _) (by kernel_rfl) hQS (Below.refl _ _) (by exact ⟨1 + r8, congrArg (Value.int IntKind.i64) (cp_add (r := 1) (s := r8) (by have := g8.1; omega)), by have := g8; unfold Cp at *; omega⟩)
    refine StepsT.cons (fun (x : Value) (_ : World) => x = (.pointer (some ⟨w.heap.size, 7, none⟩) : Value)) [] rfl rfl (fun oq hop _ wq hQS => ?_) ?_
    · exact StepFrom.fieldAddr hop (p := (.pointer (some ⟨w.heap.size, 0, none⟩) : Value)) (by kernel_rfl) (dc_field3) (by kernel_rfl) hQS (Below.refl _ _) rfl
    refine StepsT.cons (fun (x : Value) (_ : World) => x = (.agg #[b0, b1, b2, b3, b4] : Value)) [(10, (fun (x : Value) (_ : World) => x = (.pointer (some ⟨w.heap.size, 7, none⟩) : Value)))] rfl rfl (fun oq hop _ wq hQS => ?_) ?_
    · refine StepFrom.more_eq ((.pointer (some ⟨w.heap.size, 7, none⟩) : Value)) ?_
      exact StepFrom.load hop (p := (.pointer (some ⟨w.heap.size, 7, none⟩) : Value)) (by kernel_rfl) (load_tm_at ((hQS.block _ l1).trans x1) rfl rfl rfl rfl rfl) (by kernel_rfl) hQS (Below.refl _ _) rfl
    refine StepsT.cons (fun (x : Value) (_ : World) => x = (.int .i64 1500 : Value)) [] rfl rfl (fun oq hop _ wq hQS => ?_) ?_
    · exact StepFrom.move hop (v := (.int .i64 1500 : Value)) (by kernel_rfl) (by kernel_rfl) hQS (Below.refl _ _) rfl
    refine StepsT.cons (fun (x : Value) (w : World) => ∃ r : Nat, x = .int .i64 (r : Int) ∧ Cp r c13) [(11, (fun (x : Value) (_ : World) => x = (.agg #[b0, b1, b2, b3, b4] : Value))), (12, (fun (x : Value) (_ : World) => x = (.int .i64 1500 : Value)))] rfl rfl (fun oq hop _ wq hQS => ?_) ?_
    · refine StepFrom.more_eq ((.agg #[b0, b1, b2, b3, b4] : Value)) ?_
      refine StepFrom.more_eq ((.int .i64 1500 : Value)) ?_
      exact StepFrom.call hop (vs := [(.agg #[b0, b1, b2, b3, b4] : Value), (.int .i64 1500 : Value)]) (by kernel_rfl) (fun w => enter_termOf9 _ w) (by kernel_rfl) ((HT2.out wq hQS).mono fun e w9 h9 => by obtain ⟨s, q1, q2, q4, q3⟩ := h9; exact ⟨_, q1, hQS.trans (q3.mono hQS.size), q3, _, rfl, q2, q4⟩)
    refine StepsT.cons (fun (x : Value) (w : World) => ∃ r : Nat, x = .int .i64 (r : Int) ∧ Cp r (1 + c8 + c13)) [(9, (fun (x : Value) (w : World) => ∃ r : Nat, x = .int .i64 (r : Int) ∧ Cp r (1 + c8))), (13, (fun (x : Value) (w : World) => ∃ r : Nat, x = .int .i64 (r : Int) ∧ Cp r c13))] rfl rfl (fun oq hop _ wq hQS => ?_) ?_
    · refine StepFrom.more fun x9 h9 => ?_
      obtain ⟨r9, rfl, g9⟩ := h9
      refine StepFrom.more fun x13 h13 => ?_
      obtain ⟨r13, rfl, g13⟩ := h13
      exact StepFrom.bin hop (vx := (.int .i64 (r9 : Int) : Value)) (vy := (.int .i64 (r13 : Int) : Value)) (by kernel_rfl) (by kernel_rfl) (add_wrap9 _ _ _ _ _) (by kernel_rfl) hQS (Below.refl _ _) (by exact ⟨r9 + r13, by rw [cp_add (by have := g9.1; have := g13.1; omega)], by have := g9; have := g13; unfold Cp at *; omega⟩)
    refine StepsT.cons (fun (x : Value) (_ : World) => x = (.pointer (some ⟨w.heap.size, 12, none⟩) : Value)) [] rfl rfl (fun oq hop _ wq hQS => ?_) ?_
    · exact StepFrom.fieldAddr hop (p := (.pointer (some ⟨w.heap.size, 0, none⟩) : Value)) (by kernel_rfl) (dc_field4) (by kernel_rfl) hQS (Below.refl _ _) rfl
    refine StepsT.cons (fun (x : Value) (_ : World) => x = (.slice Ap np cp : Value)) [(15, (fun (x : Value) (_ : World) => x = (.pointer (some ⟨w.heap.size, 12, none⟩) : Value)))] rfl rfl (fun oq hop _ wq hQS => ?_) ?_
    · refine StepFrom.more_eq ((.pointer (some ⟨w.heap.size, 12, none⟩) : Value)) ?_
      exact StepFrom.load hop (p := (.pointer (some ⟨w.heap.size, 12, none⟩) : Value)) (by kernel_rfl) (load_terms (cell_of_row _ _ 12 _ _ (0, 0) ((hQS.block _ l1).trans x1))) (by kernel_rfl) hQS (Below.refl _ _) rfl
    refine StepsT.cons (fun (x : Value) (_ : World) => x = (.int .i64 1500 : Value)) [] rfl rfl (fun oq hop _ wq hQS => ?_) ?_
    · exact StepFrom.move hop (v := (.int .i64 1500 : Value)) (by kernel_rfl) (by kernel_rfl) hQS (Below.refl _ _) rfl
    refine StepsT.cons (fun (x : Value) (w : World) => ∃ r : Nat, x = .int .i64 (r : Int) ∧ Cp r c18) [(16, (fun (x : Value) (_ : World) => x = (.slice Ap np cp : Value))), (17, (fun (x : Value) (_ : World) => x = (.int .i64 1500 : Value)))] rfl rfl (fun oq hop _ wq hQS => ?_) ?_
    · refine StepFrom.more_eq ((.slice Ap np cp : Value)) ?_
      refine StepFrom.more_eq ((.int .i64 1500 : Value)) ?_
      exact StepFrom.call hop (vs := [(.slice Ap np cp : Value), (.int .i64 1500 : Value)]) (by kernel_rfl) (fun w => enter_termsOf _ w) (by kernel_rfl) ((HT3.out wq hQS).mono fun e w9 h9 => by obtain ⟨s, q1, q2, q4, q3⟩ := h9; exact ⟨_, q1, hQS.trans (q3.mono hQS.size), q3, _, rfl, q2, q4⟩)
    refine StepsT.cons (fun (x : Value) (w : World) => ∃ r : Nat, x = .int .i64 (r : Int) ∧ Cp r (1 + c8 + c13 + c18)) [(14, (fun (x : Value) (w : World) => ∃ r : Nat, x = .int .i64 (r : Int) ∧ Cp r (1 + c8 + c13))), (18, (fun (x : Value) (w : World) => ∃ r : Nat, x = .int .i64 (r : Int) ∧ Cp r c18))] rfl rfl (fun oq hop _ wq hQS => ?_) ?_
    · refine StepFrom.more fun x14 h14 => ?_
      obtain ⟨r14, rfl, g14⟩ := h14
      refine StepFrom.more fun x18 h18 => ?_
      obtain ⟨r18, rfl, g18⟩ := h18
      exact StepFrom.bin hop (vx := (.int .i64 (r14 : Int) : Value)) (vy := (.int .i64 (r18 : Int) : Value)) (by kernel_rfl) (by kernel_rfl) (add_wrap9 _ _ _ _ _) (by kernel_rfl) hQS (Below.refl _ _) (by exact ⟨r14 + r18, by rw [cp_add (by have := g14.1; have := g18.1; omega)], by have := g14; have := g18; unfold Cp at *; omega⟩)
    refine StepsT.cons (fun (x : Value) (_ : World) => x = (.pointer (some ⟨w.heap.size, 13, none⟩) : Value)) [] rfl rfl (fun oq hop _ wq hQS => ?_) ?_
    · exact StepFrom.fieldAddr hop (p := (.pointer (some ⟨w.heap.size, 0, none⟩) : Value)) (by kernel_rfl) (dc_field5) (by kernel_rfl) hQS (Below.refl _ _) rfl
    refine StepsT.cons (fun (x : Value) (_ : World) => x = (.agg #[.slice As nz cz] : Value)) [(20, (fun (x : Value) (_ : World) => x = (.pointer (some ⟨w.heap.size, 13, none⟩) : Value)))] rfl rfl (fun oq hop _ wq hQS => ?_) ?_
    · refine StepFrom.more_eq ((.pointer (some ⟨w.heap.size, 13, none⟩) : Value)) ?_
      exact StepFrom.load hop (p := (.pointer (some ⟨w.heap.size, 13, none⟩) : Value)) (by kernel_rfl) (load_lev_in (cell_of_row _ _ 13 _ _ (0, 0) ((hQS.block _ l1).trans x1))) (by kernel_rfl) hQS (Below.refl _ _) rfl
    refine StepsT.cons (fun (x : Value) (_ : World) => x = (.int .i64 1500 : Value)) [] rfl rfl (fun oq hop _ wq hQS => ?_) ?_
    · exact StepFrom.move hop (v := (.int .i64 1500 : Value)) (by kernel_rfl) (by kernel_rfl) hQS (Below.refl _ _) rfl
    refine StepsT.cons (fun (x : Value) (w : World) => ∃ r : Nat, x = .int .i64 (r : Int) ∧ Cp r c23) [(21, (fun (x : Value) (_ : World) => x = (.agg #[.slice As nz cz] : Value))), (22, (fun (x : Value) (_ : World) => x = (.int .i64 1500 : Value)))] rfl rfl (fun oq hop _ wq hQS => ?_) ?_
    · refine StepFrom.more_eq ((.agg #[.slice As nz cz] : Value)) ?_
      refine StepFrom.more_eq ((.int .i64 1500 : Value)) ?_
      exact StepFrom.call hop (vs := [(.agg #[.slice As nz cz] : Value), (.int .i64 1500 : Value)]) (by kernel_rfl) (fun w => enter_levelOf9 _ w) (by kernel_rfl) ((HT4.out wq).mono fun e w9 h9 => by obtain ⟨s, q1, q2, q4, q3⟩ := h9; exact ⟨_, q1, hQS.trans (q3.mono hQS.size), q3, _, rfl, q2, q4⟩)
    refine StepsT.cons (fun (x : Value) (w : World) => ∃ r : Nat, x = .int .i64 (r : Int) ∧ Cp r (1 + c8 + c13 + c18 + c23)) [(19, (fun (x : Value) (w : World) => ∃ r : Nat, x = .int .i64 (r : Int) ∧ Cp r (1 + c8 + c13 + c18))), (23, (fun (x : Value) (w : World) => ∃ r : Nat, x = .int .i64 (r : Int) ∧ Cp r c23))] rfl rfl (fun oq hop _ wq hQS => ?_) ?_
    · refine StepFrom.more fun x19 h19 => ?_
      obtain ⟨r19, rfl, g19⟩ := h19
      refine StepFrom.more fun x23 h23 => ?_
      obtain ⟨r23, rfl, g23⟩ := h23
      exact StepFrom.bin hop (vx := (.int .i64 (r19 : Int) : Value)) (vy := (.int .i64 (r23 : Int) : Value)) (by kernel_rfl) (by kernel_rfl) (add_wrap9 _ _ _ _ _) (by kernel_rfl) hQS (Below.refl _ _) (by exact ⟨r19 + r23, by rw [cp_add (by have := g19.1; have := g23.1; omega)], by have := g19; have := g23; unfold Cp at *; omega⟩)
    refine StepsT.cons (fun (x : Value) (_ : World) => x = (.pointer (some ⟨w.heap.size, 14, none⟩) : Value)) [] rfl rfl (fun oq hop _ wq hQS => ?_) ?_
    · exact StepFrom.fieldAddr hop (p := (.pointer (some ⟨w.heap.size, 0, none⟩) : Value)) (by kernel_rfl) (dc_field6) (by kernel_rfl) hQS (Below.refl _ _) rfl
    refine StepsT.cons (fun (x : Value) (_ : World) => x = (.slice Am nm cm : Value)) [(25, (fun (x : Value) (_ : World) => x = (.pointer (some ⟨w.heap.size, 14, none⟩) : Value)))] rfl rfl (fun oq hop _ wq hQS => ?_) ?_
    · refine StepFrom.more_eq ((.pointer (some ⟨w.heap.size, 14, none⟩) : Value)) ?_
      exact StepFrom.load hop (p := (.pointer (some ⟨w.heap.size, 14, none⟩) : Value)) (by kernel_rfl) (load_mems (cell_of_row _ _ 14 _ _ (0, 0) ((hQS.block _ l1).trans x1))) (by kernel_rfl) hQS (Below.refl _ _) rfl
    refine StepsT.cons (fun (x : Value) (_ : World) => x = (.int .i64 1500 : Value)) [] rfl rfl (fun oq hop _ wq hQS => ?_) ?_
    · exact StepFrom.move hop (v := (.int .i64 1500 : Value)) (by kernel_rfl) (by kernel_rfl) hQS (Below.refl _ _) rfl
    refine StepsT.cons (fun (x : Value) (w : World) => ∃ r : Nat, x = .int .i64 (r : Int) ∧ Cp r c28) [(26, (fun (x : Value) (_ : World) => x = (.slice Am nm cm : Value))), (27, (fun (x : Value) (_ : World) => x = (.int .i64 1500 : Value)))] rfl rfl (fun oq hop _ wq hQS => ?_) ?_
    · refine StepFrom.more_eq ((.slice Am nm cm : Value)) ?_
      refine StepFrom.more_eq ((.int .i64 1500 : Value)) ?_
      exact StepFrom.call hop (vs := [(.slice Am nm cm : Value), (.int .i64 1500 : Value)]) (by kernel_rfl) (fun w => enter_membersOf9 _ w) (by kernel_rfl) ((HT5.out wq hQS).mono fun e w9 h9 => by obtain ⟨s, q1, q2, q4, q3⟩ := h9; exact ⟨_, q1, hQS.trans (q3.mono hQS.size), q3, _, rfl, q2, q4⟩)
    refine StepsT.cons (fun (x : Value) (w : World) => ∃ r : Nat, x = .int .i64 (r : Int) ∧ Cp r (1 + c8 + c13 + c18 + c23 + c28)) [(24, (fun (x : Value) (w : World) => ∃ r : Nat, x = .int .i64 (r : Int) ∧ Cp r (1 + c8 + c13 + c18 + c23))), (28, (fun (x : Value) (w : World) => ∃ r : Nat, x = .int .i64 (r : Int) ∧ Cp r c28))] rfl rfl (fun oq hop _ wq hQS => ?_) ?_
    · refine StepFrom.more fun x24 h24 => ?_
      obtain ⟨r24, rfl, g24⟩ := h24
      refine StepFrom.more fun x28 h28 => ?_
      obtain ⟨r28, rfl, g28⟩ := h28
      exact StepFrom.bin hop (vx := (.int .i64 (r24 : Int) : Value)) (vy := (.int .i64 (r28 : Int) : Value)) (by kernel_rfl) (by kernel_rfl) (add_wrap9 _ _ _ _ _) (by kernel_rfl) hQS (Below.refl _ _) (by exact ⟨r24 + r28, by rw [cp_add (by have := g24.1; have := g28.1; omega)], by have := g24; have := g28; unfold Cp at *; omega⟩)
    refine StepsT.cons (fun (x : Value) (_ : World) => x = (.pointer (some ⟨w.heap.size, 15, none⟩) : Value)) [] rfl rfl (fun oq hop _ wq hQS => ?_) ?_
    · exact StepFrom.fieldAddr hop (p := (.pointer (some ⟨w.heap.size, 0, none⟩) : Value)) (by kernel_rfl) (dc_field7) (by kernel_rfl) hQS (Below.refl _ _) rfl
    refine StepsT.cons (fun (x : Value) (_ : World) => x = (.slice Ac nc cc : Value)) [(30, (fun (x : Value) (_ : World) => x = (.pointer (some ⟨w.heap.size, 15, none⟩) : Value)))] rfl rfl (fun oq hop _ wq hQS => ?_) ?_
    · refine StepFrom.more_eq ((.pointer (some ⟨w.heap.size, 15, none⟩) : Value)) ?_
      exact StepFrom.load hop (p := (.pointer (some ⟨w.heap.size, 15, none⟩) : Value)) (by kernel_rfl) (load_ctors (cell_of_row _ _ 15 _ _ (0, 0) ((hQS.block _ l1).trans x1))) (by kernel_rfl) hQS (Below.refl _ _) rfl
    refine StepsT.cons (fun (x : Value) (_ : World) => x = (.int .i64 1500 : Value)) [] rfl rfl (fun oq hop _ wq hQS => ?_) ?_
    · exact StepFrom.move hop (v := (.int .i64 1500 : Value)) (by kernel_rfl) (by kernel_rfl) hQS (Below.refl _ _) rfl
    refine StepsT.cons (fun (x : Value) (w : World) => ∃ r : Nat, x = .int .i64 (r : Int) ∧ Cp r c33) [(31, (fun (x : Value) (_ : World) => x = (.slice Ac nc cc : Value))), (32, (fun (x : Value) (_ : World) => x = (.int .i64 1500 : Value)))] rfl rfl (fun oq hop _ wq hQS => ?_) ?_
    · refine StepFrom.more_eq ((.slice Ac nc cc : Value)) ?_
      refine StepFrom.more_eq ((.int .i64 1500 : Value)) ?_
      exact StepFrom.call hop (vs := [(.slice Ac nc cc : Value), (.int .i64 1500 : Value)]) (by kernel_rfl) (fun w => enter_ctorsOf9 _ w) (by kernel_rfl) ((HT6.out wq hQS).mono fun e w9 h9 => by obtain ⟨s, q1, q2, q4, q3⟩ := h9; exact ⟨_, q1, hQS.trans (q3.mono hQS.size), q3, _, rfl, q2, q4⟩)
    refine StepsT.cons (fun (x : Value) (w : World) => ∃ r : Nat, x = .int .i64 (r : Int) ∧ Cp r (1 + c8 + c13 + c18 + c23 + c28 + c33)) [(29, (fun (x : Value) (w : World) => ∃ r : Nat, x = .int .i64 (r : Int) ∧ Cp r (1 + c8 + c13 + c18 + c23 + c28))), (33, (fun (x : Value) (w : World) => ∃ r : Nat, x = .int .i64 (r : Int) ∧ Cp r c33))] rfl rfl (fun oq hop _ wq hQS => ?_) ?_
    · refine StepFrom.more fun x29 h29 => ?_
      obtain ⟨r29, rfl, g29⟩ := h29
      refine StepFrom.more fun x33 h33 => ?_
      obtain ⟨r33, rfl, g33⟩ := h33
      exact StepFrom.bin hop (vx := (.int .i64 (r29 : Int) : Value)) (vy := (.int .i64 (r33 : Int) : Value)) (by kernel_rfl) (by kernel_rfl) (add_wrap9 _ _ _ _ _) (by kernel_rfl) hQS (Below.refl _ _) (by exact ⟨r29 + r33, by rw [cp_add (by have := g29.1; have := g33.1; omega)], by have := g29; have := g33; unfold Cp at *; omega⟩)
    refine StepsT.cons (fun (x : Value) (w : World) => ∃ r : Nat, x = .int .i64 (r : Int) ∧ Cp r (1 + c8 + c13 + c18 + c23 + c28 + c33)) [(34, (fun (x : Value) (w : World) => ∃ r : Nat, x = .int .i64 (r : Int) ∧ Cp r (1 + c8 + c13 + c18 + c23 + c28 + c33)))] rfl rfl (fun oq hop _ wq hQS => ?_) ?_
    · refine StepFrom.more fun x34 h34 => ?_
      obtain ⟨r34, rfl, g34⟩ := h34
      exact StepFrom.assign hop (v := (.int .i64 (r34 : Int) : Value)) (by kernel_rfl) (by kernel_rfl) hQS (Below.refl _ _) ⟨_, rfl, g34⟩
    exact StepsT.nil
  case hfin =>
    intro wf hFS
    refine FinalFrom.more fun x5 h5 => ?_
    refine FinalFrom.more fun x6 h6 => ?_
    refine FinalFrom.more fun x7 h7 => ?_
    refine FinalFrom.more fun x8 h8 => ?_
    refine FinalFrom.more fun x9 h9 => ?_
    refine FinalFrom.more fun x10 h10 => ?_
    refine FinalFrom.more fun x11 h11 => ?_
    refine FinalFrom.more fun x12 h12 => ?_
    refine FinalFrom.more fun x13 h13 => ?_
    refine FinalFrom.more fun x14 h14 => ?_
    refine FinalFrom.more fun x15 h15 => ?_
    refine FinalFrom.more fun x16 h16 => ?_
    refine FinalFrom.more fun x17 h17 => ?_
    refine FinalFrom.more fun x18 h18 => ?_
    refine FinalFrom.more fun x19 h19 => ?_
    refine FinalFrom.more fun x20 h20 => ?_
    refine FinalFrom.more fun x21 h21 => ?_
    refine FinalFrom.more fun x22 h22 => ?_
    refine FinalFrom.more fun x23 h23 => ?_
    refine FinalFrom.more fun x24 h24 => ?_
    refine FinalFrom.more fun x25 h25 => ?_
    refine FinalFrom.more fun x26 h26 => ?_
    refine FinalFrom.more fun x27 h27 => ?_
    refine FinalFrom.more fun x28 h28 => ?_
    refine FinalFrom.more fun x29 h29 => ?_
    refine FinalFrom.more fun x30 h30 => ?_
    refine FinalFrom.more fun x31 h31 => ?_
    refine FinalFrom.more fun x32 h32 => ?_
    refine FinalFrom.more fun x33 h33 => ?_
    refine FinalFrom.more fun x34 h34 => ?_
    refine FinalFrom.more fun x4 h4 => ?_
    refine FinalFrom.done ?_
    obtain ⟨r, rfl, g4⟩ := h4
    have HF : Hid (CountPost w d.cn 1500 (.returned (.int .i64 (r : Int))) wf) := ⟨_, rfl, by rw [HCN.out]; exact g4.1, by rw [HCN.out]; exact g4.2, HB1.out.trans (hFS.mono HB1.out.size)⟩
    clear hS hFS
    simp only [Act.put, List.setIfInBounds_toArray, List.set_cons_zero, List.set_cons_succ]
    go_wp2
    go_ret
    exact HF.out
set_option maxRecDepth 100000 in
set_option maxHeartbeats 2000000 in
theorem declsOf_cnt (ds : List Dc) (A : Option Addr) (c n : Nat) (w : World) (hn : ds.length = n) (hn9 : n ≤ 1048576) (hs : ∀ m ∈ ds, m.ok9) (h : Dcs w w.heap.size A c ds) :
    Calls Tryd.prog 18 #[.slice A n c, .int .i64 1500] w (CountPost w (sumF (Dc.cn) ds) 1500) := by
  have HN := Lib.hid hn
  have HL := Lib.hid h
  have HS := Lib.hid hs
  clear hn h hs
  go_enter Tryd.func18, Tryd.ntmps18
  go_wp2
  go_loopw [5, 6] (fun u i wr => ∃ (k r : Nat), k ≤ n ∧ i = .int .i64 (k : Int) ∧ u = .int .i64 (r : Int) ∧ Below w.heap.size w wr ∧ Cp r (sumF (Dc.cn) (ds.take k))) (fun _ i _ => n - (intOf i).toNat)
  case atStart => exact ⟨0, 0, Nat.zero_le _, rfl, rfl, Below.refl _ _, by simp [sumF, Cp]⟩
  case round =>
    obtain ⟨k, r, hk, rfl, rfl, hb, hcp⟩ := hrel
    have HCP := Lib.hid hcp
    clear hcp
    have hbz := hb.size
    have HB := Lib.hid hb
    by_cases hlt : k < n
    · by_cases hu : r ≤ 1500
      · obtain ⟨d, hd⟩ : ∃ d, ds[k]? = some d := ⟨_, List.getElem?_eq_getElem (by rw [HN.out]; exact hlt)⟩
        obtain ⟨b, o, cs, rfl, hbB, hdc, _, hld⟩ := HL.out.get hd
        have hld1 := hld wr hb
        have hst := sumF_take (f := Dc.cn) ds k d hd
        have hcb : d.cn ≤ 8388608 := Dc.ok_cn (HS.out d (List.mem_of_getElem? hd))
        have HC := Lib.hid (declOf_cnt d cs wr (hdc.below hb hbz) (HS.out d (List.mem_of_getElem? hd)))
        clear hdc hld hd
        have ij0 : (0 : Int) ≤ (k : Int) := by omega
        have ij1 : (k : Int) < (n : Int) := by omega
        clear hb
        go_wp2_with (first | (refine wpList_load_at rfl 43 (.tmp 21) rfl (.pointer (some ⟨b, o + k * 16, none⟩)) _ rfl hld1 ?_) | fail)
        refine HC.out.mono ?_
        rintro e w1 ⟨s, rfl, g1, g2, hb1⟩
        have HB1 : Hid (Below w.heap.size w w1) := HB.out.trans (hb1.mono hbz)
        have hcp := HCP.out
        have HN2 : Hid (Cp (r + s) (sumF (Dc.cn) (ds.take (k + 1)))) := by show Cp _ _; rw [hst]; unfold Cp at *; have g3 := g2; omega
        clear hb1 g2 hcp
        go_wp2
        go_roundw
        case rel => exact ⟨k + 1, r + s, by omega, by go_num, by go_num, HB1.out, HN2.out⟩
        case measure => simp [intOf]; omega
      · have hu2 : decide ((r : Int) ≤ 1500) = false := by rw [decide_eq_false_iff_not]; omega
        have hu9 : Hid (1500 < r) := by show _ < _; omega
        clear hb hu
        go_wp2
        go_ret
        have hcp := HCP.out
        have hle := sumF_take_le (f := Dc.cn) ds k
        exact ⟨r, rfl, by unfold Cp at hcp; omega, fun h => by have := hu9.out; omega, HB.out⟩
    · obtain rfl : n = k := by omega
      have hcp := HCP.out
      rw [List.take_of_length_le (Nat.le_of_eq HN.out)] at hcp
      have HCQ := Lib.hid hcp
      clear hb hcp
      go_wp2
      go_ret
      exact ⟨r, rfl, HCQ.out.1, HCQ.out.2, HB.out⟩
end Go.Proofs.YtfgnnbpbbnnnhaaDoor
namespace Go.Proofs.YtfgnnbpbbnnnhaaDoor
open Go.ChangeShapes Go.WideShapes Go.ChangeAt Go.RowKit Go.Deep
theorem up_len : ∀ (l : List (Int × Int)) (U : List Int), l.Pairwise (fun p q => p.1 < q.1) → (∀ p ∈ l, p.1 ∈ U) → l.length ≤ U.length
  | [], U, _, _ => by simp
  | p :: l, U, h, hm => by
    rw [List.pairwise_cons] at h
    have h1 := hm p (by simp)
    have h2 := up_len l (U.erase p.1) h.2 fun q hq => (List.mem_erase_of_ne (by have := h.1 q hq; omega)).2 (hm q (by simp [hq]))
    rw [List.length_erase_of_mem h1] at h2
    have h3 := List.length_pos_of_mem h1
    simp only [List.length_cons]
    omega
theorem nfA_mem {ps : List (Int × Int)} {p : Int × Int} (h : p ∈ nfA ps) : p ∈ ps := by
  unfold nfA at h
  split at h
  · rename_i hok
    exact nf_mem (fun q hq => (hok q hq).1) h
  · cases h
theorem putL_tight (bys : List (List (Int × Int))) (l : List (Int × Int)) : (putL bys l).length ≤ 1 + bys.flatten.length := by
  have hU : (0 :: bys.flatten.map (·.1)).length = 1 + bys.flatten.length := by simp only [List.length_cons, List.length_map]; omega
  rw [← hU]
  have hm : ∀ p ∈ putS (nfA l) bys, p.1 ∈ 0 :: bys.flatten.map (·.1) := fun p hp => by
    unfold putS at hp
    obtain ⟨r, hr, hp⟩ := List.mem_flatten.1 hp
    obtain ⟨q, _, rfl⟩ := List.mem_map.1 hr
    unfold raiseS at hp
    split at hp
    · simp at hp
      simp [hp]
    · obtain ⟨z, hz, rfl⟩ := List.mem_map.1 hp
      unfold forVar at hz
      split at hz
      · have hz := nfA_mem hz
        refine List.mem_cons_of_mem _ (List.mem_map.2 ⟨z, ?_, rfl⟩)
        rw [List.getD_eq_getElem?_getD] at hz
        cases e : bys[(q.1 - 1).toNat]? with
        | none => rw [e] at hz; cases hz
        | some b =>
          rw [e] at hz
          exact List.mem_flatten.2 ⟨b, List.mem_of_getElem? e, hz⟩
      · cases hz
  unfold putL
  generalize putS (nfA l) bys = ps at hm ⊢
  unfold nfA
  split
  · rename_i hok
    exact up_len _ _ (nf_level fun q hq => (hok q hq).1).1 fun p hp => hm p (nf_mem (fun q hq => (hok q hq).1) hp)
  · simp
mutual
theorem fit_tight {bys : List (List (Int × Int))} (h : bys.flatten.length ≤ 900000) : ∀ (t : Tm) (d : Nat), t.fit → (t.walk (levT bys) d).fit
  | .mk k n a lv kids, d, hf => by
    rw [Tm.fit_mk] at hf
    rw [Tm.walk_go (tr := levT bys) rfl, Tm.fit_mk, Tm.walkL_length]
    refine ⟨hf.1, ⟨by rw [List.length_map]; exact hf.2.1.1, fun l hl => ?_⟩, hf.2.2.1, fitL_tight h kids d k 0 hf.2.2.2⟩
    obtain ⟨x, _, rfl⟩ := List.mem_map.1 hl
    have := putL_tight bys x
    omega
theorem fitL_tight {bys : List (List (Int × Int))} (h : bys.flatten.length ≤ 900000) : ∀ (ts : List Tm) (d : Nat) (k : Int) (i : Nat), Tm.fitL ts → Tm.fitL (Tm.walkL (levT bys) d k i ts)
  | [], d, k, i, hf => by rw [Tm.walkL]; exact hf
  | t :: ts, d, k, i, hf => by
    rw [Tm.walkL, Tm.fitL]
    rw [Tm.fitL] at hf
    exact ⟨fit_tight h t _ hf.1, fitL_tight h ts d k _ hf.2⟩
end
theorem three_flat : ∀ ls : List (List (Int × Int)), ls.flatten.length * 3 ≤ sumF (fun l : List (Int × Int) => 1 + l.length * 3) ls ∧ lensSum ls ≤ sumF (fun l : List (Int × Int) => 1 + l.length * 3) ls
  | [] => by simp [sumF, lensSum]
  | l :: ls => by
    have := three_flat ls
    simp only [List.flatten_cons, List.length_append, sumF, lensSum]
    omega
set_option maxRecDepth 100000 in
/-- an argument that is a row of levels -/
theorem open_levels9 {H : Type} {enc : TypeId × Value → H} {w : World} {r : Reach} {b0 : Nat} {v : Value} {d : DataW H} {p : List MemPlace} (hv : Value.okWide Tryd.prog w r b0 24 v) (h : DataW.Trod enc Tryd.prog w 0 (fun _ => true) true 24 v d p) (hN : Rows.uptoBulk d ≤ 1048576) :
    ∃ (A : Option Addr) (ls : List (List (Int × Int))) (c : Nat), v = .slice A ls.length c ∧ Levs w w.heap.size A ls ∧ Bys ls ∧ sumF (fun l : List (Int × Int) => 1 + l.length * 3) ls ≤ Rows.uptoBulk d := by
  obtain ⟨a0, len0, cap0, rfl⟩ := okWide_slice Tryd.underlying24 hv
  obtain ⟨fuel, hf⟩ := h
  have hC2 : Tryd.prog.cellsOf 37 = 1 := by kernel_rfl
  rcases open_elems (α := List (Int × Int)) (fun cs d q => (∃ B c', cs = [.slice B q.length c'] ∧ (B = none → c' = 0) ∧ Lev w w.heap.size B q) ∧ 1 + q.length * 3 ≤ Rows.uptoBulk d) Tryd.underlying24 (show Tryd.prog.cellsOf 39 = 1 by kernel_rfl) (by decide) (c := .slice a0 len0 cap0) (x := (d, p)) (fuel := fuel) (by simpa [Value.cells] using hf) (fun n cs y _ hl hy => by
    obtain ⟨c', rfl⟩ : ∃ c', cs = [c'] := by
      match cs, hl with
      | [c'], _ => exact ⟨c', rfl⟩
    obtain ⟨y0, n', hy1, _, h0⟩ := trod_struct1 Tryd.underlying39 hy
    obtain ⟨B, ps, k, rfl, q1, q2, q3, _, _⟩ := open_parts (c := c') (x := y0) (fuel := n') (by simpa [hC2] using h0)
    refine ⟨ps, ⟨B, k, rfl, q1, q2⟩, ?_⟩
    rw [hy1]
    have := bulk_one y0.1
    simp only [Rows.uptoBulk, Rows.uptoBulkAll]
    omega) with e4 | ⟨a, len, cap, D, q, e4, hb, hp, hi⟩
  · injection e4 with e5 e6 e7
    subst e5 e6 e7
    exact ⟨none, [], 0, rfl, levs_nil _ _ _, ⟨by simp, by simp⟩, by simp [sumF]⟩
  · injection e4 with e5 e6 e7
    subst e5 e6 e7
    have hb : Rows.uptoBulkAll ((List.range len0).map D) + 1 ≤ Rows.uptoBulk d := hb
    have hll : ((List.range len0).map q).length = len0 := by simp
    have hln := bulk_length D (List.range len0)
    rw [List.length_range] at hln
    have hsum := bulk_sumF (f := fun l : List (Int × Int) => 1 + l.length * 3) (D := D) (q := q) (List.range len0) fun i hi' => by
      obtain ⟨cs, _, ⟨_, h5⟩, _⟩ := hi i (List.mem_range.1 hi')
      exact h5
    refine ⟨some a, (List.range len0).map q, cap0, by rw [hll], fun hpos => ?_, ⟨by rw [hll]; omega, fun l hl => ?_⟩, by omega⟩
    · rw [hll] at hpos
      obtain ⟨b, o, rfl, hbl⟩ := hp hpos
      refine ⟨b, o, rfl, hbl, fun i hlt => ?_⟩
      rw [hll] at hlt
      have hg : ((List.range len0).map q).getD i [] = q i := by rw [List.getD_eq_getElem?_getD]; simp [hlt]
      obtain ⟨cs, _, ⟨⟨B, c', rfl, h2, h3⟩, h4⟩, h5⟩ := hi i hlt
      have h50 := h5 0 (by decide)
      rw [addr_add, addr_add] at h50
      rw [hg]
      have h6 := bulk_each (D := D) (List.mem_range.2 hlt)
      exact ⟨B, c', by simpa using h50, h3, h2, by omega⟩
    · obtain ⟨i, hi', rfl⟩ := List.mem_map.1 hl
      obtain ⟨cs, _, ⟨_, h4⟩, _⟩ := hi i (List.mem_range.1 hi')
      have h6 := bulk_each (D := D) hi'
      omega
end Go.Proofs.YtfgnnbpbbnnnhaaDoor
