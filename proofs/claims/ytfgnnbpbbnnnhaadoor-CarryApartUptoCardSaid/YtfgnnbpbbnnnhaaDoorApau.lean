/- Laws. -/
import Derived.Test.YtfgnnbpbbnnnhaaDoorApan
import Derived.Test.YtfgnnbpbbnnnhaaDoorApaq
import Derived.Test.YtfgnnbpbbnnnhaaDoorApat
namespace Go.Proofs.YtfgnnbpbbnnnhaaDoor
open Go.ChangeShapes Go.WideShapes Go.ChangeAt Go.RowKit Go.Deep
theorem mems_none9 (w : World) (B : Nat) : Mems w B none 0 [] := ⟨fun _ => rfl, fun h => by simp at h⟩
theorem ctrs_none9 (w : World) (B : Nat) : Ctrs w B none 0 [] := ⟨fun _ => rfl, fun h => by simp at h⟩
theorem trod_struct2 {H : Type} {P : Program} {w : World} {base : Nat} {spare : Nat → Bool} {held : Bool} {enc : TypeId × Value → H} {t : TypeId} {f0 f1 : Field} {fuel : Nat} {cs : List Value} {x : DataW H × List MemPlace} (ht : P.underlying t = some (.struct #[f0, f1])) (h : DataW.trod enc P w base spare held fuel t cs = some x) :
    ∃ y0 y1 n, x.1 = .agg [y0.1, y1.1] ∧ cs.length = P.cellsOf t ∧ DataW.trod enc P w base spare held n f0.type ((cs.drop f0.offset).take (P.cellsOf f0.type)) = some y0 ∧ DataW.trod enc P w base spare held n f1.type ((cs.drop f1.offset).take (P.cellsOf f1.type)) = some y1 := by
  obtain ⟨xs, n, _, rfl, hl, hlen, hf⟩ := DataW.trod_struct ht h
  match xs, hlen with
  | [y0, y1], _ => exact ⟨y0, y1, n, by simp, hl, by simpa using hf 0 f0 rfl, by simpa using hf 1 f1 rfl⟩
theorem trod_struct8 {H : Type} {P : Program} {w : World} {base : Nat} {spare : Nat → Bool} {held : Bool} {enc : TypeId × Value → H} {t : TypeId} {f0 f1 f2 f3 f4 f5 f6 f7 : Field} {fuel : Nat} {cs : List Value} {x : DataW H × List MemPlace} (ht : P.underlying t = some (.struct #[f0, f1, f2, f3, f4, f5, f6, f7])) (h : DataW.trod enc P w base spare held fuel t cs = some x) :
    ∃ y0 y1 y2 y3 y4 y5 y6 y7 n, x.1 = .agg [y0.1, y1.1, y2.1, y3.1, y4.1, y5.1, y6.1, y7.1] ∧ cs.length = P.cellsOf t ∧ DataW.trod enc P w base spare held n f0.type ((cs.drop f0.offset).take (P.cellsOf f0.type)) = some y0 ∧
      DataW.trod enc P w base spare held n f1.type ((cs.drop f1.offset).take (P.cellsOf f1.type)) = some y1 ∧ DataW.trod enc P w base spare held n f2.type ((cs.drop f2.offset).take (P.cellsOf f2.type)) = some y2 ∧
      DataW.trod enc P w base spare held n f3.type ((cs.drop f3.offset).take (P.cellsOf f3.type)) = some y3 ∧ DataW.trod enc P w base spare held n f4.type ((cs.drop f4.offset).take (P.cellsOf f4.type)) = some y4 ∧
      DataW.trod enc P w base spare held n f5.type ((cs.drop f5.offset).take (P.cellsOf f5.type)) = some y5 ∧ DataW.trod enc P w base spare held n f6.type ((cs.drop f6.offset).take (P.cellsOf f6.type)) = some y6 ∧ DataW.trod enc P w base spare held n f7.type ((cs.drop f7.offset).take (P.cellsOf f7.type)) = some y7 := by
  obtain ⟨xs, n, _, rfl, hl, hlen, hf⟩ := DataW.trod_struct ht h
  match xs, hlen with
  | [y0, y1, y2, y3, y4, y5, y6, y7], _ => exact ⟨y0, y1, y2, y3, y4, y5, y6, y7, n, by simp, hl, by simpa using hf 0 f0 rfl, by simpa using hf 1 f1 rfl, by simpa using hf 2 f2 rfl, by simpa using hf 3 f3 rfl, by simpa using hf 4 f4 rfl, by simpa using hf 5 f5 rfl, by simpa using hf 6 f6 rfl, by simpa using hf 7 f7 rfl⟩
/-- a sum over a row -/
def sumF {α : Type} (f : α → Nat) : List α → Nat
  | [] => 0
  | x :: l => f x + sumF f l
theorem bulk_sumF {H : Type} {α : Type} {f : α → Nat} {D : Nat → DataW H} {q : Nat → α} : ∀ l : List Nat, (∀ i ∈ l, f (q i) ≤ Rows.uptoBulk (D i)) → sumF f (l.map q) ≤ Rows.uptoBulkAll (l.map D)
  | [], _ => by simp [sumF]
  | j :: l, h => by
    have h1 := h j (by simp)
    have h2 := bulk_sumF (f := f) l fun i hi => h i (by simp [hi])
    simp only [List.map_cons, Rows.uptoBulkAll, sumF]
    omega
theorem sumF_mem {α : Type} {f : α → Nat} : ∀ {l : List α} {x : α}, x ∈ l → f x ≤ sumF f l
  | y :: l, x, h => by
    unfold sumF
    rcases List.mem_cons.1 h with rfl | h
    · omega
    · have := sumF_mem (f := f) h
      omega
theorem sumF_len {α : Type} {f : α → Nat} (h1 : ∀ x, 1 ≤ f x) : ∀ l : List α, l.length ≤ sumF f l
  | [] => by simp [sumF]
  | y :: l => by
    have := h1 y
    have := sumF_len h1 l
    simp only [sumF, List.length_cons]
    omega
/-- how much a declaration is in all -/
def Dc.all (d : Dc) : Nat := 1 + d.ty.count + d.bo.count + Tm.countL d.pars + d.sort.length + sumF (fun m : List Tm => 1 + Tm.countL m) d.mems + sumF (fun c : Int × Tm => 1 + c.2.count) d.ctors
/-- its terms fit -/
def Dc.fits (d : Dc) : Prop := d.ty.fit ∧ d.bo.fit ∧ (∀ t ∈ d.pars, t.fit) ∧ (∀ m ∈ d.mems, ∀ t ∈ m, t.fit) ∧ ∀ c ∈ d.ctors, c.2.fit
instance : Inhabited Dc := ⟨⟨0, 0, default, default, [], [], [], []⟩⟩
theorem Dc.all_ok {d : Dc} (h : d.all ≤ 1048576) : d.ok := by
  unfold Dc.all at h
  have h1 := sumF_len (f := fun m : List Tm => 1 + Tm.countL m) (fun _ => by omega) d.mems
  have h2 := sumF_len (f := fun c : Int × Tm => 1 + c.2.count) (fun _ => by omega) d.ctors
  refine ⟨by omega, by omega, by omega, by omega, by omega, fun m hm => ?_, by omega, fun c hc => ?_⟩
  · have := sumF_mem (f := fun m : List Tm => 1 + Tm.countL m) hm
    omega
  · have := sumF_mem (f := fun c : Int × Tm => 1 + c.2.count) hc
    omega
theorem Dc.all_cnt (d : Dc) : d.cnt ≤ 6 * d.all := by
  have h1 := sumF_len (f := fun m : List Tm => 1 + Tm.countL m) (fun _ => by omega) d.mems
  have h2 := sumF_len (f := fun c : Int × Tm => 1 + c.2.count) (fun _ => by omega) d.ctors
  unfold Dc.cnt Dc.all
  split
  · omega
  · split <;> omega
theorem all_cntSum : ∀ ds : List Dc, cntSum ds ≤ 6 * sumF Dc.all ds
  | [] => by simp [cntSum]
  | d :: ds => by
    have h1 := Dc.all_cnt d
    have h2 := all_cntSum ds
    simp only [cntSum, sumF]
    omega
set_option maxRecDepth 100000 in
/-- a row of terms, read -/
theorem open_tms {H : Type} {enc : TypeId × Value → H} {w : World} {fuel : Nat} {c : Value} {x : DataW H × List MemPlace} (h : DataW.trod enc Tryd.prog w 0 (fun _ => true) true fuel 25 [c] = some x) (hN : Rows.uptoBulk x.1 ≤ 1048576) :
    ∃ (A : Option Addr) (ts : List Tm) (k : Nat), c = .slice A ts.length k ∧ Tms w w.heap.size A k ts ∧ (∀ t ∈ ts, t.fit) ∧ Tm.countL ts + 1 ≤ Rows.uptoBulk x.1 := by
  have hC : Tryd.prog.cellsOf 27 = 5 := by kernel_rfl
  rcases open_elems (α := Tm) (fun cs d t => TmAt w w.heap.size t (.agg cs.toArray) ∧ t.fit ∧ t.count ≤ Rows.uptoBulk d) Tryd.underlying25 hC (by decide) h (fun n cs y hy _ ht => open_tm _ n cs y (Nat.le_refl _) (by omega) ht) with rfl | ⟨ad, len0, cap0, D, q, rfl, hb, hp, hi⟩
  · have := bulk_one x.1
    exact ⟨none, [], 0, rfl, tms_nil _ _, by simp, by simp only [Tm.countL]; omega⟩
  · have hll : ((List.range len0).map q).length = len0 := by simp
    have hsum := bulk_counts (D := D) (q := q) (List.range len0) fun i hi' => by
      obtain ⟨cs, _, ⟨_, _, h5⟩, _⟩ := hi i (List.mem_range.1 hi')
      exact h5
    refine ⟨some ad, (List.range len0).map q, cap0, by rw [hll], ⟨(fun e => by cases e), fun hpos => ?_⟩, fun t ht => ?_, by omega⟩
    · rw [hll] at hpos
      obtain ⟨b, o, rfl, hbl⟩ := hp hpos
      refine ⟨b, o, rfl, hbl, TmsAt.of fun i t hi' => ?_⟩
      have hlt : i < len0 := by
        have := (List.getElem?_eq_some_iff.1 hi').1
        omega
      have ht : t = q i := by
        simp [hlt] at hi'
        exact hi'.symm
      subst ht
      obtain ⟨cs, k1, ⟨k2, _, _⟩, k5⟩ := hi i hlt
      obtain ⟨d0, d1, d2, d3, d4, rfl⟩ : ∃ c0 c1 c2 c3 c4, cs = [c0, c1, c2, c3, c4] := by
        match cs, k1 with
        | [c0, c1, c2, c3, c4], _ => exact ⟨c0, c1, c2, c3, c4, rfl⟩
      have j0 := k5 0 (by decide)
      have j1 := k5 1 (by decide)
      have j2 := k5 2 (by decide)
      have j3 := k5 3 (by decide)
      have j4 := k5 4 (by decide)
      rw [addr_add, addr_add] at j0 j1 j2 j3 j4
      exact ⟨_, ⟨d0, d1, d2, d3, d4, rfl, j0, j1, j2, j3, j4⟩, k2⟩
    · obtain ⟨i, hi', rfl⟩ := List.mem_map.1 ht
      obtain ⟨cs, _, ⟨_, h5, _⟩, _⟩ := hi i (List.mem_range.1 hi')
      exact h5
set_option maxRecDepth 100000 in
/-- a row of members, read -/
theorem open_mems {H : Type} {enc : TypeId × Value → H} {w : World} {fuel : Nat} {c : Value} {x : DataW H × List MemPlace} (h : DataW.trod enc Tryd.prog w 0 (fun _ => true) true fuel 40 [c] = some x) (hN : Rows.uptoBulk x.1 ≤ 1048576) :
    ∃ (A : Option Addr) (ms : List (List Tm)) (k : Nat), c = .slice A ms.length k ∧ Mems w w.heap.size A k ms ∧ (∀ m ∈ ms, ∀ t ∈ m, t.fit) ∧ sumF (fun m : List Tm => 1 + Tm.countL m) ms + 1 ≤ Rows.uptoBulk x.1 := by
  have hC : Tryd.prog.cellsOf 47 = 1 := by kernel_rfl
  have hC2 : Tryd.prog.cellsOf 25 = 1 := by kernel_rfl
  rcases open_elems (α := Option Addr × List Tm × Nat) (fun cs d q => cs = [.slice q.1 q.2.1.length q.2.2] ∧ Tms w w.heap.size q.1 q.2.2 q.2.1 ∧ (∀ t ∈ q.2.1, t.fit) ∧ 1 + Tm.countL q.2.1 ≤ Rows.uptoBulk d) Tryd.underlying40 hC (by decide) h (fun n cs y hy hl ht => by
    obtain ⟨c', rfl⟩ : ∃ c', cs = [c'] := by
      match cs, hl with
      | [c'], _ => exact ⟨c', rfl⟩
    obtain ⟨y0, n', hy1, _, h0⟩ := trod_struct1 Tryd.underlying47 ht
    have hyb : Rows.uptoBulk y.1 = Rows.uptoBulk y0.1 + 1 := by
      rw [hy1]
      simp only [Rows.uptoBulk, Rows.uptoBulkAll]
    obtain ⟨A, ts, k, rfl, q1, q2, q3⟩ := open_tms (c := c') (x := y0) (fuel := n') (by simpa [hC2] using h0) (by omega)
    exact ⟨(A, ts, k), rfl, q1, q2, by show 1 + Tm.countL ts ≤ _; omega⟩) with rfl | ⟨ad, len0, cap0, D, q, rfl, hb, hp, hi⟩
  · have := bulk_one x.1
    exact ⟨none, [], 0, rfl, mems_none9 _ _, by simp, by simp only [sumF]; omega⟩
  · have hll : ((List.range len0).map fun i => (q i).2.1).length = len0 := by simp
    have hsum := bulk_sumF (f := fun m : List Tm => 1 + Tm.countL m) (D := D) (q := fun i => (q i).2.1) (List.range len0) fun i hi' => by
      obtain ⟨cs, _, ⟨_, _, _, h5⟩, _⟩ := hi i (List.mem_range.1 hi')
      exact h5
    refine ⟨some ad, (List.range len0).map fun i => (q i).2.1, cap0, by rw [hll], ⟨(fun e => by cases e), fun hpos => ?_⟩, fun m hm => ?_, by omega⟩
    · rw [hll] at hpos
      obtain ⟨b, o, rfl, hbl⟩ := hp hpos
      refine ⟨b, o, rfl, hbl, fun i m hi' => ?_⟩
      have hlt : i < len0 := by
        have := (List.getElem?_eq_some_iff.1 hi').1
        omega
      have hm : m = (q i).2.1 := by
        simp [hlt] at hi'
        exact hi'.symm
      subst hm
      obtain ⟨cs, _, ⟨rfl, k2, _, _⟩, k5⟩ := hi i hlt
      have j0 := k5 0 (by decide)
      rw [addr_add, addr_add] at j0
      exact ⟨(q i).1, (q i).2.2, by simpa using j0, k2⟩
    · obtain ⟨i, hi', rfl⟩ := List.mem_map.1 hm
      obtain ⟨cs, _, ⟨_, _, h5, _⟩, _⟩ := hi i (List.mem_range.1 hi')
      exact h5
set_option maxRecDepth 100000 in
/-- a row of constructors, read -/
theorem open_ctors {H : Type} {enc : TypeId × Value → H} {w : World} {fuel : Nat} {c : Value} {x : DataW H × List MemPlace} (h : DataW.trod enc Tryd.prog w 0 (fun _ => true) true fuel 41 [c] = some x) (hN : Rows.uptoBulk x.1 ≤ 1048576) :
    ∃ (A : Option Addr) (cs : List (Int × Tm)) (k : Nat), c = .slice A cs.length k ∧ Ctrs w w.heap.size A k cs ∧ (∀ c ∈ cs, c.2.fit) ∧ sumF (fun c : Int × Tm => 1 + c.2.count) cs + 1 ≤ Rows.uptoBulk x.1 := by
  have hC : Tryd.prog.cellsOf 50 = 6 := by kernel_rfl
  have hC1 : Tryd.prog.cellsOf 3 = 1 := by kernel_rfl
  have hC5 : Tryd.prog.cellsOf 27 = 5 := by kernel_rfl
  rcases open_elems (α := Int × Tm) (fun cs d q => (∃ v0 v1 v2 v3 v4, cs = [.int .i64 q.1, v0, v1, v2, v3, v4] ∧ TmAt w w.heap.size q.2 (.agg #[v0, v1, v2, v3, v4])) ∧ q.2.fit ∧ 1 + q.2.count ≤ Rows.uptoBulk d) Tryd.underlying41 hC (by decide) h (fun n cs y hy hl ht => by
    obtain ⟨y0, y1, n', hy1, _, h0, h1⟩ := trod_struct2 Tryd.underlying50 ht
    obtain ⟨c0, c1, c2, c3, c4, c5, rfl⟩ : ∃ c0 c1 c2 c3 c4 c5, cs = [c0, c1, c2, c3, c4, c5] := by
      match cs, hl with
      | [c0, c1, c2, c3, c4, c5], _ => exact ⟨c0, c1, c2, c3, c4, c5, rfl⟩
    simp only [hC1, hC5, List.drop_zero, List.drop_succ_cons, List.take_succ_cons, List.take_zero] at h0 h1
    have hyb : Rows.uptoBulk y.1 = Rows.uptoBulk y0.1 + Rows.uptoBulk y1.1 + 1 := by
      rw [hy1]
      simp only [Rows.uptoBulk, Rows.uptoBulkAll]
      omega
    obtain ⟨a0, e0, _, _⟩ := DataW.trod_int Tryd.underlying3 h0
    simp at e0
    subst e0
    obtain ⟨t, t1, t2, t3⟩ := open_tm _ n' _ y1 (Nat.le_refl _) (by omega) h1
    have := bulk_one y0.1
    exact ⟨(a0, t), ⟨_, _, _, _, _, rfl, t1⟩, t2, by show 1 + t.count ≤ _; omega⟩) with rfl | ⟨ad, len0, cap0, D, q, rfl, hb, hp, hi⟩
  · have := bulk_one x.1
    exact ⟨none, [], 0, rfl, ctrs_none9 _ _, by simp, by simp only [sumF]; omega⟩
  · have hll : ((List.range len0).map q).length = len0 := by simp
    have hsum := bulk_sumF (f := fun c : Int × Tm => 1 + c.2.count) (D := D) (q := q) (List.range len0) fun i hi' => by
      obtain ⟨cs, _, ⟨_, _, h5⟩, _⟩ := hi i (List.mem_range.1 hi')
      exact h5
    refine ⟨some ad, (List.range len0).map q, cap0, by rw [hll], ⟨(fun e => by cases e), fun hpos => ?_⟩, fun t ht => ?_, by omega⟩
    · rw [hll] at hpos
      obtain ⟨b, o, rfl, hbl⟩ := hp hpos
      refine ⟨b, o, rfl, hbl, fun i t hi' => ?_⟩
      have hlt : i < len0 := by
        have := (List.getElem?_eq_some_iff.1 hi').1
        omega
      have ht : t = q i := by
        simp [hlt] at hi'
        exact hi'.symm
      subst ht
      obtain ⟨cs, _, ⟨⟨v0, v1, v2, v3, v4, rfl, k2⟩, _, _⟩, k5⟩ := hi i hlt
      have j0 := k5 0 (by decide)
      have j1 := k5 1 (by decide)
      have j2 := k5 2 (by decide)
      have j3 := k5 3 (by decide)
      have j4 := k5 4 (by decide)
      have j5 := k5 5 (by decide)
      rw [addr_add, addr_add] at j0 j1 j2 j3 j4 j5
      exact ⟨_, j0, ⟨v0, v1, v2, v3, v4, rfl, j1, j2, j3, j4, j5⟩, k2⟩
    · obtain ⟨i, hi', rfl⟩ := List.mem_map.1 ht
      obtain ⟨cs, _, ⟨_, h5, _⟩, _⟩ := hi i (List.mem_range.1 hi')
      exact h5
set_option maxRecDepth 100000 in
/-- a declaration, read -/
theorem open_decl {H : Type} {enc : TypeId × Value → H} {w : World} {fuel : Nat} {cs : List Value} {x : DataW H × List MemPlace} (h : DataW.trod enc Tryd.prog w 0 (fun _ => true) true fuel 43 cs = some x) (hN : Rows.uptoBulk x.1 ≤ 1048576) :
    ∃ d : Dc, DcAt w w.heap.size d cs.toArray ∧ d.fits ∧ d.all ≤ Rows.uptoBulk x.1 := by
  obtain ⟨y0, y1, y2, y3, y4, y5, y6, y7, n, hx, hl, h0, h1, h2, h3, h4, h5, h6, h7⟩ := trod_struct8 Tryd.underlying43 h
  have hC : Tryd.prog.cellsOf 43 = 16 := by kernel_rfl
  have hC0 : Tryd.prog.cellsOf 36 = 1 := by kernel_rfl
  have hC1 : Tryd.prog.cellsOf 3 = 1 := by kernel_rfl
  have hC2 : Tryd.prog.cellsOf 27 = 5 := by kernel_rfl
  have hC3 : Tryd.prog.cellsOf 25 = 1 := by kernel_rfl
  have hC4 : Tryd.prog.cellsOf 39 = 1 := by kernel_rfl
  have hC5 : Tryd.prog.cellsOf 40 = 1 := by kernel_rfl
  have hC6 : Tryd.prog.cellsOf 41 = 1 := by kernel_rfl
  have hC7 : Tryd.prog.cellsOf 37 = 1 := by kernel_rfl
  rw [hC] at hl
  obtain ⟨c0, c1, c2, c3, c4, c5, c6, c7, c8, c9, ca, cb, cc, cd, ce, cf, rfl⟩ : ∃ c0 c1 c2 c3 c4 c5 c6 c7 c8 c9 ca cb cc cd ce cf, cs = [c0, c1, c2, c3, c4, c5, c6, c7, c8, c9, ca, cb, cc, cd, ce, cf] := by
    match cs, hl with
    | [c0, c1, c2, c3, c4, c5, c6, c7, c8, c9, ca, cb, cc, cd, ce, cf], _ => exact ⟨c0, c1, c2, c3, c4, c5, c6, c7, c8, c9, ca, cb, cc, cd, ce, cf, rfl⟩
  simp only [hC0, hC1, hC2, hC3, hC4, hC5, hC6, List.drop_zero, List.drop_succ_cons, List.take_succ_cons, List.take_zero] at h0 h1 h2 h3 h4 h5 h6 h7
  obtain ⟨a0, e0, _, _⟩ := DataW.trod_int Tryd.underlying36 h0
  obtain ⟨a1, e1, _, _⟩ := DataW.trod_int Tryd.underlying3 h1
  simp at e0 e1
  subst e0 e1
  have hbx : Rows.uptoBulk x.1 = Rows.uptoBulk y0.1 + Rows.uptoBulk y1.1 + Rows.uptoBulk y2.1 + Rows.uptoBulk y3.1 + Rows.uptoBulk y4.1 + Rows.uptoBulk y5.1 + Rows.uptoBulk y6.1 + Rows.uptoBulk y7.1 + 1 := by
    rw [hx]
    simp only [Rows.uptoBulk, Rows.uptoBulkAll]
    omega
  obtain ⟨ty, t1, t2, t3⟩ := open_tm _ n _ y2 (Nat.le_refl _) (by omega) h2
  obtain ⟨bo, b1, b2, b3⟩ := open_tm _ n _ y3 (Nat.le_refl _) (by omega) h3
  obtain ⟨Ap, ps, kp, rfl, p1, p2, p3⟩ := open_tms h4 (by omega)
  obtain ⟨z0, n', hz1, _, hz⟩ := trod_struct1 Tryd.underlying39 h5
  obtain ⟨As, so, ks, rfl, s1, s2, s3, _⟩ := open_parts (c := cd) (x := z0) (fuel := n') (by simpa [hC7] using hz)
  obtain ⟨Am, ms, km, rfl, m1, m2, m3⟩ := open_mems h6 (by omega)
  obtain ⟨Ac, cs, kc, rfl, d1, d2, d3⟩ := open_ctors h7 (by omega)
  have hzb : Rows.uptoBulk y5.1 = Rows.uptoBulk z0.1 + 1 := by
    rw [hz1]
    simp only [Rows.uptoBulk, Rows.uptoBulkAll]
  have hz0 := bulk_one y0.1
  have hz2 := bulk_one y1.1
  refine ⟨⟨a0, a1, ty, bo, ps, so, ms, cs⟩, ⟨c2, c3, c4, c5, c6, c7, c8, c9, ca, cb, Ap, As, Am, Ac, kp, ks, km, kc, rfl, t1, b1, p1, s1, s2, m1, d1⟩, ⟨t2, b2, p2, m2, d2⟩, ?_⟩
  unfold Dc.all
  simp only
  omega
set_option maxRecDepth 100000 in
/-- an argument that is a row of declarations -/
theorem open_decls {H : Type} {enc : TypeId × Value → H} {w : World} {r : Reach} {b0 : Nat} {v : Value} {d : DataW H} {p : List MemPlace} (hv : Value.okWide Tryd.prog w r b0 22 v) (h : DataW.Trod enc Tryd.prog w 0 (fun _ => true) true 22 v d p) (hN : Rows.uptoBulk d ≤ 1048576) :
    ∃ (A : Option Addr) (ds : List Dc) (c : Nat), v = .slice A ds.length c ∧ Dcs w w.heap.size A c ds ∧ (∀ d ∈ ds, d.fits) ∧ sumF Dc.all ds + 1 ≤ Rows.uptoBulk d := by
  obtain ⟨a0, len0, cap0, rfl⟩ := okWide_slice Tryd.underlying22 hv
  obtain ⟨fuel, hf⟩ := h
  have hC : Tryd.prog.cellsOf 43 = 16 := by kernel_rfl
  rcases open_elems (α := Dc) (fun cs d q => DcAt w w.heap.size q cs.toArray ∧ q.fits ∧ q.all ≤ Rows.uptoBulk d) Tryd.underlying22 hC (by decide) (by simpa [Value.cells] using hf) (fun n cs y hy _ ht => open_decl ht (by have hy : Rows.uptoBulk y.1 < Rows.uptoBulk d := hy; omega)) with e | ⟨ad, len, cap, D, q, e, hb, hp, hi⟩
  · injection e with e1 e2 e3
    subst e1 e2 e3
    have := bulk_one d
    exact ⟨none, [], 0, rfl, ⟨fun _ => rfl, fun h => by simp at h⟩, by simp, by simp only [sumF]; omega⟩
  · injection e with e1 e2 e3
    subst e1 e2 e3
    have hll : ((List.range len0).map q).length = len0 := by simp
    have hsum := bulk_sumF (f := Dc.all) (D := D) (q := q) (List.range len0) fun i hi' => by
      obtain ⟨cs, _, ⟨_, _, h5⟩, _⟩ := hi i (List.mem_range.1 hi')
      exact h5
    have hb : Rows.uptoBulkAll ((List.range len0).map D) + 1 ≤ Rows.uptoBulk d := hb
    refine ⟨some ad, (List.range len0).map q, cap0, by rw [hll], ⟨(fun e => by cases e), fun hpos => ?_⟩, fun t ht => ?_, by omega⟩
    · rw [hll] at hpos
      obtain ⟨b, o, rfl, hbl⟩ := hp hpos
      refine ⟨b, o, rfl, hbl, fun i t hi' => ?_⟩
      have hlt : i < len0 := by
        have := (List.getElem?_eq_some_iff.1 hi').1
        omega
      have ht : t = q i := by
        simp [hlt] at hi'
        exact hi'.symm
      subst ht
      obtain ⟨cs, k1, ⟨k2, _, _⟩, k5⟩ := hi i hlt
      refine ⟨cs.toArray, k2, fun j hj => ?_⟩
      have j0 := k5 j hj
      rw [addr_add, addr_add] at j0
      rw [j0, List.getElem?_toArray]
    · obtain ⟨i, hi', rfl⟩ := List.mem_map.1 ht
      obtain ⟨cs, _, ⟨_, h5, _⟩, _⟩ := hi i (List.mem_range.1 hi')
      exact h5
end Go.Proofs.YtfgnnbpbbnnnhaaDoor
