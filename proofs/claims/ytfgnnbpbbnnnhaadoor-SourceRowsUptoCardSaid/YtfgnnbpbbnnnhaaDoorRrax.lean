/- Laws. -/
import Derived.Test.YtfgnnbpbbnnnhaaDoorRral
import Derived.Test.YtfgnnbpbbnnnhaaDoorRras
import Derived.Test.YtfgnnbpbbnnnhaaDoorRrat
import Derived.Test.YtfgnnbpbbnnnhaaDoorRrav
import Derived.Test.YtfgnnbpbbnnnhaaDoorRraw
namespace Go.Proofs.YtfgnnbpbbnnnhaaDoor
open Go.ChangeShapes Go.WideShapes Go.ChangeAt Go.RowKit Go.Deep
theorem mems_none9 (w : World) (B : Nat) : Mems w B none 0 [] := ⟨fun _ => rfl, fun h => by simp at h⟩
theorem ctrs_none9 (w : World) (B : Nat) : Ctrs w B none 0 [] := ⟨fun _ => rfl, fun h => by simp at h⟩
theorem trod_struct2 {H : Type} {P : Program} {w : World} {base : Nat} {spare : Nat → Bool} {held : Bool} {enc : TypeId × Value → H} {t : TypeId} {f0 f1 : Field} {fuel : Nat} {cs : List Value} {x : DataW H × List MemPlace} (ht : P.underlying t = some (.struct #[f0, f1])) (h : DataW.trod enc P w base spare held fuel t cs = some x) :
    ∃ y0 y1 n, x.1 = .agg [y0.1, y1.1] ∧ cs.length = P.cellsOf t ∧ DataW.trod enc P w base spare held n f0.type ((cs.drop f0.offset).take (P.cellsOf f0.type)) = some y0 ∧ DataW.trod enc P w base spare held n f1.type ((cs.drop f1.offset).take (P.cellsOf f1.type)) = some y1 := by
  obtain ⟨xs, n, _, rfl, hl, hlen, hf⟩ := DataW.trod_struct ht h
  match xs, hlen with
  | [y0, y1], _ => exact ⟨y0, y1, n, by simp, hl, by simpa using hf 0 f0 rfl, by simpa using hf 1 f1 rfl⟩
theorem trod_struct8 {H : Type} {P : Program} {w : World} {base : Nat} {spare : Nat → Bool} {held : Bool} {enc : TypeId × Value → H} {t : TypeId} {f0 f1 f2 f3 f4 f5 f6 f7 : Field} {fuel : Nat} {cs : List Value} {x : DataW H × List MemPlace} (ht : P.underlying t = some (.struct #[f0, f1, f2, f3, f4, f5, f6, f7])) (h : DataW.trod enc P w base spare held fuel t cs = some x) :
    ∃ y0 y1 y2 y3 y4 y5 y6 y7 n, x.1 = .agg [y0.1, y1.1, y2.1, y3.1, y4.1, y5.1, y6.1, y7.1] ∧ cs.length = P.cellsOf t ∧ DataW.trod enc P w base spare held n f0.type ((cs.drop f0.offset).take (P.cellsOf f0.type)) = some y0 ∧
      DataW.trod enc P w base spare held n f1.type ((cs.drop f1.offset).take (P.cellsOf f1.type)) = some y1 ∧ DataW.trod enc P w base spare held n f2.type ((cs.drop f2.offset).take (P.cellsOf f2.type)) = some y2 ∧
      DataW.trod enc P w base spare held n f3.type ((cs.drop f3.offset).take (P.cellsOf f3.type)) = some y3 ∧ DataW.trod enc P w base spare held n f4.type ((cs.drop f4.offset).take (P.cellsOf f4.type)) = some y4 ∧
      DataW.trod enc P w base spare held n f5.type ((cs.drop f5.offset).take (P.cellsOf f5.type)) = some y5 ∧ DataW.trod enc P w base spare held n f6.type ((cs.drop f6.offset).take (P.cellsOf f6.type)) = some y6 ∧ DataW.trod enc P w base spare held n f7.type ((cs.drop f7.offset).take (P.cellsOf f7.type)) = some y7 := by
  obtain ⟨xs, n, _, rfl, hl, hlen, hf⟩ := DataW.trod_struct ht h
  match xs, hlen with
  | [y0, y1, y2, y3, y4, y5, y6, y7], _ => exact ⟨y0, y1, y2, y3, y4, y5, y6, y7, n, by simp, hl, by simpa using hf 0 f0 rfl, by simpa using hf 1 f1 rfl, by simpa using hf 2 f2 rfl, by simpa using hf 3 f3 rfl, by simpa using hf 4 f4 rfl, by simpa using hf 5 f5 rfl, by simpa using hf 6 f6 rfl, by simpa using hf 7 f7 rfl⟩
/-- a sum over a row -/
def sumF {α : Type} (f : α → Nat) : List α → Nat
  | [] => 0
  | x :: l => f x + sumF f l
theorem bulk_sumF {H : Type} {α : Type} {f : α → Nat} {D : Nat → DataW H} {q : Nat → α} : ∀ l : List Nat, (∀ i ∈ l, f (q i) ≤ Rows.uptoBulk (D i)) → sumF f (l.map q) ≤ Rows.uptoBulkAll (l.map D)
  | [], _ => by simp [sumF]
  | j :: l, h => by
    have h1 := h j (by simp)
    have h2 := bulk_sumF (f := f) l fun i hi => h i (by simp [hi])
    simp only [List.map_cons, Rows.uptoBulkAll, sumF]
    omega
theorem sumF_mem {α : Type} {f : α → Nat} : ∀ {l : List α} {x : α}, x ∈ l → f x ≤ sumF f l
  | y :: l, x, h => by
    unfold sumF
    rcases List.mem_cons.1 h with rfl | h
    · omega
    · have := sumF_mem (f := f) h
      omega
theorem sumF_len {α : Type} {f : α → Nat} (h1 : ∀ x, 1 ≤ f x) : ∀ l : List α, l.length ≤ sumF f l
  | [] => by simp [sumF]
  | y :: l => by
    have := h1 y
    have := sumF_len h1 l
    simp only [sumF, List.length_cons]
    omega
/-- how much a declaration is in all -/
def Dc.all (d : Dc) : Nat := 1 + d.ty.count + d.bo.count + Tm.countL d.pars + d.sort.length + sumF (fun m : List Tm => 1 + Tm.countL m) d.mems + sumF (fun c : Int × Tm => 1 + c.2.count) d.ctors
/-- its terms fit -/
def Dc.fits (d : Dc) : Prop := d.ty.fit ∧ d.bo.fit ∧ (∀ t ∈ d.pars, t.fit) ∧ (∀ m ∈ d.mems, ∀ t ∈ m, t.fit) ∧ ∀ c ∈ d.ctors, c.2.fit
instance : Inhabited Dc := ⟨⟨0, 0, default, default, [], [], [], []⟩⟩
theorem Dc.all_ok {d : Dc} (h : d.all ≤ 1048576) : d.ok := by
  unfold Dc.all at h
  have h1 := sumF_len (f := fun m : List Tm => 1 + Tm.countL m) (fun _ => by omega) d.mems
  have h2 := sumF_len (f := fun c : Int × Tm => 1 + c.2.count) (fun _ => by omega) d.ctors
  refine ⟨by omega, by omega, by omega, by omega, by omega, fun m hm => ?_, by omega, fun c hc => ?_⟩
  · have := sumF_mem (f := fun m : List Tm => 1 + Tm.countL m) hm
    omega
  · have := sumF_mem (f := fun c : Int × Tm => 1 + c.2.count) hc
    omega
set_option maxRecDepth 100000 in
/-- a row of terms, read -/
theorem open_tms {H : Type} {enc : TypeId × Value → H} {w : World} {fuel : Nat} {c : Value} {x : DataW H × List MemPlace} (h : DataW.trod enc Tryd.prog w 0 (fun _ => true) true fuel 25 [c] = some x) (hN : Rows.uptoBulk x.1 ≤ 1048576) :
    ∃ (A : Option Addr) (ts : List Tm) (k : Nat), c = .slice A ts.length k ∧ Tms w w.heap.size A k ts ∧ (∀ t ∈ ts, t.fit) ∧ Tm.countL ts + 1 ≤ Rows.uptoBulk x.1 := by
  have hC : Tryd.prog.cellsOf 27 = 5 := by kernel_rfl
  rcases open_elems (α := Tm) (fun cs d t => TmAt w w.heap.size t (.agg cs.toArray) ∧ t.fit ∧ t.count ≤ Rows.uptoBulk d) Tryd.underlying25 hC (by decide) h (fun n cs y hy _ ht => open_tm _ n cs y (Nat.le_refl _) (by omega) ht) with rfl | ⟨ad, len0, cap0, D, q, rfl, hb, hp, hi⟩
  · have := bulk_one x.1
    exact ⟨none, [], 0, rfl, tms_nil _ _, by simp, by simp only [Tm.countL]; omega⟩
  · have hll : ((List.range len0).map q).length = len0 := by simp
    have hsum := bulk_counts (D := D) (q := q) (List.range len0) fun i hi' => by
      obtain ⟨cs, _, ⟨_, _, h5⟩, _⟩ := hi i (List.mem_range.1 hi')
      exact h5
    refine ⟨some ad, (List.range len0).map q, cap0, by rw [hll], ⟨(fun e => by cases e), fun hpos => ?_⟩, fun t ht => ?_, by omega⟩
    · rw [hll] at hpos
      obtain ⟨b, o, rfl, hbl⟩ := hp hpos
      refine ⟨b, o, rfl, hbl, TmsAt.of fun i t hi' => ?_⟩
      have hlt : i < len0 := by
        have := (List.getElem?_eq_some_iff.1 hi').1
        omega
      have ht : t = q i := by
        simp [hlt] at hi'
        exact hi'.symm
      subst ht
      obtain ⟨cs, k1, ⟨k2, _, _⟩, k5⟩ := hi i hlt
      obtain ⟨d0, d1, d2, d3, d4, rfl⟩ : ∃ c0 c1 c2 c3 c4, cs = [c0, c1, c2, c3, c4] := by
        match cs, k1 with
        | [c0, c1, c2, c3, c4], _ => exact ⟨c0, c1, c2, c3, c4, rfl⟩
      have j0 := k5 0 (by decide)
      have j1 := k5 1 (by decide)
      have j2 := k5 2 (by decide)
      have j3 := k5 3 (by decide)
      have j4 := k5 4 (by decide)
      rw [addr_add, addr_add] at j0 j1 j2 j3 j4
      exact ⟨_, ⟨d0, d1, d2, d3, d4, rfl, j0, j1, j2, j3, j4⟩, k2⟩
    · obtain ⟨i, hi', rfl⟩ := List.mem_map.1 ht
      obtain ⟨cs, _, ⟨_, h5, _⟩, _⟩ := hi i (List.mem_range.1 hi')
      exact h5
set_option maxRecDepth 100000 in
/-- a row of members, read -/
theorem open_mems {H : Type} {enc : TypeId × Value → H} {w : World} {fuel : Nat} {c : Value} {x : DataW H × List MemPlace} (h : DataW.trod enc Tryd.prog w 0 (fun _ => true) true fuel 40 [c] = some x) (hN : Rows.uptoBulk x.1 ≤ 1048576) :
    ∃ (A : Option Addr) (ms : List (List Tm)) (k : Nat), c = .slice A ms.length k ∧ Mems w w.heap.size A k ms ∧ (∀ m ∈ ms, ∀ t ∈ m, t.fit) ∧ sumF (fun m : List Tm => 1 + Tm.countL m) ms + 1 ≤ Rows.uptoBulk x.1 := by
  have hC : Tryd.prog.cellsOf 47 = 1 := by kernel_rfl
  have hC2 : Tryd.prog.cellsOf 25 = 1 := by kernel_rfl
  rcases open_elems (α := Option Addr × List Tm × Nat) (fun cs d q => cs = [.slice q.1 q.2.1.length q.2.2] ∧ Tms w w.heap.size q.1 q.2.2 q.2.1 ∧ (∀ t ∈ q.2.1, t.fit) ∧ 1 + Tm.countL q.2.1 ≤ Rows.uptoBulk d) Tryd.underlying40 hC (by decide) h (fun n cs y hy hl ht => by
    obtain ⟨c', rfl⟩ : ∃ c', cs = [c'] := by
      match cs, hl with
      | [c'], _ => exact ⟨c', rfl⟩
    obtain ⟨y0, n', hy1, _, h0⟩ := trod_struct1 Tryd.underlying47 ht
    have hyb : Rows.uptoBulk y.1 = Rows.uptoBulk y0.1 + 1 := by
      rw [hy1]
      simp only [Rows.uptoBulk, Rows.uptoBulkAll]
    obtain ⟨A, ts, k, rfl, q1, q2, q3⟩ := open_tms (c := c') (x := y0) (fuel := n') (by simpa [hC2] using h0) (by omega)
    exact ⟨(A, ts, k), rfl, q1, q2, by show 1 + Tm.countL ts ≤ _; omega⟩) with rfl | ⟨ad, len0, cap0, D, q, rfl, hb, hp, hi⟩
  · have := bulk_one x.1
    exact ⟨none, [], 0, rfl, mems_none9 _ _, by simp, by simp only [sumF]; omega⟩
  · have hll : ((List.range len0).map fun i => (q i).2.1).length = len0 := by simp
    have hsum := bulk_sumF (f := fun m : List Tm => 1 + Tm.countL m) (D := D) (q := fun i => (q i).2.1) (List.range len0) fun i hi' => by
      obtain ⟨cs, _, ⟨_, _, _, h5⟩, _⟩ := hi i (List.mem_range.1 hi')
      exact h5
    refine ⟨some ad, (List.range len0).map fun i => (q i).2.1, cap0, by rw [hll], ⟨(fun e => by cases e), fun hpos => ?_⟩, fun m hm => ?_, by omega⟩
    · rw [hll] at hpos
      obtain ⟨b, o, rfl, hbl⟩ := hp hpos
      refine ⟨b, o, rfl, hbl, fun i m hi' => ?_⟩
      have hlt : i < len0 := by
        have := (List.getElem?_eq_some_iff.1 hi').1
        omega
      have hm : m = (q i).2.1 := by
        simp [hlt] at hi'
        exact hi'.symm
      subst hm
      obtain ⟨cs, _, ⟨rfl, k2, _, _⟩, k5⟩ := hi i hlt
      have j0 := k5 0 (by decide)
      rw [addr_add, addr_add] at j0
      exact ⟨(q i).1, (q i).2.2, by simpa using j0, k2⟩
    · obtain ⟨i, hi', rfl⟩ := List.mem_map.1 hm
      obtain ⟨cs, _, ⟨_, _, h5, _⟩, _⟩ := hi i (List.mem_range.1 hi')
      exact h5
set_option maxRecDepth 100000 in
/-- a row of constructors, read -/
theorem open_ctors {H : Type} {enc : TypeId × Value → H} {w : World} {fuel : Nat} {c : Value} {x : DataW H × List MemPlace} (h : DataW.trod enc Tryd.prog w 0 (fun _ => true) true fuel 41 [c] = some x) (hN : Rows.uptoBulk x.1 ≤ 1048576) :
    ∃ (A : Option Addr) (cs : List (Int × Tm)) (k : Nat), c = .slice A cs.length k ∧ Ctrs w w.heap.size A k cs ∧ (∀ c ∈ cs, c.2.fit) ∧ sumF (fun c : Int × Tm => 1 + c.2.count) cs + 1 ≤ Rows.uptoBulk x.1 := by
  have hC : Tryd.prog.cellsOf 50 = 6 := by kernel_rfl
  have hC1 : Tryd.prog.cellsOf 3 = 1 := by kernel_rfl
  have hC5 : Tryd.prog.cellsOf 27 = 5 := by kernel_rfl
  rcases open_elems (α := Int × Tm) (fun cs d q => (∃ v0 v1 v2 v3 v4, cs = [.int .i64 q.1, v0, v1, v2, v3, v4] ∧ TmAt w w.heap.size q.2 (.agg #[v0, v1, v2, v3, v4])) ∧ q.2.fit ∧ 1 + q.2.count ≤ Rows.uptoBulk d) Tryd.underlying41 hC (by decide) h (fun n cs y hy hl ht => by
    obtain ⟨y0, y1, n', hy1, _, h0, h1⟩ := trod_struct2 Tryd.underlying50 ht
    obtain ⟨c0, c1, c2, c3, c4, c5, rfl⟩ : ∃ c0 c1 c2 c3 c4 c5, cs = [c0, c1, c2, c3, c4, c5] := by
      match cs, hl with
      | [c0, c1, c2, c3, c4, c5], _ => exact ⟨c0, c1, c2, c3, c4, c5, rfl⟩
    simp only [hC1, hC5, List.drop_zero, List.drop_succ_cons, List.take_succ_cons, List.take_zero] at h0 h1
    have hyb : Rows.uptoBulk y.1 = Rows.uptoBulk y0.1 + Rows.uptoBulk y1.1 + 1 := by
      rw [hy1]
      simp only [Rows.uptoBulk, Rows.uptoBulkAll]
      omega
    obtain ⟨a0, e0, _, _⟩ := DataW.trod_int Tryd.underlying3 h0
    simp at e0
    subst e0
    obtain ⟨t, t1, t2, t3⟩ := open_tm _ n' _ y1 (Nat.le_refl _) (by omega) h1
    have := bulk_one y0.1
    exact ⟨(a0, t), ⟨_, _, _, _, _, rfl, t1⟩, t2, by show 1 + t.count ≤ _; omega⟩) with rfl | ⟨ad, len0, cap0, D, q, rfl, hb, hp, hi⟩
  · have := bulk_one x.1
    exact ⟨none, [], 0, rfl, ctrs_none9 _ _, by simp, by simp only [sumF]; omega⟩
  · have hll : ((List.range len0).map q).length = len0 := by simp
    have hsum := bulk_sumF (f := fun c : Int × Tm => 1 + c.2.count) (D := D) (q := q) (List.range len0) fun i hi' => by
      obtain ⟨cs, _, ⟨_, _, h5⟩, _⟩ := hi i (List.mem_range.1 hi')
      exact h5
    refine ⟨some ad, (List.range len0).map q, cap0, by rw [hll], ⟨(fun e => by cases e), fun hpos => ?_⟩, fun t ht => ?_, by omega⟩
    · rw [hll] at hpos
      obtain ⟨b, o, rfl, hbl⟩ := hp hpos
      refine ⟨b, o, rfl, hbl, fun i t hi' => ?_⟩
      have hlt : i < len0 := by
        have := (List.getElem?_eq_some_iff.1 hi').1
        omega
      have ht : t = q i := by
        simp [hlt] at hi'
        exact hi'.symm
      subst ht
      obtain ⟨cs, _, ⟨⟨v0, v1, v2, v3, v4, rfl, k2⟩, _, _⟩, k5⟩ := hi i hlt
      have j0 := k5 0 (by decide)
      have j1 := k5 1 (by decide)
      have j2 := k5 2 (by decide)
      have j3 := k5 3 (by decide)
      have j4 := k5 4 (by decide)
      have j5 := k5 5 (by decide)
      rw [addr_add, addr_add] at j0 j1 j2 j3 j4 j5
      exact ⟨_, j0, ⟨v0, v1, v2, v3, v4, rfl, j1, j2, j3, j4, j5⟩, k2⟩
    · obtain ⟨i, hi', rfl⟩ := List.mem_map.1 ht
      obtain ⟨cs, _, ⟨_, h5, _⟩, _⟩ := hi i (List.mem_range.1 hi')
      exact h5
set_option maxRecDepth 100000 in
/-- a declaration, read -/
theorem open_decl {H : Type} {enc : TypeId × Value → H} {w : World} {fuel : Nat} {cs : List Value} {x : DataW H × List MemPlace} (h : DataW.trod enc Tryd.prog w 0 (fun _ => true) true fuel 43 cs = some x) (hN : Rows.uptoBulk x.1 ≤ 1048576) :
    ∃ d : Dc, DcAt w w.heap.size d cs.toArray ∧ d.fits ∧ d.all ≤ Rows.uptoBulk x.1 := by
  obtain ⟨y0, y1, y2, y3, y4, y5, y6, y7, n, hx, hl, h0, h1, h2, h3, h4, h5, h6, h7⟩ := trod_struct8 Tryd.underlying43 h
  have hC : Tryd.prog.cellsOf 43 = 16 := by kernel_rfl
  have hC0 : Tryd.prog.cellsOf 36 = 1 := by kernel_rfl
  have hC1 : Tryd.prog.cellsOf 3 = 1 := by kernel_rfl
  have hC2 : Tryd.prog.cellsOf 27 = 5 := by kernel_rfl
  have hC3 : Tryd.prog.cellsOf 25 = 1 := by kernel_rfl
  have hC4 : Tryd.prog.cellsOf 39 = 1 := by kernel_rfl
  have hC5 : Tryd.prog.cellsOf 40 = 1 := by kernel_rfl
  have hC6 : Tryd.prog.cellsOf 41 = 1 := by kernel_rfl
  have hC7 : Tryd.prog.cellsOf 37 = 1 := by kernel_rfl
  rw [hC] at hl
  obtain ⟨c0, c1, c2, c3, c4, c5, c6, c7, c8, c9, ca, cb, cc, cd, ce, cf, rfl⟩ : ∃ c0 c1 c2 c3 c4 c5 c6 c7 c8 c9 ca cb cc cd ce cf, cs = [c0, c1, c2, c3, c4, c5, c6, c7, c8, c9, ca, cb, cc, cd, ce, cf] := by
    match cs, hl with
    | [c0, c1, c2, c3, c4, c5, c6, c7, c8, c9, ca, cb, cc, cd, ce, cf], _ => exact ⟨c0, c1, c2, c3, c4, c5, c6, c7, c8, c9, ca, cb, cc, cd, ce, cf, rfl⟩
  simp only [hC0, hC1, hC2, hC3, hC4, hC5, hC6, List.drop_zero, List.drop_succ_cons, List.take_succ_cons, List.take_zero] at h0 h1 h2 h3 h4 h5 h6 h7
  obtain ⟨a0, e0, _, _⟩ := DataW.trod_int Tryd.underlying36 h0
  obtain ⟨a1, e1, _, _⟩ := DataW.trod_int Tryd.underlying3 h1
  simp at e0 e1
  subst e0 e1
  have hbx : Rows.uptoBulk x.1 = Rows.uptoBulk y0.1 + Rows.uptoBulk y1.1 + Rows.uptoBulk y2.1 + Rows.uptoBulk y3.1 + Rows.uptoBulk y4.1 + Rows.uptoBulk y5.1 + Rows.uptoBulk y6.1 + Rows.uptoBulk y7.1 + 1 := by
    rw [hx]
    simp only [Rows.uptoBulk, Rows.uptoBulkAll]
    omega
  obtain ⟨ty, t1, t2, t3⟩ := open_tm _ n _ y2 (Nat.le_refl _) (by omega) h2
  obtain ⟨bo, b1, b2, b3⟩ := open_tm _ n _ y3 (Nat.le_refl _) (by omega) h3
  obtain ⟨Ap, ps, kp, rfl, p1, p2, p3⟩ := open_tms h4 (by omega)
  obtain ⟨z0, n', hz1, _, hz⟩ := trod_struct1 Tryd.underlying39 h5
  obtain ⟨As, so, ks, rfl, s1, s2, s3, _⟩ := open_parts (c := cd) (x := z0) (fuel := n') (by simpa [hC7] using hz)
  obtain ⟨Am, ms, km, rfl, m1, m2, m3⟩ := open_mems h6 (by omega)
  obtain ⟨Ac, cs, kc, rfl, d1, d2, d3⟩ := open_ctors h7 (by omega)
  have hzb : Rows.uptoBulk y5.1 = Rows.uptoBulk z0.1 + 1 := by
    rw [hz1]
    simp only [Rows.uptoBulk, Rows.uptoBulkAll]
  have hz0 := bulk_one y0.1
  have hz2 := bulk_one y1.1
  refine ⟨⟨a0, a1, ty, bo, ps, so, ms, cs⟩, ⟨c2, c3, c4, c5, c6, c7, c8, c9, ca, cb, Ap, As, Am, Ac, kp, ks, km, kc, rfl, t1, b1, p1, s1, s2, m1, d1⟩, ⟨t2, b2, p2, m2, d2⟩, ?_⟩
  unfold Dc.all
  simp only
  omega
set_option maxRecDepth 100000 in
/-- an argument that is a row of declarations -/
theorem open_decls {H : Type} {enc : TypeId × Value → H} {w : World} {r : Reach} {b0 : Nat} {v : Value} {d : DataW H} {p : List MemPlace} (hv : Value.okWide Tryd.prog w r b0 22 v) (h : DataW.Trod enc Tryd.prog w 0 (fun _ => true) true 22 v d p) (hN : Rows.uptoBulk d ≤ 1048576) :
    ∃ (A : Option Addr) (ds : List Dc) (c : Nat), v = .slice A ds.length c ∧ Dcs w w.heap.size A c ds ∧ (∀ d ∈ ds, d.fits) ∧ sumF Dc.all ds + 1 ≤ Rows.uptoBulk d := by
  obtain ⟨a0, len0, cap0, rfl⟩ := okWide_slice Tryd.underlying22 hv
  obtain ⟨fuel, hf⟩ := h
  have hC : Tryd.prog.cellsOf 43 = 16 := by kernel_rfl
  rcases open_elems (α := Dc) (fun cs d q => DcAt w w.heap.size q cs.toArray ∧ q.fits ∧ q.all ≤ Rows.uptoBulk d) Tryd.underlying22 hC (by decide) (by simpa [Value.cells] using hf) (fun n cs y hy _ ht => open_decl ht (by have hy : Rows.uptoBulk y.1 < Rows.uptoBulk d := hy; omega)) with e | ⟨ad, len, cap, D, q, e, hb, hp, hi⟩
  · injection e with e1 e2 e3
    subst e1 e2 e3
    have := bulk_one d
    exact ⟨none, [], 0, rfl, ⟨fun _ => rfl, fun h => by simp at h⟩, by simp, by simp only [sumF]; omega⟩
  · injection e with e1 e2 e3
    subst e1 e2 e3
    have hll : ((List.range len0).map q).length = len0 := by simp
    have hsum := bulk_sumF (f := Dc.all) (D := D) (q := q) (List.range len0) fun i hi' => by
      obtain ⟨cs, _, ⟨_, _, h5⟩, _⟩ := hi i (List.mem_range.1 hi')
      exact h5
    have hb : Rows.uptoBulkAll ((List.range len0).map D) + 1 ≤ Rows.uptoBulk d := hb
    refine ⟨some ad, (List.range len0).map q, cap0, by rw [hll], ⟨(fun e => by cases e), fun hpos => ?_⟩, fun t ht => ?_, by omega⟩
    · rw [hll] at hpos
      obtain ⟨b, o, rfl, hbl⟩ := hp hpos
      refine ⟨b, o, rfl, hbl, fun i t hi' => ?_⟩
      have hlt : i < len0 := by
        have := (List.getElem?_eq_some_iff.1 hi').1
        omega
      have ht : t = q i := by
        simp [hlt] at hi'
        exact hi'.symm
      subst ht
      obtain ⟨cs, k1, ⟨k2, _, _⟩, k5⟩ := hi i hlt
      refine ⟨cs.toArray, k2, fun j hj => ?_⟩
      have j0 := k5 j hj
      rw [addr_add, addr_add] at j0
      rw [j0, List.getElem?_toArray]
    · obtain ⟨i, hi', rfl⟩ := List.mem_map.1 ht
      obtain ⟨cs, _, ⟨_, h5, _⟩, _⟩ := hi i (List.mem_range.1 hi')
      exact h5
end Go.Proofs.YtfgnnbpbbnnnhaaDoor
namespace Go.Proofs.YtfgnnbpbbnnnhaaDoor
open Go.RowKit Go.Maps Go.ChangeMaps Go.MapKept
section
variable {S : World → Prop} {R : World → World → Prop} {o : Oper} {V : Value → World → Prop} {g : Option (Option Tmp × Bool)} {a : Act} {w : World}
set_option maxRecDepth 100000 in
theorem StepFrom.lenM {x : Operand} (hop : o.op = .call { callee := .builtin .len, args := #[x], argTypes := #[40] }) {A : Option Addr} {n c : Nat} (hx : a.eval x = .slice A n c)
    (hg : gOn g a = true) (hS : S w) (hR : R w w) (hV : V (.int .i64 (n : Int)) w) : StepFrom Tryd.prog S R o V g [] a w :=
  StepFrom.ran (v := .int .i64 (n : Int)) (by
    have hm : (#[x] : Array Operand).map a.eval = #[.slice A n c] := by rw [List.map_toArray, List.map_cons, List.map_nil, hx]
    unfold execOp
    simp only [hop, resolve, hm]
    simp [go_sem]) hg hS hR hV
set_option maxRecDepth 100000 in
theorem StepFrom.lenC {x : Operand} (hop : o.op = .call { callee := .builtin .len, args := #[x], argTypes := #[41] }) {A : Option Addr} {n c : Nat} (hx : a.eval x = .slice A n c)
    (hg : gOn g a = true) (hS : S w) (hR : R w w) (hV : V (.int .i64 (n : Int)) w) : StepFrom Tryd.prog S R o V g [] a w :=
  StepFrom.ran (v := .int .i64 (n : Int)) (by
    have hm : (#[x] : Array Operand).map a.eval = #[.slice A n c] := by rw [List.map_toArray, List.map_cons, List.map_nil, hx]
    unfold execOp
    simp only [hop, resolve, hm]
    simp [go_sem]) hg hS hR hV
end
set_option maxRecDepth 100000 in
theorem leq_toS {x y : Int} {b : Bool} (p q : Operand) (w : World) (h : decide (x ≤ y) = b) : ((do eqGuard .leq 3 p q (.int .i64 x) (.int .i64 y); binOp .leq 3 (.int .i64 x) (.int .i64 y) : Sem Value)).run Tryd.prog w = .ok (.bool b) w := by
  rw [← h]
  go_simp
set_option maxRecDepth 100000 in
theorem dc_f1 {g : Nat} {w : World} : (Instr.fieldAt 43 (.pointer (some ⟨g, 0, none⟩)) 1).run Tryd.prog w = .ok (.pointer (some ⟨g, 1, none⟩)) w := by go_simp
set_option maxRecDepth 100000 in
theorem dc_f2 {g : Nat} {w : World} : (Instr.fieldAt 43 (.pointer (some ⟨g, 0, none⟩)) 2).run Tryd.prog w = .ok (.pointer (some ⟨g, 2, none⟩)) w := by go_simp
set_option maxRecDepth 100000 in
theorem dc_f3 {g : Nat} {w : World} : (Instr.fieldAt 43 (.pointer (some ⟨g, 0, none⟩)) 3).run Tryd.prog w = .ok (.pointer (some ⟨g, 7, none⟩)) w := by go_simp
set_option maxRecDepth 100000 in
theorem dc_f5 {g : Nat} {w : World} : (Instr.fieldAt 43 (.pointer (some ⟨g, 0, none⟩)) 5).run Tryd.prog w = .ok (.pointer (some ⟨g, 13, none⟩)) w := by go_simp
set_option maxRecDepth 100000 in
theorem dc_f6 {g : Nat} {w : World} : (Instr.fieldAt 43 (.pointer (some ⟨g, 0, none⟩)) 6).run Tryd.prog w = .ok (.pointer (some ⟨g, 14, none⟩)) w := by go_simp
set_option maxRecDepth 100000 in
theorem dc_f7 {g : Nat} {w : World} : (Instr.fieldAt 43 (.pointer (some ⟨g, 0, none⟩)) 7).run Tryd.prog w = .ok (.pointer (some ⟨g, 15, none⟩)) w := by go_simp
set_option maxRecDepth 100000 in
theorem load_memsS {b o n c : Nat} {w : World} {A : Option Addr} (h : w.cell? ⟨b, o, none⟩ = some (.slice A n c)) : (Instr.loadAt 40 (.pointer (some ⟨b, o, none⟩))).run Tryd.prog w = .ok (.slice A n c) w := by go_simp
set_option maxRecDepth 100000 in
theorem load_ctorsS {b o n c : Nat} {w : World} {A : Option Addr} (h : w.cell? ⟨b, o, none⟩ = some (.slice A n c)) : (Instr.loadAt 41 (.pointer (some ⟨b, o, none⟩))).run Tryd.prog w = .ok (.slice A n c) w := by go_simp
theorem infoLvS : (Tryd.prog.info? 39).map (·.size) = some 1 := by kernel_rfl
theorem load_lvl {b o n c : Nat} {w : World} {A : Option Addr} (h : w.cell? ⟨b, o, none⟩ = some (.slice A n c)) : (Instr.loadAt 39 (.pointer (some ⟨b, o, none⟩))).run Tryd.prog w = .ok (.agg #[.slice A n c]) w :=
  run_loadAt_cells Tryd.underlying39 rfl infoLvS rfl fun j hj => by
    obtain rfl : j = 0 := by omega
    exact h
set_option maxRecDepth 100000 in
theorem enter_lright (vs : Array Value) (w : World) : (callFunc 70 vs).run Tryd.prog w = .ok (.enter 70 vs) w := by go_simp
/-- a block's own parts are right -/
def BlockSrc (n : Int) (ds : List Dc) (d : Dc) : Prop := RightS d.sort d.lev ∧ 0 < d.mems.length ∧ d.mems.length ≤ 8 ∧ d.ctors.length ≤ 16 ∧ RowSrc n 0 0 ds d.pars 6 ∧ (∀ m ∈ d.mems, RowSrc n d.pars.length 0 ds m 6) ∧ ∀ c ∈ d.ctors, 0 ≤ c.1 ∧ c.1 < (d.mems.length : Int) ∧ RightSrc n d.pars.length d.mems.length ds c.2
noncomputable def blockSB (n : Int) (ds : List Dc) (d : Dc) : Bool := by classical exact decide (BlockSrc n ds d)
theorem blockSB_iff (n : Int) (ds : List Dc) (d : Dc) : blockSB n ds d = true ↔ BlockSrc n ds d := by unfold blockSB; simp
set_option maxRecDepth 100000 in
set_option maxHeartbeats 16000000 in
theorem sblock_any (n : Int) (ds : List Dc) (Ad : Option Addr) (nd cd : Nat) (d : Dc) (cs : Array Value) (w : World) (hK : KindsAll w) (hds : Dcs w w.heap.size Ad cd ds) (hnd : ds.length = nd) (hdc : DcAt w w.heap.size d cs) (hft : d.fits) (hal : d.all ≤ 1048576) :
    Calls Tryd.prog 44 #[OvV Ad nd cd n 0 0, .agg cs] w (MustPost w 4 (blockSB n ds d)) := by
  obtain ⟨r, hr⟩ : ∃ r, blockSB n ds d = r := ⟨_, rfl⟩
  have hrr : r = true ↔ BlockSrc n ds d := by rw [← hr, blockSB_iff]
  rw [hr]
  obtain ⟨kd, ld, ty, bo, pars, sort, mems, ctors⟩ := d
  obtain ⟨a0, a1, a2, a3, a4, b0, b1, b2, b3, b4, Ap, As, Am, Ac, cp, cz, cm, cc, rfl, _, _, h3, _, h5, h6, h7⟩ := hdc
  obtain ⟨hf1, hf2, hf3, hf4, hf5⟩ := hft
  simp only at h3 h5 h6 h7 hf3 hf4 hf5
  have hok := Dc.all_ok hal
  obtain ⟨_, _, hok3, hok4, hok5, hok6, hok7, hok8⟩ := hok
  simp only at hok3 hok4 hok5 hok6 hok7 hok8
  clear hal hf1 hf2 hr
  obtain ⟨Pn, hP⟩ : ∃ x, pars.length = x := ⟨_, rfl⟩
  obtain ⟨S, hS9⟩ : ∃ x, sort.length = x := ⟨_, rfl⟩
  obtain ⟨M, hM⟩ : ∃ x, mems.length = x := ⟨_, rfl⟩
  obtain ⟨C, hC⟩ : ∃ x, ctors.length = x := ⟨_, rfl⟩
  have hrr : r = true ↔ RightS sort ld ∧ 0 < M ∧ M ≤ 8 ∧ C ≤ 16 ∧ RowSrc n 0 0 ds pars 6 ∧ (∀ m ∈ mems, RowSrc n (Pn : Int) 0 ds m 6) ∧ ∀ c ∈ ctors, 0 ≤ c.1 ∧ c.1 < (M : Int) ∧ RightSrc n (Pn : Int) (M : Int) ds c.2 := by rw [hrr, ← hP, ← hM, ← hC]; rfl
  simp only [hP, hS9, hM, hC]
  have hw0 : 0 < w.heap.size := cell_lt (hK 0 (by decide)).1
  obtain ⟨w1, hw1⟩ : ∃ x, (w.alloc (.cells #[.slice Ad nd cd, .int .i64 n, .int .i64 0, .int .i64 0] 69)).alloc (.cells #[.int .i64 kd, .int .i64 ld, a0, a1, a2, a3, a4, b0, b1, b2, b3, b4, .slice Ap Pn cp, .slice As S cz, .slice Am M cm, .slice Ac C cc] 43) = x := ⟨_, rfl⟩
  have hb1 : Below w.heap.size w w1 := by rw [← hw1]; exact stwo w _ _
  have hs1 : w1.heap.size = w.heap.size + 1 + 1 := by rw [← hw1]; simp
  obtain ⟨z1, z2, _⟩ := two_allocs w (.cells #[.slice Ad nd cd, .int .i64 n, .int .i64 0, .int .i64 0] 69) (.cells #[.int .i64 kd, .int .i64 ld, a0, a1, a2, a3, a4, b0, b1, b2, b3, b4, .slice Ap Pn cp, .slice As S cz, .slice Am M cm, .slice Ac C cc] 43)
  rw [hw1] at z1 z2
  obtain ⟨cs, hcs⟩ : ∃ x : Array Value, #[.int .i64 kd, .int .i64 ld, a0, a1, a2, a3, a4, b0, b1, b2, b3, b4, .slice Ap Pn cp, .slice As S cz, .slice Am M cm, .slice Ac C cc] = x := ⟨_, rfl⟩
  have q1 : cs[1]? = some (.int .i64 ld) := by rw [← hcs]; rfl
  have q12 : cs[12]? = some (.slice Ap Pn cp) := by rw [← hcs]; rfl
  have q13 : cs[13]? = some (.slice As S cz) := by rw [← hcs]; rfl
  have q14 : cs[14]? = some (.slice Am M cm) := by rw [← hcs]; rfl
  have q15 : cs[15]? = some (.slice Ac C cc) := by rw [← hcs]; rfl
  rw [hcs] at z2 hw1 ⊢
  have Q12 := Lib.hid q12
  have Q14 := Lib.hid q14
  have Q15 := Lib.hid q15
  have f1 := (cell_of_row _ _ 1 _ _ (0, 0) z2).trans q1
  have f13 := (cell_of_row _ _ 13 _ _ (0, 0) z2).trans q13
  have f14 := (cell_of_row _ _ 14 _ _ (0, 0) z2).trans q14
  have f15 := (cell_of_row _ _ 15 _ _ (0, 0) z2).trans q15
  have X0 := Lib.hid z1
  have X1 := Lib.hid z2
  have HB1 := Lib.hid hb1
  have HS1 := Lib.hid hs1
  have HRR := Lib.hid hrr
  have HK := Lib.hid hK
  have HDS := Lib.hid hds
  have HND := Lib.hid hnd
  have HPT := Lib.hid h3
  have HSL := Lib.hid h5
  have HMM := Lib.hid h6
  have HCC := Lib.hid h7
  have HP := Lib.hid hP
  have HM9 := Lib.hid hM
  have HC9 := Lib.hid hC
  have HF3 : Hid (∀ t ∈ pars, t.fit ∧ t.size ≤ 1073741824) := fun t ht => ⟨hf3 t ht, by have h1 := Tm.size_le_count t; have h2 := Tm.countL_mem ht; omega⟩
  have HF4 : Hid (∀ m ∈ mems, m.length ≤ 1048576 ∧ ∀ t ∈ m, t.fit ∧ t.size ≤ 1073741824) := fun m hm => ⟨by have h1 := hok6 m hm; have h2 := Tm.countL_length m; omega, fun t ht => ⟨hf4 m hm t ht, by have h1 := Tm.size_le_count t; have h2 := Tm.countL_mem ht; have h3 := hok6 m hm; omega⟩⟩
  have HF5 : Hid (∀ c ∈ ctors, c.2.fit ∧ c.2.size ≤ 1073741824) := fun c hc => ⟨hf5 c hc, by have h1 := Tm.size_le_count c.2; have h2 := hok8 c hc; omega⟩
  have hPn : Pn ≤ 1048576 := by rw [← hP]; have h2 := Tm.countL_length pars; omega
  have hMn : M ≤ 1048576 := by omega
  have hCn : C ≤ 1048576 := by omega
  obtain ⟨rb, hrb⟩ : ∃ x, rlS sort ld = x := ⟨_, rfl⟩
  have HRB := Lib.hid hrb
  have HLR : Hid (∀ W, Below w1.heap.size w1 W → Calls Tryd.prog 70 #[.agg #[.slice As S cz], .int .i64 ld] W (HasPost W rb)) := fun W hW => by
    have hbx := hb1.trans (hW.mono hb1.size)
    rw [← hS9]
    exact right_any As sort cz ld W (by unfold maxLen; omega) ((h5.below hbx).more hbx.size) rb (by rw [← hrb]; exact rlS_iff ..)
  obtain ⟨b1, hg1⟩ : ∃ x, decide ((0 : Int) < (M : Int)) = x := ⟨_, rfl⟩
  obtain ⟨b2, hg2⟩ : ∃ x, decide ((M : Int) ≤ 8) = x := ⟨_, rfl⟩
  obtain ⟨b3, hg3⟩ : ∃ x, decide ((C : Int) ≤ 16) = x := ⟨_, rfl⟩
  have HG1 := Lib.hid hg1
  have HG2 := Lib.hid hg2
  have HG3 := Lib.hid hg3
  have k1 : w.heap.size + 1 < w1.heap.size := by omega
  have hS : Below w1.heap.size w1 w1.drew := (Below.refl _ _).drew
  have hB9 : True := trivial
  unfold OvV
  clear hrr hK hds hnd h3 h5 h6 h7 hf3 hf4 hf5 hok3 hok4 hok5 hok6 hok7 hok8 hP hS9 hM hC hb1 hs1 z1 z2 q1 q12 q13 q14 q15 hrb hg1 hg2 hg3 hcs hB9
  go_enter Tryd.func44, Tryd.ntmps44
  go_upto_region 1 with (fail)
  refine wp_region_tail 17 (fun w' => Below w1.heap.size w1 w') (fun w1 w2 : World => Below w1.heap.size w1 w2) [(fun (x : Value) (_ : World) => x = (.pointer (some ⟨w.heap.size + 1, 13, none⟩) : Value)), (fun (x : Value) (_ : World) => x = (.agg #[.slice As S cz] : Value)), (fun (x : Value) (_ : World) => x = (.pointer (some ⟨w.heap.size + 1, 1, none⟩) : Value)), (fun (x : Value) (_ : World) => x = (.int .i64 ld : Value)), (fun (x : Value) (_ : World) => x = (.bool rb : Value)), (fun (x : Value) (_ : World) => x = (.pointer (some ⟨w.heap.size + 1, 14, none⟩) : Value)), (fun (x : Value) (_ : World) => x = (.slice Am M cm : Value)), (fun (x : Value) (_ : World) => x = (.int .i64 (M : Int) : Value)), (fun (x : Value) (_ : World) => x = (.bool b1 : Value)), (fun (x : Value) (_ : World) => x = (.pointer (some ⟨w.heap.size + 1, 14, none⟩) : Value)), (fun (x : Value) (_ : World) => x = (.slice Am M cm : Value)), (fun (x : Value) (_ : World) => x = (.int .i64 (M : Int) : Value)), (fun (x : Value) (_ : World) => x = (.bool b2 : Value)), (fun (x : Value) (_ : World) => x = (.pointer (some ⟨w.heap.size + 1, 15, none⟩) : Value)), (fun (x : Value) (_ : World) => x = (.slice Ac C cc : Value)), (fun (x : Value) (_ : World) => x = (.int .i64 (C : Int) : Value)), (fun (x : Value) (_ : World) => x = (.bool b3 : Value))] [⟨some 8, .fieldAddr 43 (.tmp 3) 5, none, []⟩, ⟨some 9, .load 39 (.tmp 8), none, [(8, 0)]⟩, ⟨some 10, .fieldAddr 43 (.tmp 3) 1, none, []⟩, ⟨some 11, .load 3 (.tmp 10), none, [(10, 2)]⟩, ⟨some 12, .call { callee := .value (.func 70), args := #[.tmp 9, .tmp 11], argTypes := #[39, 3] }, none, [(9, 1), (11, 3)]⟩, ⟨some 13, .fieldAddr 43 (.tmp 3) 6, none, []⟩, ⟨some 14, .load 40 (.tmp 13), none, [(13, 5)]⟩, ⟨some 15, .call { callee := .builtin .len, args := #[.tmp 14], argTypes := #[40] }, none, [(14, 6)]⟩, ⟨some 16, .binOp .gtr 3 (.tmp 15) (.const (.int .i64 0)) 3, none, [(15, 7)]⟩, ⟨some 17, .fieldAddr 43 (.tmp 3) 6, none, []⟩, ⟨some 18, .load 40 (.tmp 17), none, [(17, 9)]⟩, ⟨some 19, .call { callee := .builtin .len, args := #[.tmp 18], argTypes := #[40] }, none, [(18, 10)]⟩, ⟨some 20, .binOp .leq 3 (.tmp 19) (.const (.int .i64 8)) 3, none, [(19, 11)]⟩, ⟨some 21, .fieldAddr 43 (.tmp 3) 7, none, []⟩, ⟨some 22, .load 41 (.tmp 21), none, [(21, 13)]⟩, ⟨some 23, .call { callee := .builtin .len, args := #[.tmp 22], argTypes := #[41] }, none, [(22, 14)]⟩, ⟨some 24, .binOp .leq 3 (.tmp 23) (.const (.int .i64 16)) 3, none, [(23, 15)]⟩] [some 8, some 9, some 10, some 11, some 12, some 13, some 14, some 15, some 16, some 17, some 18, some 19, some 20, some 21, some 22, some 23, some 24] [] [] (by kernel_rfl) (by kernel_rfl) (by kernel_rfl) (by kernel_rfl) (by kernel_rfl) (by kernel_rfl) (by kernel_rfl) (by kernel_rfl) ?hrun ?hold ?hS ?hmono ?hsteps ?hfin
  case hrun => exact fun p hp => by cases hp
  case hold => exact fun p hp => by cases hp
  case hS => exact hS
  case hmono =>
    refine MonoL.cons (fun x w1 w2 _ _ _ hx => hx) ?_
    refine MonoL.cons (fun x w1 w2 _ _ _ hx => hx) ?_
    refine MonoL.cons (fun x w1 w2 _ _ _ hx => hx) ?_
    refine MonoL.cons (fun x w1 w2 _ _ _ hx => hx) ?_
    refine MonoL.cons (fun x w1 w2 _ _ _ hx => hx) ?_
    refine MonoL.cons (fun x w1 w2 _ _ _ hx => hx) ?_
    refine MonoL.cons (fun x w1 w2 _ _ _ hx => hx) ?_
    refine MonoL.cons (fun x w1 w2 _ _ _ hx => hx) ?_
    refine MonoL.cons (fun x w1 w2 _ _ _ hx => hx) ?_
    refine MonoL.cons (fun x w1 w2 _ _ _ hx => hx) ?_
    refine MonoL.cons (fun x w1 w2 _ _ _ hx => hx) ?_
    refine MonoL.cons (fun x w1 w2 _ _ _ hx => hx) ?_
    refine MonoL.cons (fun x w1 w2 _ _ _ hx => hx) ?_
    refine MonoL.cons (fun x w1 w2 _ _ _ hx => hx) ?_
    refine MonoL.cons (fun x w1 w2 _ _ _ hx => hx) ?_
    refine MonoL.cons (fun x w1 w2 _ _ _ hx => hx) ?_
    refine MonoL.cons (fun x w1 w2 _ _ _ hx => hx) ?_
    exact MonoL.nil
  case hsteps =>
    refine StepsT.cons (fun (x : Value) (_ : World) => x = (.pointer (some ⟨w.heap.size + 1, 13, none⟩) : Value)) [] rfl rfl (fun oq hop _ wq hQS => ?_) ?_
    · exact StepFrom.fieldAddr hop (p := (.pointer (some ⟨w.heap.size + 1, 0, none⟩) : Value)) (by kernel_rfl) (dc_f5) (by kernel_rfl) hQS (Below.refl _ _) rfl
    refine StepsT.cons (fun (x : Value) (_ : World) => x = (.agg #[.slice As S cz] : Value)) [(8, (fun (x : Value) (_ : World) => x = (.pointer (some ⟨w.heap.size + 1, 13, none⟩) : Value)))] rfl rfl (fun oq hop _ wq hQS => ?_) ?_
    · refine StepFrom.more_eq ((.pointer (some ⟨w.heap.size + 1, 13, none⟩) : Value)) ?_
      exact StepFrom.load hop (p := (.pointer (some ⟨w.heap.size + 1, 13, none⟩) : Value)) (by kernel_rfl) (load_lvl ((hQS.cell (p := ⟨w.heap.size + 1, 13, none⟩) k1).trans f13)) (by kernel_rfl) hQS (Below.refl _ _) rfl
    refine StepsT.cons (fun (x : Value) (_ : World) => x = (.pointer (some ⟨w.heap.size + 1, 1, none⟩) : Value)) [] rfl rfl (fun oq hop _ wq hQS => ?_) ?_
    · exact StepFrom.fieldAddr hop (p := (.pointer (some ⟨w.heap.size + 1, 0, none⟩) : Value)) (by kernel_rfl) (dc_f1) (by kernel_rfl) hQS (Below.refl _ _) rfl
    refine StepsT.cons (fun (x : Value) (_ : World) => x = (.int .i64 ld : Value)) [(10, (fun (x : Value) (_ : World) => x = (.pointer (some ⟨w.heap.size + 1, 1, none⟩) : Value)))] rfl rfl (fun oq hop _ wq hQS => ?_) ?_
    · refine StepFrom.more_eq ((.pointer (some ⟨w.heap.size + 1, 1, none⟩) : Value)) ?_
      exact StepFrom.load hop (p := (.pointer (some ⟨w.heap.size + 1, 1, none⟩) : Value)) (by kernel_rfl) (load_int ((hQS.cell (p := ⟨w.heap.size + 1, 1, none⟩) k1).trans f1)) (by kernel_rfl) hQS (Below.refl _ _) rfl
    refine StepsT.cons (fun (x : Value) (_ : World) => x = (.bool rb : Value)) [(9, (fun (x : Value) (_ : World) => x = (.agg #[.slice As S cz] : Value))), (11, (fun (x : Value) (_ : World) => x = (.int .i64 ld : Value)))] rfl rfl (fun oq hop _ wq hQS => ?_) ?_
    · refine StepFrom.more_eq ((.agg #[.slice As S cz] : Value)) ?_
      refine StepFrom.more_eq ((.int .i64 ld : Value)) ?_
      exact StepFrom.call hop (vs := [(.agg #[.slice As S cz] : Value), (.int .i64 ld : Value)]) (by kernel_rfl) (fun w => enter_lright _ w) (by kernel_rfl) ((HLR.out wq hQS).mono fun e w9 h9 => by obtain ⟨q1, q2⟩ := h9; exact ⟨_, q1, hQS.trans (q2.mono hQS.size), q2, rfl⟩)
    refine StepsT.cons (fun (x : Value) (_ : World) => x = (.pointer (some ⟨w.heap.size + 1, 14, none⟩) : Value)) [] rfl rfl (fun oq hop _ wq hQS => ?_) ?_
    · exact StepFrom.fieldAddr hop (p := (.pointer (some ⟨w.heap.size + 1, 0, none⟩) : Value)) (by kernel_rfl) (dc_f6) (by kernel_rfl) hQS (Below.refl _ _) rfl
    refine StepsT.cons (fun (x : Value) (_ : World) => x = (.slice Am M cm : Value)) [(13, (fun (x : Value) (_ : World) => x = (.pointer (some ⟨w.heap.size + 1, 14, none⟩) : Value)))] rfl rfl (fun oq hop _ wq hQS => ?_) ?_
    · refine StepFrom.more_eq ((.pointer (some ⟨w.heap.size + 1, 14, none⟩) : Value)) ?_
      exact StepFrom.load hop (p := (.pointer (some ⟨w.heap.size + 1, 14, none⟩) : Value)) (by kernel_rfl) (load_memsS ((hQS.cell (p := ⟨w.heap.size + 1, 14, none⟩) k1).trans f14)) (by kernel_rfl) hQS (Below.refl _ _) rfl
    refine StepsT.cons (fun (x : Value) (_ : World) => x = (.int .i64 (M : Int) : Value)) [(14, (fun (x : Value) (_ : World) => x = (.slice Am M cm : Value)))] rfl rfl (fun oq hop _ wq hQS => ?_) ?_
    · refine StepFrom.more_eq ((.slice Am M cm : Value)) ?_
      exact StepFrom.lenM hop (show _ = (.slice Am M cm : Value) by kernel_rfl) (by kernel_rfl) hQS (Below.refl _ _) rfl
    refine StepsT.cons (fun (x : Value) (_ : World) => x = (.bool b1 : Value)) [(15, (fun (x : Value) (_ : World) => x = (.int .i64 (M : Int) : Value)))] rfl rfl (fun oq hop _ wq hQS => ?_) ?_
    · refine StepFrom.more_eq ((.int .i64 (M : Int) : Value)) ?_
      exact StepFrom.bin hop (vx := (.int .i64 (M : Int) : Value)) (vy := (.int .i64 0 : Value)) (by kernel_rfl) (by kernel_rfl) (gtr_to _ _ _ HG1.out) (by kernel_rfl) hQS (Below.refl _ _) rfl
    refine StepsT.cons (fun (x : Value) (_ : World) => x = (.pointer (some ⟨w.heap.size + 1, 14, none⟩) : Value)) [] rfl rfl (fun oq hop _ wq hQS => ?_) ?_
    · exact StepFrom.fieldAddr hop (p := (.pointer (some ⟨w.heap.size + 1, 0, none⟩) : Value)) (by kernel_rfl) (dc_f6) (by kernel_rfl) hQS (Below.refl _ _) rfl
    refine StepsT.cons (fun (x : Value) (_ : World) => x = (.slice Am M cm : Value)) [(17, (fun (x : Value) (_ : World) => x = (.pointer (some ⟨w.heap.size + 1, 14, none⟩) : Value)))] rfl rfl (fun oq hop _ wq hQS => ?_) ?_
    · refine StepFrom.more_eq ((.pointer (some ⟨w.heap.size + 1, 14, none⟩) : Value)) ?_
      exact StepFrom.load hop (p := (.pointer (some ⟨w.heap.size + 1, 14, none⟩) : Value)) (by kernel_rfl) (load_memsS ((hQS.cell (p := ⟨w.heap.size + 1, 14, none⟩) k1).trans f14)) (by kernel_rfl) hQS (Below.refl _ _) rfl
    refine StepsT.cons (fun (x : Value) (_ : World) => x = (.int .i64 (M : Int) : Value)) [(18, (fun (x : Value) (_ : World) => x = (.slice Am M cm : Value)))] rfl rfl (fun oq hop _ wq hQS => ?_) ?_
    · refine StepFrom.more_eq ((.slice Am M cm : Value)) ?_
      exact StepFrom.lenM hop (show _ = (.slice Am M cm : Value) by kernel_rfl) (by kernel_rfl) hQS (Below.refl _ _) rfl
    refine StepsT.cons (fun (x : Value) (_ : World) => x = (.bool b2 : Value)) [(19, (fun (x : Value) (_ : World) => x = (.int .i64 (M : Int) : Value)))] rfl rfl (fun oq hop _ wq hQS => ?_) ?_
    · refine StepFrom.more_eq ((.int .i64 (M : Int) : Value)) ?_
      exact StepFrom.bin hop (vx := (.int .i64 (M : Int) : Value)) (vy := (.int .i64 8 : Value)) (by kernel_rfl) (by kernel_rfl) (leq_toS _ _ _ HG2.out) (by kernel_rfl) hQS (Below.refl _ _) rfl
    refine StepsT.cons (fun (x : Value) (_ : World) => x = (.pointer (some ⟨w.heap.size + 1, 15, none⟩) : Value)) [] rfl rfl (fun oq hop _ wq hQS => ?_) ?_
    · exact StepFrom.fieldAddr hop (p := (.pointer (some ⟨w.heap.size + 1, 0, none⟩) : Value)) (by kernel_rfl) (dc_f7) (by kernel_rfl) hQS (Below.refl _ _) rfl
    refine StepsT.cons (fun (x : Value) (_ : World) => x = (.slice Ac C cc : Value)) [(21, (fun (x : Value) (_ : World) => x = (.pointer (some ⟨w.heap.size + 1, 15, none⟩) : Value)))] rfl rfl (fun oq hop _ wq hQS => ?_) ?_
    · refine StepFrom.more_eq ((.pointer (some ⟨w.heap.size + 1, 15, none⟩) : Value)) ?_
      exact StepFrom.load hop (p := (.pointer (some ⟨w.heap.size + 1, 15, none⟩) : Value)) (by kernel_rfl) (load_ctorsS ((hQS.cell (p := ⟨w.heap.size + 1, 15, none⟩) k1).trans f15)) (by kernel_rfl) hQS (Below.refl _ _) rfl
    refine StepsT.cons (fun (x : Value) (_ : World) => x = (.int .i64 (C : Int) : Value)) [(22, (fun (x : Value) (_ : World) => x = (.slice Ac C cc : Value)))] rfl rfl (fun oq hop _ wq hQS => ?_) ?_
    · refine StepFrom.more_eq ((.slice Ac C cc : Value)) ?_
      exact StepFrom.lenC hop (show _ = (.slice Ac C cc : Value) by kernel_rfl) (by kernel_rfl) hQS (Below.refl _ _) rfl
    refine StepsT.cons (fun (x : Value) (_ : World) => x = (.bool b3 : Value)) [(23, (fun (x : Value) (_ : World) => x = (.int .i64 (C : Int) : Value)))] rfl rfl (fun oq hop _ wq hQS => ?_) ?_
    · refine StepFrom.more_eq ((.int .i64 (C : Int) : Value)) ?_
      exact StepFrom.bin hop (vx := (.int .i64 (C : Int) : Value)) (vy := (.int .i64 16 : Value)) (by kernel_rfl) (by kernel_rfl) (leq_toS _ _ _ HG3.out) (by kernel_rfl) hQS (Below.refl _ _) rfl
    exact StepsT.nil
  case hfin =>
    intro wf hFS
    refine FinalFrom.more fun x8 h8 => ?_
    refine FinalFrom.more fun x9 h9 => ?_
    refine FinalFrom.more fun x10 h10 => ?_
    refine FinalFrom.more fun x11 h11 => ?_
    refine FinalFrom.more fun x12 h12 => ?_
    refine FinalFrom.more fun x13 h13 => ?_
    refine FinalFrom.more fun x14 h14 => ?_
    refine FinalFrom.more fun x15 h15 => ?_
    refine FinalFrom.more fun x16 h16 => ?_
    refine FinalFrom.more fun x17 h17 => ?_
    refine FinalFrom.more fun x18 h18 => ?_
    refine FinalFrom.more fun x19 h19 => ?_
    refine FinalFrom.more fun x20 h20 => ?_
    refine FinalFrom.more fun x21 h21 => ?_
    refine FinalFrom.more fun x22 h22 => ?_
    refine FinalFrom.more fun x23 h23 => ?_
    refine FinalFrom.more fun x24 h24 => ?_
    refine FinalFrom.done ?_
    intro _
    obtain rfl : x12 = (.bool rb : Value) := h12
    obtain rfl : x16 = (.bool b1 : Value) := h16
    obtain rfl : x20 = (.bool b2 : Value) := h20
    obtain rfl : x24 = (.bool b3 : Value) := h24
    simp only [Act.put, List.setIfInBounds_toArray, List.set_cons_zero, List.set_cons_succ, List.drop_succ_cons, List.drop_zero]
    have HBF : Hid (Below w1.heap.size w1 wf) := hFS
    have HM := Lib.hid (smust_four rb b1 b2 b3 wf wf.heap.size rfl)
    clear hS hFS f1 f13 f14 f15 HLR
    go_wp2_with (fail)
    refine HM.out.mono ?_
    rintro e w4 h
    clear HM
    cases hb4 : (rb && b1 && b2 && b3) with
    | false =>
      rw [hb4] at h
      obtain ⟨rfl, hb⟩ := h.2 rfl
      have HFF : Hid (MustPost w 4 r (.panicked [{ v := .iface 112 (.int .i64 4), recovered := false }]) w4) := by
        have hrf : r = false := by
          cases r with
          | false => rfl
          | true =>
                obtain ⟨q1, q2, q3, q4, _⟩ := HRR.out.1 rfl
                have e0 := HRB.out
                rw [(rlS_iff ..).2 q1] at e0
                have e1 := HG1.out
                rw [decide_eq_true (by omega)] at e1
                have e2 := HG2.out
                rw [decide_eq_true (by omega)] at e2
                have e3 := HG3.out
                rw [decide_eq_true (by omega)] at e3
                rw [← e0, ← e1, ← e2, ← e3] at hb4
                cases hb4
        rw [hrf]
        exact MustPost.no ⟨rfl, HB1.out.trans ((HBF.out.trans (hb.mono HBF.out.size)).mono HB1.out.size)⟩
      clear h hb hb4
      go_wp2
      exact ⟨rfl, HFF.out⟩
    | true =>
      rw [hb4] at h
      obtain ⟨rfl, hb⟩ := h.1 rfl
      have HFOUR : Hid (RightS sort ld ∧ 0 < M ∧ M ≤ 8 ∧ C ≤ 16) := by
        simp only [Bool.and_eq_true] at hb4
        obtain ⟨⟨⟨e0, e1⟩, e2⟩, e3⟩ := hb4
        have g0 := HRB.out
        have g1 := HG1.out
        have g2 := HG2.out
        have g3 := HG3.out
        rw [e0] at g0
        rw [e1] at g1
        rw [e2] at g2
        rw [e3] at g3
        have g1 := of_decide_eq_true g1
        have g2 := of_decide_eq_true g2
        have g3 := of_decide_eq_true g3
        exact ⟨(rlS_iff ..).1 g0, by omega, by omega, by omega⟩
      have HB4 : Hid (Below w1.heap.size w1 w4) := HBF.out.trans (hb.mono HBF.out.size)
      have hbw4 : Below w.heap.size w w4 := HB1.out.trans (HB4.out.mono HB1.out.size)
      have y0 := (HB4.out.block _ (heap_some_lt X0.out)).trans X0.out
      have y1 := (HB4.out.block _ (heap_some_lt X1.out)).trans X1.out
      have c0 := cell_of_row _ _ 0 _ _ (0, 0) y0
      have c1 := cell_of_row _ _ 1 _ _ (0, 0) y0
      have c2 := cell_of_row _ _ 2 _ _ (0, 0) y0
      have c3 := cell_of_row _ _ 3 _ _ (0, 0) y0
      have d12 := (cell_of_row _ _ 12 _ _ (0, 0) y1).trans Q12.out
      have Y0 := Lib.hid y0
      have Y1 := Lib.hid y1
      have HW4 := Lib.hid hbw4
      obtain ⟨rp, hrp⟩ : ∃ x, rowSB n 0 0 ds pars 6 = x := ⟨_, rfl⟩
      have HRP := Lib.hid hrp
      have HROW : Hid (Calls Tryd.prog 71 #[OvV Ad nd cd n 0 0, .slice Ap Pn cp, .int .i64 6] w4 (MustPost w4 4 rp)) := by
        have h := srow_any n 0 0 ds Ad nd cd pars Ap Pn cp 6 w4 (HK.out.below hbw4 hw0) (HDS.out.below hbw4 hbw4.size) HND.out (HPT.out.below hbw4 hbw4.size) HP.out hPn HF3.out (by omega) (by omega)
        rw [hrp] at h
        exact h
      unfold OvV at HROW
      clear h hb hb4 y0 y1 hbw4 hrp HBF X0 X1 HG1 HG2 HG3 HRB
      go_wp2_with (fail)
      refine HROW.out.mono ?_
      rintro e w5 h
      clear HROW c0 c1 c2 c3 d12
      cases rp with
      | false =>
        obtain ⟨rfl, hb⟩ := h.2 rfl
        have HFF : Hid (MustPost w 4 r (.panicked [{ v := .iface 112 (.int .i64 4), recovered := false }]) w5) := by
          have hrf : r = false := by
            cases r with
            | false => rfl
            | true =>
                    have h1 := (HRR.out.1 rfl).2.2.2.2.1
                    rw [← rowSB_iff, HRP.out] at h1
                    cases h1
          rw [hrf]
          exact MustPost.no ⟨rfl, HW4.out.trans (hb.mono HW4.out.size)⟩
        clear h hb
        go_wp2
        exact ⟨rfl, HFF.out⟩
      | true =>
        obtain ⟨rfl, hb⟩ := h.1 rfl
        have y0 := (hb.block _ (heap_some_lt Y0.out)).trans Y0.out
        have y1 := (hb.block _ (heap_some_lt Y1.out)).trans Y1.out
        have c2 := cell_of_row _ _ 2 _ _ (0, 0) y0
        have u2 := thawed y0 2
        have d12 := (cell_of_row _ _ 12 _ _ (0, 0) y1).trans Q12.out
        obtain ⟨w6, hw6⟩ : ∃ x, w5.setCell ⟨w.heap.size, 2, none⟩ (.int .i64 (Pn : Int)) = x := ⟨_, rfl⟩
        have z0 : w6.heap[w.heap.size]? = some (.cells #[.slice Ad nd cd, .int .i64 n, .int .i64 (Pn : Int), .int .i64 0] 69 (0, 0)) := by rw [← hw6]; exact set_same y0 2 _
        have z1 : w6.heap[w.heap.size + 1]? = some (.cells cs 43 (0, 0)) := by rw [← hw6]; exact (Below.heap_setCell _ _ _ _ (by show w.heap.size + 1 ≠ w.heap.size; omega)).trans y1
        have hbw6 : Below w.heap.size w w6 := by rw [← hw6]; exact (HW4.out.trans (hb.mono HW4.out.size)).setCell (Nat.le_refl _) _
        have d14 := (cell_of_row _ _ 14 _ _ (0, 0) z1).trans Q14.out
        have Z0 := Lib.hid z0
        have Z1 := Lib.hid z1
        have HW6 := Lib.hid hbw6
        clear h hb y0 y1 z0 z1 hbw6 Y0 Y1
        go_wp2_with (fail)
        go_loopw [38] (fun i wr => ∃ q : Nat, q ≤ M ∧ i = .int .i64 q ∧ Below w6.heap.size w6 wr ∧ ∀ (j : Nat) (m : List Tm), j < q → mems[j]? = some m → RowSrc n (Pn : Int) 0 ds m 6) (fun i _ => M - (intOf i).toNat)
        case atStart => exact ⟨0, Nat.zero_le _, rfl, Below.refl _ _, fun j t hj => absurd hj (by omega)⟩
        case round =>
          obtain ⟨q, hq, rfl, hbq, hall⟩ := hrel
          clear c2 u2 d12 d14 hw6
          by_cases hlt : q < M
          · have hlen := HM9.out
            obtain ⟨m, hm⟩ : ∃ m, mems[q]? = some m := ⟨mems[q]'(by omega), List.getElem?_eq_getElem (by omega)⟩
            have hbr : Below w.heap.size w wr := HW6.out.trans (hbq.mono HW6.out.size)
            obtain ⟨b, o, rfl, hbB, hcel⟩ := HMM.out.2 (by omega)
            obtain ⟨Ai, ci, g0, g1⟩ := hcel q m hm
            have g0 := (hbr.cell (p := ⟨b, o + q, none⟩) hbB).trans g0
            obtain ⟨ml, hml⟩ : ∃ x, m.length = x := ⟨_, rfl⟩
            rw [hml] at g0
            obtain ⟨wa, hwa⟩ : ∃ x, wr.alloc (.cells #[.slice Ai ml ci] 47) = x := ⟨_, rfl⟩
            have hba : Below wr.heap.size wr wa := by rw [← hwa]; exact (Below.refl _ _).alloc (Nat.le_refl _) _
            have za : wa.heap[wr.heap.size]? = some (.cells #[.slice Ai ml ci] 47 (0, 0)) := by rw [← hwa]; exact heap_alloc_new wr _
            have s0 := cell_of_row _ _ 0 _ _ (0, 0) za
            have hqz := hbq.size
            have z0lt := heap_some_lt Z0.out
            have hxa := (hba.block w.heap.size (by omega)).trans ((hbq.block w.heap.size z0lt).trans Z0.out)
            have e0 := cell_of_row _ _ 0 _ _ (0, 0) hxa
            have e1 := cell_of_row _ _ 1 _ _ (0, 0) hxa
            have e2 := cell_of_row _ _ 2 _ _ (0, 0) hxa
            have e3 := cell_of_row _ _ 3 _ _ (0, 0) hxa
            have hbwa : Below w.heap.size w wa := hbr.trans (hba.mono hbr.size)
            obtain ⟨hm9, hmf⟩ := HF4.out m (List.mem_of_getElem? hm)
            obtain ⟨rm, hrm⟩ : ∃ x, rowSB n (Pn : Int) 0 ds m 6 = x := ⟨_, rfl⟩
            have HROW : Hid (Calls Tryd.prog 71 #[OvV Ad nd cd n (Pn : Int) 0, .slice Ai ml ci, .int .i64 6] wa (MustPost wa 4 rm)) := by
              have h := srow_any n (Pn : Int) 0 ds Ad nd cd m Ai ml ci 6 wa (HK.out.below hbwa hw0) (HDS.out.below hbwa hbwa.size) HND.out (g1.below hbwa hbwa.size) hml (by omega) hmf (by omega) (by omega)
              rw [hrm] at h
              exact h
            unfold OvV at HROW
            have HBA : Hid (Below w6.heap.size w6 wa) := hbq.trans (hba.mono hqz)
            have HRM := Lib.hid hrm
            have HMQ := Lib.hid hm
            have HALL := Lib.hid hall
            have hgw : b < wr.heap.size := by have := hbr.size; omega
            clear hba za hqz z0lt hxa hbwa hm9 hmf hrm hm hall hbq hbr hcel g1 hml hlen hbB
            go_wp2_with (fail)
            refine HROW.out.mono ?_
            rintro e w7 h
            clear HROW g0 s0 e0 e1 e2 e3 hwa
            cases rm with
            | false =>
              obtain ⟨rfl, hb⟩ := h.2 rfl
              have HFF : Hid (MustPost w 4 r (.panicked [{ v := .iface 112 (.int .i64 4), recovered := false }]) w7) := by
                have hrf : r = false := by
                  cases r with
                  | false => rfl
                  | true =>
                                have h1 := (HRR.out.1 rfl).2.2.2.2.2.1 _ (List.mem_of_getElem? HMQ.out)
                                rw [← rowSB_iff, HRM.out] at h1
                                cases h1
                rw [hrf]
                exact MustPost.no ⟨rfl, HW6.out.trans ((HBA.out.trans (hb.mono HBA.out.size)).mono HW6.out.size)⟩
              clear h hb
              go_wp2
              exact ⟨rfl, HFF.out⟩
            | true =>
              obtain ⟨rfl, hb⟩ := h.1 rfl
              have HB7 : Hid (Below w6.heap.size w6 w7) := HBA.out.trans (hb.mono HBA.out.size)
              have HAL : Hid (∀ (j : Nat) (m : List Tm), j < q + 1 → mems[j]? = some m → RowSrc n (Pn : Int) 0 ds m 6) := fun j m2 hj hm2 => by
                rcases Nat.lt_succ_iff_lt_or_eq.1 hj with hj | rfl
                · exact HALL.out j m2 hj hm2
                · rw [HMQ.out] at hm2
                  injection hm2 with hm2
                  subst hm2
                  exact (rowSB_iff ..).1 HRM.out
              clear h hb
              go_wp2
              go_roundw
              case rel => exact ⟨q + 1, by omega, by go_num, HB7.out, HAL.out⟩
              case measure => simp [intOf]; omega
          · obtain rfl : q = M := by omega
            have HALM : Hid (∀ m ∈ mems, RowSrc n (Pn : Int) 0 ds m 6) := fun m hm => by
              obtain ⟨j, hj⟩ := List.getElem?_of_mem hm
              exact hall j m (by have := (List.getElem?_eq_some_iff.1 hj).1; have := HM9.out; omega) hj
            have y0 := (hbq.block _ (heap_some_lt Z0.out)).trans Z0.out
            have y1 := (hbq.block _ (heap_some_lt Z1.out)).trans Z1.out
            have c3 := cell_of_row _ _ 3 _ _ (0, 0) y0
            have u3 := thawed y0 3
            have d14 := (cell_of_row _ _ 14 _ _ (0, 0) y1).trans Q14.out
            obtain ⟨w8, hw8⟩ : ∃ x, wr.setCell ⟨w.heap.size, 3, none⟩ (.int .i64 (q : Int)) = x := ⟨_, rfl⟩
            have z0 : w8.heap[w.heap.size]? = some (.cells #[.slice Ad nd cd, .int .i64 n, .int .i64 (Pn : Int), .int .i64 (q : Int)] 69 (0, 0)) := by rw [← hw8]; exact set_same y0 3 _
            have z1 : w8.heap[w.heap.size + 1]? = some (.cells cs 43 (0, 0)) := by rw [← hw8]; exact (Below.heap_setCell _ _ _ _ (by show w.heap.size + 1 ≠ w.heap.size; omega)).trans y1
            have hbw8 : Below w.heap.size w w8 := by rw [← hw8]; exact (HW6.out.trans (hbq.mono HW6.out.size)).setCell (Nat.le_refl _) _
            have d15 := (cell_of_row _ _ 15 _ _ (0, 0) z1).trans Q15.out
            have V0 := Lib.hid z0
            have V1 := Lib.hid z1
            have HW8 := Lib.hid hbw8
            clear hall hbq y0 y1 z0 z1 hbw8 Z0 Z1
            go_wp2_with (fail)
            go_loopw [54] (fun i wr => ∃ g : Nat, g ≤ C ∧ i = .int .i64 g ∧ Below w8.heap.size w8 wr ∧ ∀ (j : Nat) (c : Int × Tm), j < g → ctors[j]? = some c → 0 ≤ c.1 ∧ c.1 < (q : Int) ∧ RightSrc n (Pn : Int) (q : Int) ds c.2) (fun i _ => C - (intOf i).toNat)
            case atStart => exact ⟨0, Nat.zero_le _, rfl, Below.refl _ _, fun j t hj => absurd hj (by omega)⟩
            case round =>
              obtain ⟨g, hg, rfl, hbg, hall⟩ := hrel
              clear c3 u3 d14 d15 hw8
              by_cases hlt2 : g < C
              · have hlen := HC9.out
                obtain ⟨x, hx⟩ : ∃ x, ctors[g]? = some x := ⟨ctors[g]'(by omega), List.getElem?_eq_getElem (by omega)⟩
                obtain ⟨xm, xt⟩ := x
                have hbr : Below w.heap.size w wr := HW8.out.trans (hbg.mono HW8.out.size)
                obtain ⟨b, o, rfl, hbB, hcel⟩ := HCC.out.2 (by omega)
                obtain ⟨v9, g0, hfive, htm⟩ := hcel g (xm, xt) hx
                simp only at g0 htm
                have g0 := (hbr.cell (p := ⟨b, o + g * 6, none⟩) hbB).trans g0
                obtain ⟨hxf, hxs⟩ := HF5.out _ (List.mem_of_getElem? hx)
                simp only at hxf hxs
                have HTM := Lib.hid htm
                have HX := Lib.hid hx
                obtain ⟨u, hu⟩ : ∃ u, xt = u := ⟨_, rfl⟩
                obtain ⟨k1, n1, a1, lv1, kids1⟩ := xt
                obtain ⟨B1, m1, B2, m2, rfl, _, _, _⟩ := htm.open
                obtain ⟨c0', c1', c2', c3', c4', e, p0, p1, p2, p3, p4⟩ := hfive.keep (fun j => hbr.cell (p := ⟨b, j, none⟩) hbB)
                injection e with e
                injection e with e
                injection e with e0 e
                injection e with e1 e
                injection e with e2 e
                injection e with e3 e
                injection e with e4 _
                subst e0 e1 e2 e3 e4
                rw [hu] at HTM HX hxf hxs
                obtain ⟨l1, hl1⟩ : ∃ x, lv1.length = x := ⟨_, rfl⟩
                obtain ⟨l2, hl2⟩ : ∃ x, kids1.length = x := ⟨_, rfl⟩
                rw [hl1] at p3
                rw [hl2] at p4
                rw [hl1, hl2] at HTM
                obtain ⟨wa, hwa⟩ : ∃ x, wr.alloc (.cells #[.int .i64 xm, .int .i64 k1, .int .i64 n1, .int .i64 a1, .slice B1 l1 m1, .slice B2 l2 m2] 50) = x := ⟨_, rfl⟩
                have hba : Below wr.heap.size wr wa := by rw [← hwa]; exact (Below.refl _ _).alloc (Nat.le_refl _) _
                have za : wa.heap[wr.heap.size]? = some (.cells #[.int .i64 xm, .int .i64 k1, .int .i64 n1, .int .i64 a1, .slice B1 l1 m1, .slice B2 l2 m2] 50 (0, 0)) := by rw [← hwa]; exact heap_alloc_new wr _
                have hqz := hbg.size
                have s0 := cell_of_row _ _ 0 _ _ (0, 0) za
                have hya := (hba.block _ (by have := heap_some_lt V1.out; omega)).trans ((hbg.block _ (heap_some_lt V1.out)).trans V1.out)
                have e14 := (cell_of_row _ _ 14 _ _ (0, 0) hya).trans Q14.out
                have HBA : Hid (Below w8.heap.size w8 wa) := hbg.trans (hba.mono hqz)
                have ZA := Lib.hid za
                have HALL := Lib.hid hall
                have HM := Lib.hid (smust_two (decide (0 ≤ xm)) (decide (xm < (q : Int))) wa wa.heap.size rfl)
                have hgw : b < wr.heap.size := by have := hbr.size; omega
                clear hba za hya hqz hbg hall hbr hcel htm hfive hlen hbB hl1 hl2 hx hu
                go_wp2_with (fail)
                refine HM.out.mono ?_
                rintro e w9 h
                clear HM g0 p0 p1 p2 p3 p4 s0 e14 hwa
                cases hm2 : (decide (0 ≤ xm) && decide (xm < (q : Int))) with
                | false =>
                  rw [hm2] at h
                  obtain ⟨rfl, hb⟩ := h.2 rfl
                  have HFF : Hid (MustPost w 4 r (.panicked [{ v := .iface 112 (.int .i64 4), recovered := false }]) w9) := by
                    have hrf : r = false := by
                      cases r with
                      | false => rfl
                      | true =>
                                        obtain ⟨h1, h2, _⟩ := (HRR.out.1 rfl).2.2.2.2.2.2 _ (List.mem_of_getElem? HX.out)
                                        simp only at h1 h2
                                        rw [decide_eq_true h1, decide_eq_true h2] at hm2
                                        cases hm2
                    rw [hrf]
                    exact MustPost.no ⟨rfl, HW8.out.trans ((HBA.out.trans (hb.mono HBA.out.size)).mono HW8.out.size)⟩
                  clear h hb hm2
                  go_wp2
                  exact ⟨rfl, HFF.out⟩
                | true =>
                  rw [hm2] at h
                  obtain ⟨rfl, hb⟩ := h.1 rfl
                  have HXM : Hid (0 ≤ xm ∧ xm < (q : Int)) := by show _ ∧ _; simpa using hm2
                  have HB9 : Hid (Below w8.heap.size w8 w9) := HBA.out.trans (hb.mono HBA.out.size)
                  have hbw9 : Below w.heap.size w w9 := HW8.out.trans (HB9.out.mono HW8.out.size)
                  have y0 := (HB9.out.block _ (heap_some_lt V0.out)).trans V0.out
                  have ya := (hb.block _ (heap_some_lt ZA.out)).trans ZA.out
                  have e0 := cell_of_row _ _ 0 _ _ (0, 0) y0
                  have e1 := cell_of_row _ _ 1 _ _ (0, 0) y0
                  have e2 := cell_of_row _ _ 2 _ _ (0, 0) y0
                  have e3 := cell_of_row _ _ 3 _ _ (0, 0) y0
                  have f1 := cell_of_row _ _ 1 _ _ (0, 0) ya
                  have f2 := cell_of_row _ _ 2 _ _ (0, 0) ya
                  have f3 := cell_of_row _ _ 3 _ _ (0, 0) ya
                  have f4 := cell_of_row _ _ 4 _ _ (0, 0) ya
                  have f5 := cell_of_row _ _ 5 _ _ (0, 0) ya
                  obtain ⟨rc, hrc⟩ : ∃ x, rightSB n (Pn : Int) (q : Int) ds u = x := ⟨_, rfl⟩
                  have HC := Lib.hid (overRight_any n (Pn : Int) (q : Int) ds Ad nd cd u _ w9 (HK.out.below hbw9 hw0) (HDS.out.below hbw9 hbw9.size) HND.out hxf hxs (HTM.out.below hbw9 hbw9.size))
                  rw [hrc] at HC
                  have HRC := Lib.hid hrc
                  unfold OvV at HC
                  clear h hb hm2 y0 ya hbw9 hrc hxf hxs HTM
                  go_wp2_with (fail)
                  refine HC.out.mono ?_
                  rintro e w10 h
                  clear HC e0 e1 e2 e3 f1 f2 f3 f4 f5
                  cases rc with
                  | false =>
                    obtain ⟨rfl, hb⟩ := h.2 rfl
                    have HFF : Hid (MustPost w 4 r (.panicked [{ v := .iface 112 (.int .i64 4), recovered := false }]) w10) := by
                      have hrf : r = false := by
                        cases r with
                        | false => rfl
                        | true =>
                                            obtain ⟨_, _, h1⟩ := (HRR.out.1 rfl).2.2.2.2.2.2 _ (List.mem_of_getElem? HX.out)
                                            rw [← rightSB_iff, HRC.out] at h1
                                            cases h1
                      rw [hrf]
                      exact MustPost.no ⟨rfl, HW8.out.trans ((HB9.out.trans (hb.mono HB9.out.size)).mono HW8.out.size)⟩
                    clear h hb
                    go_wp2
                    exact ⟨rfl, HFF.out⟩
                  | true =>
                    obtain ⟨rfl, hb⟩ := h.1 rfl
                    have HB10 : Hid (Below w8.heap.size w8 w10) := HB9.out.trans (hb.mono HB9.out.size)
                    have HAL : Hid (∀ (j : Nat) (c : Int × Tm), j < g + 1 → ctors[j]? = some c → 0 ≤ c.1 ∧ c.1 < (q : Int) ∧ RightSrc n (Pn : Int) (q : Int) ds c.2) := fun j c hj hc => by
                      rcases Nat.lt_succ_iff_lt_or_eq.1 hj with hj | rfl
                      · exact HALL.out j c hj hc
                      · rw [HX.out] at hc
                        injection hc with hc
                        subst hc
                        exact ⟨HXM.out.1, HXM.out.2, (rightSB_iff ..).1 HRC.out⟩
                    clear h hb
                    go_wp2
                    go_roundw
                    case rel => exact ⟨g + 1, by omega, by go_num, HB10.out, HAL.out⟩
                    case measure => simp [intOf]; omega
              · obtain rfl : g = C := by omega
                have HFF : Hid (MustPost w 4 r (.returned (.tuple #[])) wr) := by
                  have hrt : r = true := HRR.out.2 ⟨HFOUR.out.1, HFOUR.out.2.1, HFOUR.out.2.2.1, HFOUR.out.2.2.2, (rowSB_iff ..).1 HRP.out, HALM.out, fun c hc => by
                    obtain ⟨j, hj⟩ := List.getElem?_of_mem hc
                    exact hall j c (by have := (List.getElem?_eq_some_iff.1 hj).1; have := HC9.out; omega) hj⟩
                  rw [hrt]
                  exact MustPost.yes rfl (HW8.out.trans (hbg.mono HW8.out.size))
                clear hall hbg
                go_wp2
                go_end0
                exact HFF.out
end Go.Proofs.YtfgnnbpbbnnnhaaDoor
