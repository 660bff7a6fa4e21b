/- Laws. -/
import Derived.Test.YtfgnnbpbbnnnhaaDoorRrak
import Derived.Test.YtfgnnbpbbnnnhaaDoorRrau
import Derived.MakeChecks
import Derived.FnData
namespace Go.Proofs.YtfgnnbpbbnnnhaaDoor
open Go.ChangeShapes Go.WideShapes Go.ChangeAt Go.RowKit Go.Deep
instance : Inhabited Tm := ⟨.mk 0 0 0 [] []⟩
theorem trod_struct5 {H : Type} {P : Program} {w : World} {base : Nat} {spare : Nat → Bool} {held : Bool} {enc : TypeId × Value → H} {t : TypeId} {f0 f1 f2 f3 f4 : Field} {fuel : Nat} {cs : List Value} {x : DataW H × List MemPlace} (ht : P.underlying t = some (.struct #[f0, f1, f2, f3, f4])) (h : DataW.trod enc P w base spare held fuel t cs = some x) :
    ∃ y0 y1 y2 y3 y4 n, x.1 = .agg [y0.1, y1.1, y2.1, y3.1, y4.1] ∧ cs.length = P.cellsOf t ∧ DataW.trod enc P w base spare held n f0.type ((cs.drop f0.offset).take (P.cellsOf f0.type)) = some y0 ∧
      DataW.trod enc P w base spare held n f1.type ((cs.drop f1.offset).take (P.cellsOf f1.type)) = some y1 ∧ DataW.trod enc P w base spare held n f2.type ((cs.drop f2.offset).take (P.cellsOf f2.type)) = some y2 ∧
      DataW.trod enc P w base spare held n f3.type ((cs.drop f3.offset).take (P.cellsOf f3.type)) = some y3 ∧ DataW.trod enc P w base spare held n f4.type ((cs.drop f4.offset).take (P.cellsOf f4.type)) = some y4 := by
  obtain ⟨xs, n, _, rfl, hl, hlen, hf⟩ := DataW.trod_struct ht h
  match xs, hlen with
  | [y0, y1, y2, y3, y4], _ => exact ⟨y0, y1, y2, y3, y4, n, by simp, hl, by simpa using hf 0 f0 rfl, by simpa using hf 1 f1 rfl, by simpa using hf 2 f2 rfl, by simpa using hf 3 f3 rfl, by simpa using hf 4 f4 rfl⟩
theorem bulk_each {H : Type} {D : Nat → DataW H} : ∀ {l : List Nat} {i : Nat}, i ∈ l → Rows.uptoBulk (D i) ≤ Rows.uptoBulkAll (l.map D)
  | [], i, h => by cases h
  | j :: l, i, h => by
    simp only [List.map_cons, Rows.uptoBulkAll]
    rcases List.mem_cons.1 h with rfl | h
    · omega
    · have := bulk_each (D := D) h
      omega
theorem bulk_length {H : Type} (D : Nat → DataW H) : ∀ l : List Nat, l.length ≤ Rows.uptoBulkAll (l.map D)
  | [] => by simp
  | j :: l => by
    have h1 := bulk_one (D j)
    have h2 := bulk_length D l
    simp only [List.map_cons, Rows.uptoBulkAll, List.length_cons]
    omega
theorem bulk_lens {H : Type} {D : Nat → DataW H} {q : Nat → List (Int × Int)} : ∀ l : List Nat, (∀ i ∈ l, 1 + (q i).length ≤ Rows.uptoBulk (D i)) → lensSum (l.map q) ≤ Rows.uptoBulkAll (l.map D)
  | [], _ => by simp [lensSum]
  | j :: l, h => by
    have h1 := h j (by simp)
    have h2 := bulk_lens l fun i hi => h i (by simp [hi])
    simp only [List.map_cons, Rows.uptoBulkAll, lensSum]
    omega
theorem bulk_counts {H : Type} {D : Nat → DataW H} {q : Nat → Tm} : ∀ l : List Nat, (∀ i ∈ l, (q i).count ≤ Rows.uptoBulk (D i)) → Tm.countL (l.map q) ≤ Rows.uptoBulkAll (l.map D)
  | [], _ => by simp [Tm.countL]
  | j :: l, h => by
    have h1 := h j (by simp)
    have h2 := bulk_counts l fun i hi => h i (by simp [hi])
    simp only [List.map_cons, Rows.uptoBulkAll, Tm.countL]
    omega
/-- a slice, read: its elements' cells, one behind the other -/
theorem open_elems {H : Type} {enc : TypeId × Value → H} {w : World} {α : Type} [Inhabited α] {t e : TypeId} {size fuel : Nat} {c : Value} {x : DataW H × List MemPlace} (Pr : List Value → DataW H → α → Prop) (ht : Tryd.prog.underlying t = some (.slice e)) (he : Tryd.prog.cellsOf e = size) (hs : 0 < size)
    (h : DataW.trod enc Tryd.prog w 0 (fun _ => true) true fuel t [c] = some x) (each : ∀ (n : Nat) (cs : List Value) (y : DataW H × List MemPlace), Rows.uptoBulk y.1 < Rows.uptoBulk x.1 → cs.length = size → DataW.trod enc Tryd.prog w 0 (fun _ => true) true n e cs = some y → ∃ a, Pr cs y.1 a) :
    (c = .slice none 0 0) ∨ ∃ (a : Addr) (len cap : Nat) (D : Nat → DataW H) (q : Nat → α), c = .slice (some a) len cap ∧ Rows.uptoBulkAll ((List.range len).map D) + 1 ≤ Rows.uptoBulk x.1 ∧
      (0 < len → ∃ b o, a = ⟨b, o, none⟩ ∧ b < w.heap.size) ∧ ∀ i, i < len → ∃ cs, cs.length = size ∧ Pr cs (D i) (q i) ∧ ∀ j, j < size → w.cell? ((a.add (i * size)).add j) = cs[j]? := by
  rcases open_slice ht h with ⟨hc, _⟩ | ⟨a, len, cap, m, n, D, Pl, hc, _, hl, _, hm, hx, hi⟩
  · simp at hc
    exact Or.inl hc
  · right
    simp at hc hm
    subst hm
    have hx1 : x.1 = .slice ((List.range len).map D) ((List.range (m - len)).map fun j => D (len + j)) := by rw [hx]
    have hbk : Rows.uptoBulkAll ((List.range len).map D) + 1 ≤ Rows.uptoBulk x.1 := by
      rw [hx1]
      simp only [Rows.uptoBulk]
      omega
    have ex : ∀ i, i < len → ∃ (q : α), ∃ cs, cs.length = size ∧ Pr cs (D i) q ∧ ∀ j, j < size → w.cell? ((a.add (i * size)).add j) = cs[j]? := fun i hlt => by
      obtain ⟨cs', h1, h2⟩ := hi i (by omega)
      rw [he] at h1
      obtain ⟨_, h3, h4⟩ := World.cells?_some h1
      have hb := bulk_each (D := D) (List.mem_range.2 hlt)
      obtain ⟨q, hq⟩ := each n cs' (D i, Pl i) (by show Rows.uptoBulk (D i) < _; omega) h3 h2
      exact ⟨q, cs', h3, hq, h4⟩
    obtain ⟨q, hq⟩ := choose_lt ex
    refine ⟨a, len, m, D, q, hc, hbk, fun hp => ?_, hq⟩
    obtain ⟨cs, h1, _, h3⟩ := hq 0 hp
    have h30 := h3 0 hs
    obtain ⟨v, hv⟩ : ∃ v, cs[0]? = some v := ⟨_, List.getElem?_eq_getElem (by omega)⟩
    rw [hv] at h30
    obtain ⟨b, off, spot⟩ := a
    have h30 : w.cell? ⟨b, off, spot⟩ = some v := by simpa [Addr.add] using h30
    have hspot : spot = none := World.cell?_spot h30
    subst hspot
    exact ⟨b, off, rfl, cell_lt h30⟩
set_option maxRecDepth 100000 in
/-- a row of levels, read -/
theorem open_lvs {H : Type} {enc : TypeId × Value → H} {w : World} {fuel : Nat} {c : Value} {x : DataW H × List MemPlace} (h : DataW.trod enc Tryd.prog w 0 (fun _ => true) true fuel 24 [c] = some x) (hN : Rows.uptoBulk x.1 ≤ 1048576) :
    ∃ (A : Option Addr) (ls : List (List (Int × Int))) (k : Nat), c = .slice A ls.length k ∧ (A = none → k = 0) ∧ Levs w w.heap.size A ls ∧ SlimL ls ∧ 1 + lensSum ls ≤ Rows.uptoBulk x.1 := by
  have hC2 : Tryd.prog.cellsOf 37 = 1 := by kernel_rfl
  rcases open_elems (α := Option Addr × List (Int × Int) × Nat) (fun cs d q => cs = [.slice q.1 q.2.1.length q.2.2] ∧ (q.1 = none → q.2.2 = 0) ∧ Lev w w.heap.size q.1 q.2.1 ∧ 1 + q.2.1.length * 3 ≤ Rows.uptoBulk d) Tryd.underlying24 (show Tryd.prog.cellsOf 39 = 1 by kernel_rfl) (by decide) h (fun n cs y _ hl hy => by
    obtain ⟨c', rfl⟩ : ∃ c', cs = [c'] := by
      match cs, hl with
      | [c'], _ => exact ⟨c', rfl⟩
    obtain ⟨y0, n', hy1, _, h0⟩ := trod_struct1 Tryd.underlying39 hy
    obtain ⟨A, ps, k, rfl, q1, q2, q3, _, _⟩ := open_parts (c := c') (x := y0) (fuel := n') (by simpa [hC2] using h0)
    refine ⟨(A, ps, k), rfl, q1, q2, ?_⟩
    rw [hy1]
    have := bulk_one y0.1
    simp only [Rows.uptoBulk, Rows.uptoBulkAll]
    omega) with rfl | ⟨a, len, cap, D, q, rfl, hb, hp, hi⟩
  · have := bulk_one x.1
    exact ⟨none, [], 0, rfl, fun _ => rfl, levs_nil _ _ _, ⟨by simp, by simp⟩, by simp [lensSum]; omega⟩
  · have hll : ((List.range len).map fun i => (q i).2.1).length = len := by simp
    have hln := bulk_length D (List.range len)
    rw [List.length_range] at hln
    have hsum := bulk_lens (D := D) (q := fun i => (q i).2.1) (List.range len) fun i hi' => by
      obtain ⟨cs, _, ⟨_, _, _, h4⟩, _⟩ := hi i (List.mem_range.1 hi')
      omega
    refine ⟨some a, (List.range len).map fun i => (q i).2.1, cap, by rw [hll], (fun e => by cases e), fun hpos => ?_, ⟨by rw [hll]; omega, fun l hl => ?_⟩, by omega⟩
    · rw [hll] at hpos
      obtain ⟨b, o, rfl, hbl⟩ := hp hpos
      refine ⟨b, o, rfl, hbl, fun i hlt => ?_⟩
      rw [hll] at hlt
      have hg : ((List.range len).map fun i => (q i).2.1).getD i [] = (q i).2.1 := by rw [List.getD_eq_getElem?_getD]; simp [hlt]
      obtain ⟨cs, _, ⟨rfl, h2, h3, h4⟩, h5⟩ := hi i hlt
      have h50 := h5 0 (by decide)
      rw [addr_add, addr_add] at h50
      rw [hg]
      have h6 := bulk_each (D := D) (List.mem_range.2 hlt)
      exact ⟨(q i).1, (q i).2.2, by simpa using h50, h3, h2, by omega⟩
    · obtain ⟨i, hi', rfl⟩ := List.mem_map.1 hl
      obtain ⟨cs, _, ⟨_, _, _, h4⟩, _⟩ := hi i (List.mem_range.1 hi')
      have h6 := bulk_each (D := D) hi'
      show (q i).2.1.length ≤ 1000000
      omega
set_option maxRecDepth 100000 in
/-- a term, read -/
theorem open_tm {H : Type} {enc : TypeId × Value → H} {w : World} : ∀ (N fuel : Nat) (cs : List Value) (x : DataW H × List MemPlace), Rows.uptoBulk x.1 ≤ N → N ≤ 1048576 → DataW.trod enc Tryd.prog w 0 (fun _ => true) true fuel 27 cs = some x →
    ∃ (t : Tm), TmAt w w.heap.size t (.agg cs.toArray) ∧ t.fit ∧ t.count ≤ Rows.uptoBulk x.1 := by
  intro N
  induction N with
  | zero =>
    intro fuel cs x hN _ _
    have := bulk_one x.1
    omega
  | succ N ihN =>
    intro fuel cs x hN hM h
    obtain ⟨y0, y1, y2, y3, y4, n, hx, hl, h0, h1, h2, h3, h4⟩ := trod_struct5 Tryd.underlying27 h
    have hC : Tryd.prog.cellsOf 27 = 5 := by kernel_rfl
    have hC0 : Tryd.prog.cellsOf 23 = 1 := by kernel_rfl
    have hC1 : Tryd.prog.cellsOf 3 = 1 := by kernel_rfl
    have hC3 : Tryd.prog.cellsOf 24 = 1 := by kernel_rfl
    have hC4 : Tryd.prog.cellsOf 25 = 1 := by kernel_rfl
    rw [hC] at hl
    obtain ⟨c0, c1, c2, c3, c4, rfl⟩ : ∃ c0 c1 c2 c3 c4, cs = [c0, c1, c2, c3, c4] := by
      match cs, hl with
      | [c0, c1, c2, c3, c4], _ => exact ⟨c0, c1, c2, c3, c4, rfl⟩
    simp only [hC0, hC1, hC3, hC4, List.drop_zero, List.drop_succ_cons, List.take_succ_cons, List.take_zero] at h0 h1 h2 h3 h4
    obtain ⟨a0, e0, _, w0⟩ := DataW.trod_int Tryd.underlying23 h0
    obtain ⟨a1, e1, _, w1⟩ := DataW.trod_int Tryd.underlying3 h1
    obtain ⟨a2, e2, _, w2⟩ := DataW.trod_int Tryd.underlying3 h2
    simp at e0 e1 e2
    subst e0 e1 e2
    have hbx : Rows.uptoBulk x.1 = Rows.uptoBulk y0.1 + Rows.uptoBulk y1.1 + Rows.uptoBulk y2.1 + Rows.uptoBulk y3.1 + Rows.uptoBulk y4.1 + 1 := by
      rw [hx]
      simp only [Rows.uptoBulk, Rows.uptoBulkAll]
      omega
    obtain ⟨Al, lv, cl, rfl, q1, q2, q3, q4⟩ := open_lvs h3 (by omega)
    have hr : Rng a1 := by
      unfold Lit.wf at w1
      rw [Bool.and_eq_true, decide_eq_true_eq, decide_eq_true_eq] at w1
      have m1 : IntKind.i64.min = -9223372036854775808 := by decide
      have m2 : IntKind.i64.max = 9223372036854775807 := by decide
      rw [m1, m2] at w1
      exact w1
    rcases open_elems (α := Tm) (fun cs d t => TmAt w w.heap.size t (.agg cs.toArray) ∧ t.fit ∧ t.count ≤ Rows.uptoBulk d) Tryd.underlying25 hC (by decide) h4 (fun n cs y hy _ ht => ihN n cs y (by omega) (by omega) ht) with rfl | ⟨ad, len, cap, D, q, rfl, hb, hp, hi⟩
    · refine ⟨.mk a0 a1 a2 lv [], TmAt.make (kids := []) q1 q2 (tms_nil _ _), (Tm.fit_mk ..).2 ⟨hr, q3, by simp, by rw [Tm.fitL]; trivial⟩, ?_⟩
      rw [Tm.count_mk]
      simp only [Tm.countL]
      omega
    · have hll : ((List.range len).map q).length = len := by simp
      have hln := bulk_length D (List.range len)
      rw [List.length_range] at hln
      have hsum := bulk_counts (D := D) (q := q) (List.range len) fun i hi' => by
        obtain ⟨cs, _, ⟨_, _, h5⟩, _⟩ := hi i (List.mem_range.1 hi')
        exact h5
      refine ⟨.mk a0 a1 a2 lv ((List.range len).map q), ?_, (Tm.fit_mk ..).2 ⟨hr, q3, by rw [hll]; omega, (Tm.fitL_iff _).2 fun t ht => ?_⟩, ?_⟩
      · have := TmAt.make (k := a0) (n := a1) (a := a2) (kids := (List.range len).map q) (Ak := some ad) (ck := cap) q1 q2 ⟨(fun e => by cases e), fun hpos => ?_⟩
        · rw [hll] at this
          exact this
        · rw [hll] at hpos
          obtain ⟨b, o, rfl, hbl⟩ := hp hpos
          refine ⟨b, o, rfl, hbl, TmsAt.of fun i t hi' => ?_⟩
          have hlt : i < len := by
            have := (List.getElem?_eq_some_iff.1 hi').1
            omega
          have ht : t = q i := by
            simp [hlt] at hi'
            exact hi'.symm
          subst ht
          obtain ⟨cs, k1, ⟨k2, _, _⟩, k5⟩ := hi i hlt
          obtain ⟨d0, d1, d2, d3, d4, rfl⟩ : ∃ c0 c1 c2 c3 c4, cs = [c0, c1, c2, c3, c4] := by
            match cs, k1 with
            | [c0, c1, c2, c3, c4], _ => exact ⟨c0, c1, c2, c3, c4, rfl⟩
          have j0 := k5 0 (by decide)
          have j1 := k5 1 (by decide)
          have j2 := k5 2 (by decide)
          have j3 := k5 3 (by decide)
          have j4 := k5 4 (by decide)
          rw [addr_add, addr_add] at j0 j1 j2 j3 j4
          exact ⟨_, ⟨d0, d1, d2, d3, d4, rfl, j0, j1, j2, j3, j4⟩, k2⟩
      · obtain ⟨i, hi', rfl⟩ := List.mem_map.1 ht
        obtain ⟨cs, _, ⟨_, h5, _⟩, _⟩ := hi i (List.mem_range.1 hi')
        exact h5
      · rw [Tm.count_mk]
        omega
end Go.Proofs.YtfgnnbpbbnnnhaaDoor
namespace Go.Proofs.YtfgnnbpbbnnnhaaDoor
open Go.ChangeShapes Go.WideShapes Go.ChangeAt Go.RowKit Go.Deep
theorem gKinds : Tryd.prog.globalNamed "spandrel/term.kinds" = some 0 := by kernel_rfl
theorem tKinds : (Tryd.prog.globals[0]?).map (·.type) = some 144 := by kernel_rfl
def kindData (r : Bool × Bool × Int × Int × Int) : DataW Unit := .agg [.lit (.bool r.1), .lit (.bool r.2.1), .lit (.int .i64 r.2.2.1), .lit (.int .i64 r.2.2.2.1), .lit (.int .i64 r.2.2.2.2)]
theorem laid_rows : (Rows.laid_spandrel_term_kinds : DataW Unit) = .agg (kindTab.map kindData) := by rfl
theorem kindTab_get : ∀ i : Nat, i < 25 → kindTab[i]? = some (kindRow i) := by
  intro i hi
  unfold kindRow
  rw [List.getD_eq_getElem?_getD]
  have : i < kindTab.length := hi
  rw [List.getElem?_eq_getElem this]
  rfl
theorem take_one {l : List Value} {a : Nat} {c : Value} (h : (l.drop a).take 1 = [c]) : l[a]? = some c := by
  have : ((l.drop a).take 1)[0]? = some c := by rw [h]; rfl
  rw [List.getElem?_take, if_pos (by decide), List.getElem?_drop] at this
  simpa using this
theorem take_in {l : List Value} {a b n : Nat} {c : Value} (h : ((l.drop a).take n)[b]? = some c) : l[a + b]? = some c := by
  rw [List.getElem?_take] at h
  split at h
  · rw [List.getElem?_drop] at h
    exact h
  · cases h
set_option maxRecDepth 100000 in
theorem kinds_of_laid {W : World} (h : laidMetH Tryd.prog [("spandrel/term.kinds", Rows.laid_spandrel_term_kinds)] W) : KindsAll W := by
  rw [MakeChecks.laidMetH_plain _ _ _ (by kernel_rfl)] at h
  obtain ⟨ps, ⟨g0, t0, cs0, f0, p0, q0, hg0, ht0, hv0, hd0, _, _⟩, _, _⟩ := h
  obtain rfl := Option.some.inj (gKinds.symm.trans hg0)
  obtain rfl := Option.some.inj (tKinds.symm.trans ht0)
  obtain ⟨xs, m, _, hx, _, hn, hel⟩ := DataW.trod_array Tryd.underlying144 hd0
  have hC : Tryd.prog.cellsOf 143 = 5 := by kernel_rfl
  have hCb : Tryd.prog.cellsOf 4 = 1 := by kernel_rfl
  have hCi : Tryd.prog.cellsOf 3 = 1 := by kernel_rfl
  rw [laid_rows] at hx
  have hx1 : kindTab.map kindData = xs.map (·.1) := by
    have := congrArg Prod.fst hx
    simpa using this
  intro i hi
  have he := hel i hi
  rw [hC] at he
  obtain ⟨x, hxi⟩ : ∃ x, xs[i]? = some x := ⟨_, List.getElem?_eq_getElem (by omega)⟩
  rw [hxi] at he
  have hxd : x.1 = kindData (kindRow i) := by
    have := congrArg (·[i]?) hx1
    simp only [List.getElem?_map, hxi, kindTab_get i hi, Option.map_some, Option.some.injEq] at this
    exact this.symm
  obtain ⟨y0, y1, y2, y3, y4, n, hy, _, h0, h1, h2, h3, h4⟩ := trod_struct5 Tryd.underlying143 he
  simp only [hCb, hCi] at h0 h1 h2 h3 h4
  obtain ⟨b0, e0, u0⟩ := DataW.trod_bool Tryd.underlying4 h0
  obtain ⟨b1, e1, u1⟩ := DataW.trod_bool Tryd.underlying4 h1
  obtain ⟨b2, e2, u2, _⟩ := DataW.trod_int Tryd.underlying3 h2
  obtain ⟨b3, e3, u3, _⟩ := DataW.trod_int Tryd.underlying3 h3
  obtain ⟨b4, e4, u4, _⟩ := DataW.trod_int Tryd.underlying3 h4
  rw [hxd, u0, u1, u2, u3, u4] at hy
  unfold kindData at hy
  injection hy with hy
  injection hy with r0 hy
  injection hy with r1 hy
  injection hy with r2 hy
  injection hy with r3 hy
  injection hy with r4 _
  injection r0 with r0
  injection r0 with r0
  injection r1 with r1
  injection r1 with r1
  injection r2 with r2
  injection r2 with _ r2
  injection r3 with r3
  injection r3 with _ r3
  injection r4 with r4
  injection r4 with _ r4
  rw [r0, r1, r2, r3, r4]
  have c0 := take_in (take_one e0)
  have c1 := take_in (take_one e1)
  have c2 := take_in (take_one e2)
  have c3 := take_in (take_one e3)
  have c4 := take_in (take_one e4)
  refine ⟨(World.var?_cell hg0 hv0 _).trans ?_, (World.var?_cell hg0 hv0 _).trans ?_, (World.var?_cell hg0 hv0 _).trans ?_, (World.var?_cell hg0 hv0 _).trans ?_, (World.var?_cell hg0 hv0 _).trans ?_⟩
  · simpa using c0
  · simpa using c1
  · simpa using c2
  · simpa using c3
  · simpa using c4
end Go.Proofs.YtfgnnbpbbnnnhaaDoor
