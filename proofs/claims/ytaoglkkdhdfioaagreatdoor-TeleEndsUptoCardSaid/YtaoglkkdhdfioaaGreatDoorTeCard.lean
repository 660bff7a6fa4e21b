/- A card's arguments as values of the calculus; what the calculus tells of a call, told as the card asks. -/
import Derived.Test.YtaoglkkdhdfioaaGreatDoorEvWk
import Derived.Test.YtaoglkkdhdfioaaGreatDoorEvZ
import Derived.Test.YtaoglkkdhdfioaaGreatDoorEvX
import Derived.Test.YtaoglkkdhdfioaaGreatDoorTeCopied
import Derived.Test.YtaoglkkdhdfioaaGreatDoorProg
import Derived.Test.YtaoglkkdhdfioaaGreatDoorRows
import Derived.WalkKit
import Derived.ProofKit
import Derived.OpenShut
import Derived.Deep.DeepHandedRow
import Derived.Deep.Slices
import Derived.Lib.LaidTab
import Derived.ChangeOld
import Derived.Carry
import Derived.MakeChecks
import Derived.FnData
import Derived.Below
import Derived.KernelRfl
namespace Go.Proofs.YtaoglkkdhdfioaaGreatDoor
open Go Go.Proofs Go.ChangeShapes Go.WideShapes Go.ChangeAt Go.RowKit Go.Deep
set_option maxRecDepth 100000
/-- nothing of ours lies there yet -/
def V0 : Mem := AH.zero.mem (fun _ _ => False) (fun _ => 0) (fun _ => 0)
theorem cell_lt0 {w : World} {g o : Nat} {v : Value} (h : w.cell? ⟨g, o, none⟩ = some v) : g < w.heap.size := by
  rcases Nat.lt_or_ge g w.heap.size with hlt | hge
  · exact hlt
  · simp [World.cell?, Array.getElem?_eq_none hge] at h
theorem ok0 {w : World} {b i : Nat} {v : Value} (h : w.cell? ⟨b, i, none⟩ = some v) : OkCell V0 w b i := ⟨cell_lt0 h, id, fun _ _ e => by cases e⟩
theorem addr_add0 (b o j : Nat) : (⟨b, o, none⟩ : Addr).add j = ⟨b, o + j, none⟩ := by
  unfold Addr.add
  split <;> simp_all
theorem bulk_one0 {H : Type} (d : DataW H) : 1 ≤ Rows.uptoBulk d := by
  cases d with
  | lit l => cases l <;> simp [Rows.uptoBulk]
  | nil => simp [Rows.uptoBulk]
  | ptr d => simp [Rows.uptoBulk]
  | slice elems spare => simp [Rows.uptoBulk]
  | agg parts => simp [Rows.uptoBulk]
  | iface t d => simp [Rows.uptoBulk]
  | map entries => simp [Rows.uptoBulk]
  | held _ => simp [Rows.uptoBulk]
def sumOf {α : Type} (cost : α → Nat) : List α → Nat
  | [] => 0
  | a :: l => cost a + sumOf cost l
theorem sumOf_map {α : Type} {H : Type} {cost : α → Nat} {D : Nat → DataW H} {q : Nat → α} : ∀ l : List Nat, (∀ i ∈ l, cost (q i) ≤ Rows.uptoBulk (D i)) → sumOf cost (l.map q) ≤ Rows.uptoBulkAll (l.map D)
  | [], _ => by simp [sumOf]
  | j :: l, h => by
    have h1 := h j (by simp)
    have h2 := sumOf_map l fun i hi => h i (by simp [hi])
    simp only [List.map_cons, Rows.uptoBulkAll, sumOf]
    omega
theorem bulk_each0 {H : Type} {D : Nat → DataW H} : ∀ {l : List Nat} {i : Nat}, i ∈ l → Rows.uptoBulk (D i) ≤ Rows.uptoBulkAll (l.map D)
  | [], i, h => by cases h
  | j :: l, i, h => by
    simp only [List.map_cons, Rows.uptoBulkAll]
    rcases List.mem_cons.1 h with rfl | h
    · omega
    · have := bulk_each0 (D := D) h
      omega
theorem bulk_length0 {H : Type} (D : Nat → DataW H) : ∀ l : List Nat, l.length ≤ Rows.uptoBulkAll (l.map D)
  | [] => by simp
  | j :: l => by
    have h1 := bulk_one0 (D j)
    have h2 := bulk_length0 D l
    simp only [List.map_cons, Rows.uptoBulkAll, List.length_cons]
    omega
theorem choose0 {β : Type} [Inhabited β] {n : Nat} {R : Nat → β → Prop} (h : ∀ i, i < n → ∃ b, R i b) : ∃ q : Nat → β, ∀ i, i < n → R i (q i) := by
  classical
  exact ⟨fun i => if hi : i < n then Classical.choose (h i hi) else default, fun i hi => by simp only [hi, dif_pos]; exact Classical.choose_spec (h i hi)⟩
/-- a slice -/
theorem den_elems {H : Type} {enc : TypeId × Value → H} {w : World} {α : Type} [Inhabited α] {t e : TypeId} {size fuel : Nat} {c : Value} {x : DataW H × List MemPlace} (eA : α → AV) (ok : α → Prop) (cost : α → Nat) (ht : Tryz.prog.underlying t = some (.slice e)) (he : Tryz.prog.cellsOf e = size) (hs : 0 < size) (hsz : ∀ a, (eA a).cells.length = size)
    (h : DataW.trod enc Tryz.prog w 0 (fun _ => true) true fuel t [c] = some x) (each : ∀ (n : Nat) (cs : List Value) (y : DataW H × List MemPlace), Rows.uptoBulk y.1 < Rows.uptoBulk x.1 → cs.length = size → DataW.trod enc Tryz.prog w 0 (fun _ => true) true n e cs = some y → ∃ a, DenL V0 w cs.toArray (eA a).cells ∧ ok a ∧ cost a ≤ Rows.uptoBulk y.1) :
    ∃ es : List α, Den V0 w c (.vals size (es.map eA)) ∧ (∀ a ∈ es, ok a) ∧ sumOf cost es + 1 ≤ Rows.uptoBulk x.1 ∧ es.length + 1 ≤ Rows.uptoBulk x.1 := by
  rcases open_slice ht h with ⟨hc, _⟩ | ⟨a, len, cap, m, n, D, Pl, hc, _, hl, _, hm, hx, hi⟩
  · simp at hc
    subst hc
    have := bulk_one0 x.1
    exact ⟨[], .vnil, (by simp), by simp [sumOf]; omega, by simp; omega⟩
  · simp at hc hm
    subst hm hc
    have hx1 : x.1 = .slice ((List.range len).map D) ((List.range (m - len)).map fun j => D (len + j)) := by rw [hx]
    have hbk : Rows.uptoBulkAll ((List.range len).map D) + 1 ≤ Rows.uptoBulk x.1 := by
      rw [hx1]
      simp only [Rows.uptoBulk]
      omega
    have ex : ∀ i, i < len → ∃ p : α × List Value, p.2.length = size ∧ (∀ j, j < size → w.cell? ((a.add (i * size)).add j) = p.2[j]?) ∧ DenL V0 w p.2.toArray (eA p.1).cells ∧ ok p.1 ∧ cost p.1 ≤ Rows.uptoBulk (D i) := fun i hlt => by
      obtain ⟨cs', h1, h2⟩ := hi i (by omega)
      rw [he] at h1
      obtain ⟨_, h3, h4⟩ := World.cells?_some h1
      have hb := bulk_each0 (D := D) (List.mem_range.2 hlt)
      obtain ⟨q, hq⟩ := each n cs' (D i, Pl i) (by show Rows.uptoBulk (D i) < _; omega) h3 h2
      exact ⟨(q, cs'), h3, h4, hq⟩
    obtain ⟨q, hq⟩ := choose0 ex
    have hlen : ((List.range len).map fun i => (q i).1).length = len := by simp
    have hsum := sumOf_map (cost := cost) (D := D) (q := fun i => (q i).1) (List.range len) fun i hi' => (hq i (List.mem_range.1 hi')).2.2.2.2
    have hln := bulk_length0 D (List.range len)
    rw [List.length_range] at hln
    refine ⟨(List.range len).map fun i => (q i).1, ?_, fun b hb => ?_, by omega, by rw [hlen]; omega⟩
    · rcases Nat.eq_zero_or_pos len with h0 | hpos
      · subst h0; exact .vnil
      · obtain ⟨b, off, spot⟩ := a
        have hspot : spot = none := by
          obtain ⟨k1, k2, _⟩ := hq 0 hpos
          have k20 := k2 0 hs
          rw [List.getElem?_eq_getElem (by omega)] at k20
          simpa [Addr.add] using World.cell?_spot k20
        subst hspot
        have hel : (((List.range len).map fun i => (q i).1).map eA).length = len := by simp
        have key : ∀ (j : Nat) (e : AV), (((List.range len).map fun i => (q i).1).map eA)[j]? = some e → j < len ∧ e = eA (q j).1 := fun j e hj => by
          have hj' : j < len := by rw [← hel]; exact (List.getElem?_eq_some_iff.1 hj).1
          simp [hj'] at hj
          exact ⟨hj', hj.symm⟩
        have hd := Den.vals (V := V0) (w := w) (b := b) (off := off) (cap := m) (sz := size) (es := ((List.range len).map fun i => (q i).1).map eA) (fun j i => ((q j).2)[i]?.getD undef) (by rw [hel]; exact hl) (fun j e hj => by rw [(key j e hj).2]; exact hsz _)
          (fun j e i x hj hx => by
            obtain ⟨j1, rfl⟩ := key j e hj
            obtain ⟨k1, k2, k3, _⟩ := hq j j1
            have hi' : i < size := by rw [← hsz (q j).1]; exact (List.getElem?_eq_some_iff.1 hx).1
            have k2i := k2 i hi'
            rw [addr_add0, addr_add0] at k2i
            have hc : w.cell? ⟨b, off + j * size + i, none⟩ = some (((q j).2)[i]?.getD undef) := by
              rw [k2i, List.getElem?_eq_getElem (by omega)]; rfl
            exact ⟨ok0 hc, hc⟩)
          (fun j e i x hj hx => by
            obtain ⟨j1, rfl⟩ := key j e hj
            obtain ⟨k1, k2, k3, _⟩ := hq j j1
            have hi' : i < size := by rw [← hsz (q j).1]; exact (List.getElem?_eq_some_iff.1 hx).1
            refine k3.2 i _ x ?_ hx
            rw [List.getElem?_toArray, List.getElem?_eq_getElem (by omega)]; rfl)
        rw [hel] at hd
        exact hd
    · obtain ⟨i, hi', rfl⟩ := List.mem_map.1 hb
      exact (hq i (List.mem_range.1 hi')).2.2.2.1
theorem denL_one {w : World} {c : Value} {a : AV} (h : Den V0 w c a) : DenL V0 w #[c] [a] := ⟨rfl, fun i x b h1 h2 => by
  cases i with
  | zero => simp at h1 h2; subst h1 h2; exact h
  | succ i => simp at h2⟩
theorem denL_cons {w : World} {c : Value} {cs : List Value} {a : AV} {bs : List AV} (h : Den V0 w c a) (hs : DenL V0 w cs.toArray bs) : DenL V0 w (c :: cs).toArray (a :: bs) := ⟨by have := hs.1; simp at this ⊢; exact this, fun i x b h1 h2 => by
  cases i with
  | zero => simp at h1 h2; subst h1 h2; exact h
  | succ i => exact hs.2 i x b (by simpa using h1) (by simpa using h2)⟩
theorem denL_nil {w : World} : DenL V0 w ([] : List Value).toArray [] := ⟨rfl, fun i x b h1 h2 => by simp at h2⟩
theorem lit_rng {k : Int} (h : (Lit.int .i64 k).wf = true) : Rng k := by
  unfold Lit.wf at h
  rw [Bool.and_eq_true, decide_eq_true_eq, decide_eq_true_eq] at h
  have m1 : IntKind.i64.min = -9223372036854775808 := by decide
  have m2 : IntKind.i64.max = 9223372036854775807 := by decide
  rw [m1, m2] at h
  exact h
theorem sumOf_three {α : Type} : ∀ l : List α, sumOf (fun _ => 3) l = l.length * 3
  | [] => rfl
  | a :: l => by simp only [sumOf, sumOf_three l, List.length_cons]; omega
/-- the parts of a level -/
theorem den_parts {H : Type} {enc : TypeId × Value → H} {w : World} {fuel : Nat} {c : Value} {x : DataW H × List MemPlace} (h : DataW.trod enc Tryz.prog w 0 (fun _ => true) true fuel 43 [c] = some x) :
    ∃ l : List (Int × Int), Den V0 w c (.vals 2 (l.map ePart)) ∧ (∀ p ∈ l, Rng p.1 ∧ Rng p.2) ∧ l.length * 3 + 1 ≤ Rows.uptoBulk x.1 := by
  obtain ⟨l, h1, h2, h3, _⟩ := den_elems (t := 43) (e := 100) (size := 2) ePart (fun p => Rng p.1 ∧ Rng p.2) (fun _ => 3) Tryz.underlying43 (by kernel_rfl) (by decide) (fun _ => rfl) h (fun n cs y _ hl hy => by
    obtain ⟨y0, y1, m, hy2, _, t0, t1⟩ := trod_struct2 Tryz.underlying100 hy
    have hC1 : Tryz.prog.cellsOf 3 = 1 := by kernel_rfl
    obtain ⟨c0, c1, rfl⟩ : ∃ c0 c1, cs = [c0, c1] := by
      match cs, hl with
      | [c0, c1], _ => exact ⟨c0, c1, rfl⟩
    simp only [hC1, List.drop_zero, List.drop_succ_cons, List.take_succ_cons, List.take_zero] at t0 t1
    obtain ⟨a0, e0, _, w0⟩ := DataW.trod_int Tryz.underlying3 t0
    obtain ⟨a1, e1, _, w1⟩ := DataW.trod_int Tryz.underlying3 t1
    simp at e0 e1
    subst e0 e1
    exact ⟨(a0, a1), denL_cons (.raw _) (denL_cons (.raw _) denL_nil), ⟨lit_rng w0, lit_rng w1⟩, by
      have g0 := bulk_one0 y0.1
      have g1 := bulk_one0 y1.1
      rw [hy2]
      simp only [Rows.uptoBulk, Rows.uptoBulkAll]
      omega⟩)
  rw [sumOf_three] at h3
  exact ⟨l, h1, h2, h3⟩
theorem den_lv {H : Type} {enc : TypeId × Value → H} {w : World} {fuel : Nat} {c : Value} {x : DataW H × List MemPlace} (h : DataW.trod enc Tryz.prog w 0 (fun _ => true) true fuel 45 [c] = some x) :
    ∃ l : List (Int × Int), DenL V0 w #[c] (eLv l).cells ∧ (∀ p ∈ l, Rng p.1 ∧ Rng p.2) ∧ 1 + l.length * 3 ≤ Rows.uptoBulk x.1 := by
  have hC2 : Tryz.prog.cellsOf 43 = 1 := by kernel_rfl
  obtain ⟨y0, n', hy1, _, h0⟩ := trod_struct1 Tryz.underlying45 h
  obtain ⟨l, q1, q2, q3⟩ := den_parts (c := c) (x := y0) (fuel := n') (by simpa [hC2] using h0)
  refine ⟨l, denL_one q1, q2, ?_⟩
  rw [hy1]
  simp only [Rows.uptoBulk, Rows.uptoBulkAll]
  omega
theorem sumOf_lens : ∀ ls : List (List (Int × Int)), sumOf (fun l => 1 + l.length) ls = lensSum ls
  | [] => rfl
  | l :: ls => by simp only [sumOf, lensSum, sumOf_lens ls]
theorem sumOf_counts : ∀ ts : List Tm, sumOf Tm.count ts = Tm.countL ts
  | [] => rfl
  | t :: ts => by simp only [sumOf, Tm.countL, sumOf_counts ts]
/-- every part's numbers are of a word -/
def RngL (ls : List (List (Int × Int))) : Prop := ∀ l ∈ ls, ∀ p ∈ l, Rng p.1 ∧ Rng p.2
theorem den_lvs {H : Type} {enc : TypeId × Value → H} {w : World} {fuel : Nat} {c : Value} {x : DataW H × List MemPlace} (h : DataW.trod enc Tryz.prog w 0 (fun _ => true) true fuel 24 [c] = some x) (hN : Rows.uptoBulk x.1 ≤ 1048576) :
    ∃ ls : List (List (Int × Int)), Den V0 w c (.vals 1 (ls.map eLv)) ∧ RngL ls ∧ SlimL ls ∧ lensSum ls + 1 ≤ Rows.uptoBulk x.1 := by
  obtain ⟨ls, h1, h2, h3, h4⟩ := den_elems (t := 24) (e := 45) (size := 1) eLv (fun l => (∀ p ∈ l, Rng p.1 ∧ Rng p.2) ∧ l.length ≤ 1000000) (fun l => 1 + l.length) Tryz.underlying24 (by kernel_rfl) (by decide) (fun _ => rfl) h (fun n cs y hlt hl hy => by
    obtain ⟨c', rfl⟩ : ∃ c', cs = [c'] := by
      match cs, hl with
      | [c'], _ => exact ⟨c', rfl⟩
    obtain ⟨l, q1, q2, q3⟩ := den_lv hy
    exact ⟨l, q1, ⟨q2, by omega⟩, by omega⟩)
  rw [sumOf_lens] at h3
  exact ⟨ls, h1, fun l hl => (h2 l hl).1, ⟨by omega, fun l hl => (h2 l hl).2⟩, h3⟩
/-- a term's numbers are of words -/
inductive Tm.rng : Tm → Prop
  | mk {k n a : Int} {lv : List (List (Int × Int))} {kids : List Tm} (h1 : Rng k) (h2 : Rng n) (h3 : Rng a) (h4 : RngL lv) (h5 : ∀ t ∈ kids, t.rng) : Tm.rng (.mk k n a lv kids)
instance : Inhabited Tm := ⟨.mk 0 0 0 [] []⟩
theorem trod_struct50 {H : Type} {P : Program} {w : World} {base : Nat} {spare : Nat → Bool} {held : Bool} {enc : TypeId × Value → H} {t : TypeId} {f0 f1 f2 f3 f4 : Field} {fuel : Nat} {cs : List Value} {x : DataW H × List MemPlace} (ht : P.underlying t = some (.struct #[f0, f1, f2, f3, f4])) (h : DataW.trod enc P w base spare held fuel t cs = some x) :
    ∃ y0 y1 y2 y3 y4 n, x.1 = .agg [y0.1, y1.1, y2.1, y3.1, y4.1] ∧ cs.length = P.cellsOf t ∧ DataW.trod enc P w base spare held n f0.type ((cs.drop f0.offset).take (P.cellsOf f0.type)) = some y0 ∧
      DataW.trod enc P w base spare held n f1.type ((cs.drop f1.offset).take (P.cellsOf f1.type)) = some y1 ∧ DataW.trod enc P w base spare held n f2.type ((cs.drop f2.offset).take (P.cellsOf f2.type)) = some y2 ∧
      DataW.trod enc P w base spare held n f3.type ((cs.drop f3.offset).take (P.cellsOf f3.type)) = some y3 ∧ DataW.trod enc P w base spare held n f4.type ((cs.drop f4.offset).take (P.cellsOf f4.type)) = some y4 := by
  obtain ⟨xs, n, _, rfl, hl, hlen, hf⟩ := DataW.trod_struct ht h
  match xs, hlen with
  | [y0, y1, y2, y3, y4], _ => exact ⟨y0, y1, y2, y3, y4, n, by simp, hl, by simpa using hf 0 f0 rfl, by simpa using hf 1 f1 rfl, by simpa using hf 2 f2 rfl, by simpa using hf 3 f3 rfl, by simpa using hf 4 f4 rfl⟩
/-- a term -/
theorem den_tm {H : Type} {enc : TypeId × Value → H} {w : World} : ∀ (N fuel : Nat) (cs : List Value) (x : DataW H × List MemPlace), Rows.uptoBulk x.1 ≤ N → N ≤ 1048576 → DataW.trod enc Tryz.prog w 0 (fun _ => true) true fuel 26 cs = some x →
    ∃ (t : Tm), DenL V0 w cs.toArray (eTm t).cells ∧ (t.fit ∧ t.rng) ∧ t.count ≤ Rows.uptoBulk x.1 := by
  intro N
  induction N with
  | zero =>
    intro fuel cs x hN _ _
    have := bulk_one0 x.1
    omega
  | succ N ihN =>
    intro fuel cs x hN hM h
    obtain ⟨y0, y1, y2, y3, y4, n, hx, hl, h0, h1, h2, h3, h4⟩ := trod_struct50 Tryz.underlying26 h
    have hC : Tryz.prog.cellsOf 26 = 5 := by kernel_rfl
    have hC0 : Tryz.prog.cellsOf 23 = 1 := by kernel_rfl
    have hC1 : Tryz.prog.cellsOf 3 = 1 := by kernel_rfl
    have hC3 : Tryz.prog.cellsOf 24 = 1 := by kernel_rfl
    have hC4 : Tryz.prog.cellsOf 22 = 1 := by kernel_rfl
    rw [hC] at hl
    obtain ⟨c0, c1, c2, c3, c4, rfl⟩ : ∃ c0 c1 c2 c3 c4, cs = [c0, c1, c2, c3, c4] := by
      match cs, hl with
      | [c0, c1, c2, c3, c4], _ => exact ⟨c0, c1, c2, c3, c4, rfl⟩
    simp only [hC0, hC1, hC3, hC4, List.drop_zero, List.drop_succ_cons, List.take_succ_cons, List.take_zero] at h0 h1 h2 h3 h4
    obtain ⟨a0, e0, _, w0⟩ := DataW.trod_int Tryz.underlying23 h0
    obtain ⟨a1, e1, _, w1⟩ := DataW.trod_int Tryz.underlying3 h1
    obtain ⟨a2, e2, _, w2⟩ := DataW.trod_int Tryz.underlying3 h2
    simp at e0 e1 e2
    subst e0 e1 e2
    have hbx : Rows.uptoBulk x.1 = Rows.uptoBulk y0.1 + Rows.uptoBulk y1.1 + Rows.uptoBulk y2.1 + Rows.uptoBulk y3.1 + Rows.uptoBulk y4.1 + 1 := by
      rw [hx]
      simp only [Rows.uptoBulk, Rows.uptoBulkAll]
      omega
    obtain ⟨lv, q1, q2, q3, q4⟩ := den_lvs h3 (by omega)
    obtain ⟨kids, r1, r2, r3, r4⟩ := den_elems (t := 22) (e := 26) (size := 5) eTm (fun t => t.fit ∧ t.rng) Tm.count Tryz.underlying22 hC (by decide) (fun t => by obtain ⟨k, n, a, lv, kids⟩ := t; rw [eTm_mk]; rfl) h4 (fun n cs y hy _ ht => ihN n cs y (by omega) (by omega) ht)
    rw [sumOf_counts] at r3
    refine ⟨.mk a0 a1 a2 lv kids, ?_, ⟨(Tm.fit_mk ..).2 ⟨lit_rng w1, q3, by omega, (Tm.fitL_iff _).2 fun t ht => (r2 t ht).1⟩, .mk (lit_rng w0) (lit_rng w1) (lit_rng w2) q2 fun t ht => (r2 t ht).2⟩, ?_⟩
    · rw [eTm_mk]
      exact denL_cons (.raw _) (denL_cons (.raw _) (denL_cons (.raw _) (denL_cons q1 (denL_cons r1 denL_nil))))
    · rw [Tm.count_mk]
      omega
/-! ### Arguments -/
section
variable {H : Type} {enc : TypeId × Value → H} {w : World} {r : Reach} {b0 : Nat} {v : Value} {d : DataW H} {p : List MemPlace}
theorem arg_term (hv : Value.okWide Tryz.prog w r b0 26 v) (h : DataW.Trod enc Tryz.prog w 0 (fun _ => true) true 26 v d p) (hN : Rows.uptoBulk d ≤ 1048576) : ∃ t : Tm, Den V0 w v (eTm t) ∧ t.fit ∧ t.rng ∧ t.count ≤ Rows.uptoBulk d := by
  obtain ⟨cs, rfl, hsz⟩ := okWide_struct Tryz.underlying26 hv
  obtain ⟨fuel, hf⟩ := h
  obtain ⟨t, h1, ⟨h2, h3⟩, h4⟩ := den_tm _ fuel cs.toList _ (Nat.le_refl _) hN hf
  obtain ⟨k, n, a, lv, kids⟩ := t
  rw [eTm_mk] at h1
  refine ⟨_, ?_, h2, h3, h4⟩
  rw [eTm_mk]
  exact .agg h1.1 h1.2
theorem arg_terms (hv : Value.okWide Tryz.prog w r b0 22 v) (h : DataW.Trod enc Tryz.prog w 0 (fun _ => true) true 22 v d p) (hN : Rows.uptoBulk d ≤ 1048576) : ∃ ts : List Tm, Den V0 w v (.vals 5 (ts.map eTm)) ∧ Tm.fitL ts ∧ (∀ t ∈ ts, t.rng) ∧ Tm.countL ts + 1 ≤ Rows.uptoBulk d := by
  obtain ⟨a0, len0, cap0, rfl⟩ := okWide_slice Tryz.underlying22 hv
  obtain ⟨fuel, hf⟩ := h
  obtain ⟨kids, r1, r2, r3, r4⟩ := den_elems (x := (d, p)) (t := 22) (e := 26) (size := 5) eTm (fun t => t.fit ∧ t.rng) Tm.count Tryz.underlying22 (by kernel_rfl) (by decide) (fun t => by obtain ⟨k, n, a, lv, kids⟩ := t; rw [eTm_mk]; rfl) (by simpa [Value.cells] using hf) (fun n cs y hy _ ht => den_tm _ n cs y (Nat.le_refl _) (by have hy : Rows.uptoBulk y.1 < Rows.uptoBulk d := hy; omega) ht)
  rw [sumOf_counts] at r3
  exact ⟨kids, r1, (Tm.fitL_iff _).2 fun t ht => (r2 t ht).1, fun t ht => (r2 t ht).2, r3⟩
theorem arg_levels (hv : Value.okWide Tryz.prog w r b0 24 v) (h : DataW.Trod enc Tryz.prog w 0 (fun _ => true) true 24 v d p) (hN : Rows.uptoBulk d ≤ 1048576) : ∃ ls : List (List (Int × Int)), Den V0 w v (.vals 1 (ls.map eLv)) ∧ RngL ls ∧ SlimL ls ∧ lensSum ls + 1 ≤ Rows.uptoBulk d := by
  obtain ⟨a0, len0, cap0, rfl⟩ := okWide_slice Tryz.underlying24 hv
  obtain ⟨fuel, hf⟩ := h
  exact den_lvs (x := (d, p)) (by simpa [Value.cells] using hf) hN
theorem arg_level (hv : Value.okWide Tryz.prog w r b0 45 v) (h : DataW.Trod enc Tryz.prog w 0 (fun _ => true) true 45 v d p) : ∃ l : List (Int × Int), Den V0 w v (eLv l) ∧ (∀ p ∈ l, Rng p.1 ∧ Rng p.2) ∧ 1 + l.length * 3 ≤ Rows.uptoBulk d := by
  obtain ⟨cs, rfl, hsz⟩ := okWide_struct Tryz.underlying45 hv
  obtain ⟨fuel, hf⟩ := h
  have hl : cs.size = 1 := by rw [hsz]; kernel_rfl
  obtain ⟨c, rfl⟩ : ∃ c, cs = #[c] := by
    obtain ⟨l⟩ := cs
    match l, hl with
    | [c], _ => exact ⟨c, rfl⟩
  obtain ⟨l, q1, q2, q3⟩ := den_lv (c := c) (x := (d, p)) (fuel := fuel) (by simpa [Value.cells] using hf)
  exact ⟨l, .agg q1.1 q1.2, q2, q3⟩
theorem arg_int (hv : Value.okWide Tryz.prog w r b0 3 v) (h : DataW.Trod enc Tryz.prog w 0 (fun _ => true) true 3 v d p) : ∃ n : Int, v = .int .i64 n ∧ Rng n := by
  obtain ⟨n, rfl⟩ := okWide_int Tryz.underlying3 hv
  obtain ⟨fuel, hf⟩ := h
  obtain ⟨a0, e0, _, w0⟩ := DataW.trod_int Tryz.underlying3 hf
  simp [Value.cells] at e0
  subst e0
  exact ⟨n, rfl, lit_rng w0⟩
end
/-! ### The table -/
theorem gKinds : Tryz.prog.globalNamed "spandrel/term.kinds" = some 0 := by kernel_rfl
theorem tKinds : (Tryz.prog.globals[0]?).map (·.type) = some 229 := by kernel_rfl
def kindData (r : Bool × Bool × Int × Int × Int) : DataW Unit := .agg [.lit (.bool r.1), .lit (.bool r.2.1), .lit (.int .i64 r.2.2.1), .lit (.int .i64 r.2.2.2.1), .lit (.int .i64 r.2.2.2.2)]
theorem laid_rows : (Rows.laid_spandrel_term_kinds : DataW Unit) = .agg (kindTab.map kindData) := by rfl
theorem kindTab_get : ∀ i : Nat, i < 25 → kindTab[i]? = some (kindRow i) := by
  intro i hi
  unfold kindRow
  rw [List.getD_eq_getElem?_getD]
  have : i < kindTab.length := hi
  rw [List.getElem?_eq_getElem this]
  rfl
theorem take_one {l : List Value} {a : Nat} {c : Value} (h : (l.drop a).take 1 = [c]) : l[a]? = some c := by
  have : ((l.drop a).take 1)[0]? = some c := by rw [h]; rfl
  rw [List.getElem?_take, if_pos (by decide), List.getElem?_drop] at this
  simpa using this
theorem take_in {l : List Value} {a b n : Nat} {c : Value} (h : ((l.drop a).take n)[b]? = some c) : l[a + b]? = some c := by
  rw [List.getElem?_take] at h
  split at h
  · rw [List.getElem?_drop] at h
    exact h
  · cases h
theorem kinds_laid {W : World} (h : laidMetH Tryz.prog [("spandrel/term.kinds", Rows.laid_spandrel_term_kinds)] W) : ∀ i, i < 25 → ∀ j x, (kindVals (kindRow i))[j]? = some x → W.cell? ⟨0, i * 5 + j, none⟩ = some x := by
  rw [MakeChecks.laidMetH_plain _ _ _ (by kernel_rfl)] at h
  obtain ⟨ps, ⟨g0, t0, cs0, f0, p0, q0, hg0, ht0, hv0, hd0, _, _⟩, _, _⟩ := h
  obtain rfl := Option.some.inj (gKinds.symm.trans hg0)
  obtain rfl := Option.some.inj (tKinds.symm.trans ht0)
  obtain ⟨xs, m, _, hx, _, hn, hel⟩ := DataW.trod_array Tryz.underlying229 hd0
  have hC : Tryz.prog.cellsOf 228 = 5 := by kernel_rfl
  have hCb : Tryz.prog.cellsOf 4 = 1 := by kernel_rfl
  have hCi : Tryz.prog.cellsOf 3 = 1 := by kernel_rfl
  rw [laid_rows] at hx
  have hx1 : kindTab.map kindData = xs.map (·.1) := by
    have := congrArg Prod.fst hx
    simpa using this
  intro i hi
  have he := hel i hi
  rw [hC] at he
  obtain ⟨x, hxi⟩ : ∃ x, xs[i]? = some x := ⟨_, List.getElem?_eq_getElem (by omega)⟩
  rw [hxi] at he
  have hxd : x.1 = kindData (kindRow i) := by
    have := congrArg (·[i]?) hx1
    simp only [List.getElem?_map, hxi, kindTab_get i hi, Option.map_some, Option.some.injEq] at this
    exact this.symm
  obtain ⟨y0, y1, y2, y3, y4, n, hy, _, h0, h1, h2, h3, h4⟩ := trod_struct50 Tryz.underlying228 he
  simp only [hCb, hCi] at h0 h1 h2 h3 h4
  obtain ⟨b0, e0, u0⟩ := DataW.trod_bool Tryz.underlying4 h0
  obtain ⟨b1, e1, u1⟩ := DataW.trod_bool Tryz.underlying4 h1
  obtain ⟨b2, e2, u2, _⟩ := DataW.trod_int Tryz.underlying3 h2
  obtain ⟨b3, e3, u3, _⟩ := DataW.trod_int Tryz.underlying3 h3
  obtain ⟨b4, e4, u4, _⟩ := DataW.trod_int Tryz.underlying3 h4
  rw [hxd, u0, u1, u2, u3, u4] at hy
  unfold kindData at hy
  injection hy with hy
  injection hy with r0 hy
  injection hy with r1 hy
  injection hy with r2 hy
  injection hy with r3 hy
  injection hy with r4 _
  injection r0 with r0
  injection r0 with r0
  injection r1 with r1
  injection r1 with r1
  injection r2 with r2
  injection r2 with _ r2
  injection r3 with r3
  injection r3 with _ r3
  injection r4 with r4
  injection r4 with _ r4
  have c0 := take_in (take_one e0)
  have c1 := take_in (take_one e1)
  have c2 := take_in (take_one e2)
  have c3 := take_in (take_one e3)
  have c4 := take_in (take_one e4)
  intro j x hj
  unfold kindVals at hj
  rw [r0, r1, r2, r3, r4] at hj
  rw [World.var?_cell hg0 hv0]
  match j, hj with
  | 0, hj => simp at hj; subst hj; simpa using c0
  | 1, hj => simp at hj; subst hj; simpa using c1
  | 2, hj => simp at hj; subst hj; simpa using c2
  | 3, hj => simp at hj; subst hj; simpa using c3
  | 4, hj => simp at hj; subst hj; simpa using c4
theorem glob_laid {W : World} (h : laidMetH Tryz.prog [("spandrel/term.kinds", Rows.laid_spandrel_term_kinds)] W) : Glob V0 W := fun g cs hg k x hx => by
  unfold globs at hg
  split at hg
  · rename_i e
    subst e
    injection hg with hg
    subst hg
    have hlen : kindCells.length = 125 := rfl
    have hk : k < 125 := by rw [← hlen]; exact (List.getElem?_eq_some_iff.1 hx).1
    have hki : k / 5 < 25 := by omega
    have hd := kindCells_drop (k / 5) hki
    have hkv : (kindVals (kindRow (k / 5)))[k % 5]? = some x := by
      rw [← hd, List.getElem?_take, if_pos (Nat.mod_lt _ (by decide)), List.getElem?_drop, show k / 5 * 5 + k % 5 = k by omega]; exact hx
    have := kinds_laid h (k / 5) hki (k % 5) x hkv
    rw [show k / 5 * 5 + k % 5 = k by omega] at this
    exact ⟨ok0 this, this⟩
  · cases hg
/-! ### What is told -/
theorem rel0 {W : World} (hg : Glob V0 W) : Rel V0 W where
  bound b i h := h.elim
  free r o h := by cases h
  live r o h := by cases h
  apart r s o p h := by cases h
  cells r c h := by cases h
  loop r l h := by cases h
  mark r h := by cases h
  glob := hg
theorem tells_calls {fid : FuncId} {fn : Func} {c : Code} {args : List AV} {b : Bool} {us : Array Value} {W : World} (ht : Tells Tryz.prog (.func fid) args [] (eBool b)) (hf : Tryz.prog.funcs[fid]? = some fn) (hb : fn.body = some c) (hn : (fn.name == "runtime.NumGoroutine") = false) (hg : Glob V0 W) (hu : DenL V0 W us args) :
    Calls Tryz.prog fid us W fun e W' => e = .returned (.bool b) ∧ Below W.heap.size W W' := by
  obtain ⟨r, h', k1, k2⟩ := ht.gives (h := AH.zero) (R := fun r _ => r = .ret (eBool b)) rfl
  subst k2
  have := sound_calls (res := fun _ _ => False) (g := fun _ => 0) (q := fun _ => 0) (us := us) (cs := #[]) (w := W) (sound k1) hf hb hn (rel0 hg) hu ⟨rfl, fun i x a h1 h2 => by simp at h2⟩
  rw [Array.append_empty] at this
  refine this.mono fun e W' hp => ?_
  obtain ⟨g', q', t, hd⟩ := hp
  cases e with
  | returned v =>
    have hd : Den _ _ v (eBool b) := hd
    cases hd
    exact ⟨rfl, t.keep.os, t.keep.tape, t.keep.output, t.keep.size, fun k hk => t.keep.block k hk fun r o ho => by cases ho⟩
  | panicked ch => exact hd.elim
  | outgrown => exact hd.elim
end Go.Proofs.YtaoglkkdhdfioaaGreatDoor
