/- How a row of levels lies in memory, an argument: by its levels' parts, within what a machine's memory holds. -/
import Derived.Test.YtldalfikpklfdaaGreatLvOpen
import Derived.Test.YtldalfikpklfdaaGreatLvCount
namespace Go.Proofs.YtldalfikpklfdaaGreat
open Go.ChangeShapes Go.WideShapes Go.ChangeAt Go.RowKit Go.Deep

set_option maxRecDepth 100000 in
theorem weights_all {H : Type} (P : Program) (e : TypeId) (n : Nat) : ∀ l : List (DataW H), (∃ x ∈ l, n ∈ x.weights P e) → n ∈ DataW.weightsAll P e l
  | [], h => by obtain ⟨x, hx, _⟩ := h; cases hx
  | d :: r, h => by
    obtain ⟨x, hx, hn⟩ := h
    rw [DataW.weightsAll, List.mem_append]
    rcases List.mem_cons.1 hx with rfl | hx
    · exact Or.inl hn
    · exact Or.inr (weights_all P e n r ⟨x, hx, hn⟩)

set_option maxRecDepth 100000 in
theorem open_levels {H : Type} {enc : TypeId × Value → H} {w : World} {r : Reach} {b0 : Nat} {v : Value} {d : DataW H} {p : List MemPlace} (hv : Value.okWide Tryz.prog w r b0 31 v) (h : DataW.Trod enc Tryz.prog w 0 (fun _ => true) true 31 v d p)
    (hw : ∀ n ∈ d.weights Tryz.prog 31, n ≤ reachBytes) :
    ∃ (A : Option Addr) (ls : List (List (Int × Int))) (k : Nat), v = .slice A ls.length k ∧ (A = none → k = 0) ∧ Levs w w.heap.size A ls ∧ ls.length ≤ 5864062014634 := by
  obtain ⟨a0, len0, cap0, rfl⟩ := okWide_slice Tryz.underlying31 hv
  obtain ⟨fuel, hf⟩ := h
  have hcell : Tryz.prog.cellsOf 24 = 1 := by kernel_rfl
  have hC2 : Tryz.prog.cellsOf 22 = 1 := by kernel_rfl
  rcases open_slice Tryz.underlying31 hf with ⟨hcs, _⟩ | ⟨a, len, cap, m, n, D, Pl, hcs, _, hl, hm, hmm, hx, hi⟩
  · simp [Value.cells] at hcs
    obtain ⟨rfl, rfl, rfl⟩ := hcs
    exact ⟨none, [], 0, rfl, fun _ => rfl, fun h => by simp at h, by simp⟩
  · simp [Value.cells] at hcs
    obtain ⟨rfl, rfl, rfl⟩ := hcs
    simp at hmm
    subst hmm
    have hd : d = .slice ((List.range len0).map D) ((List.range (m - len0)).map fun j => D (len0 + j)) := by
      have := congrArg Prod.fst hx
      simpa using this
    have hb : Tryz.prog.bytesOf 24 = 24 := by kernel_rfl
    have hwd : d.weights Tryz.prog 31 = (((List.range len0).map D).length + ((List.range (m - len0)).map fun j => D (len0 + j)).length) * 24 :: (DataW.weightsAll Tryz.prog 24 ((List.range len0).map D) ++ DataW.weightsAll Tryz.prog 24 ((List.range (m - len0)).map fun j => D (len0 + j))) := by
      rw [hd, DataW.weights, Tryz.underlying31]
      simp only [hb]
    have hlen : len0 ≤ 5864062014634 := by
      have := hw _ (by rw [hwd]; exact List.mem_cons_self)
      simp only [List.length_map, List.length_range, reachBytes] at this
      omega
    have each : ∀ i, i < len0 → ∃ q : Option Addr × List (Int × Int) × Nat, w.cell? (a.add i) = some (.slice q.1 q.2.1.length q.2.2) ∧ Lev w w.heap.size q.1 q.2.1 ∧ (q.1 = none → q.2.2 = 0) ∧ q.2.1.length ≤ 4611686018427387904 := fun i hlt => by
      obtain ⟨cs', h1, h2⟩ := hi i (by omega)
      rw [hcell, Nat.mul_one] at h1
      obtain ⟨_, hcl, hcc⟩ := World.cells?_some h1
      obtain ⟨c, rfl⟩ : ∃ c, cs' = [c] := by
        match cs', hcl with
        | [c], _ => exact ⟨c, rfl⟩
      have hc := cell_of_cells?_one h1
      obtain ⟨y0, n', hy, _, h0⟩ := trod_struct1 Tryz.underlying24 h2
      obtain ⟨A, ps, k, rfl, q1, q2, _, _, q5⟩ := open_parts (c := c) (x := y0) (fuel := n') (by simpa [hC2] using h0)
      refine ⟨(A, ps, k), hc, q2, q1, ?_⟩
      rcases q5 with q5 | ⟨x, hxm, hxl⟩
      · simp only; omega
      · have hD : D i = .agg [y0.1] := by
          have := congrArg Prod.fst hy
          simpa using this
        have hmem : x ∈ d.weights Tryz.prog 31 := by
          rw [hwd]
          refine List.mem_cons_of_mem _ (List.mem_append_left _ (weights_all _ _ _ _ ⟨D i, List.mem_map.2 ⟨i, List.mem_range.2 hlt, rfl⟩, ?_⟩))
          rw [hD, DataW.weights, Tryz.underlying24]
          simpa [DataW.weightsEach] using hxm
        have := hw x hmem
        simp only [reachBytes] at this
        simp only
        omega
    obtain ⟨q, hq⟩ := choose_lt each
    have hll : ((List.range len0).map fun i => (q i).2.1).length = len0 := by simp
    refine ⟨some a, (List.range len0).map fun i => (q i).2.1, m, by rw [hll], fun e => (by cases e), fun hp => ?_, by rw [hll]; exact hlen⟩
    rw [hll] at hp
    obtain ⟨b, off, spot⟩ := a
    have hc := (hq 0 (by omega)).1
    have hspot : spot = none := by simpa [Addr.add] using World.cell?_spot hc
    subst hspot
    refine ⟨b, off, rfl, cell_lt (by simpa [Addr.add] using hc), fun i hlt => ?_⟩
    rw [hll] at hlt
    have hg : ((List.range len0).map fun i => (q i).2.1).getD i [] = (q i).2.1 := by rw [List.getD_eq_getElem?_getD]; simp [hlt]
    obtain ⟨c0, c1, c2, c3⟩ := hq i hlt
    rw [hg]
    rw [add_flat] at c0
    exact ⟨(q i).1, (q i).2.2, c0, c1, c2, c3⟩
end Go.Proofs.YtldalfikpklfdaaGreat
