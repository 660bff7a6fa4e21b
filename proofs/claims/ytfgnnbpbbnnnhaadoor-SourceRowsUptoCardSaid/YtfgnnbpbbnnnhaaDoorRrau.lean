/- Laws. -/
import Derived.Test.YtfgnnbpbbnnnhaaDoorRrae
import Derived.ProofKit
import Derived.OpenShut
import Derived.ChangeOld
import Derived.ChangeSlices
import Derived.Deep.SlicePairs
import Derived.Carry
namespace Go.Proofs.YtfgnnbpbbnnnhaaDoor
open Go.ChangeShapes Go.WideShapes Go.ChangeAt Go.RowKit Go.Deep
set_option maxRecDepth 100000 in
theorem add_flat (b off j : Nat) : (⟨b, off, none⟩ : Addr).add j = ⟨b, off + j, none⟩ := by unfold Addr.add; split <;> simp_all
set_option maxRecDepth 100000 in
theorem bulk_one {H : Type} (d : DataW H) : 1 ≤ Rows.uptoBulk d := by
  cases d with
  | lit l => cases l <;> simp [Rows.uptoBulk]
  | nil => simp [Rows.uptoBulk]
  | ptr d => simp [Rows.uptoBulk]
  | slice elems spare => simp [Rows.uptoBulk]
  | agg parts => simp [Rows.uptoBulk]
  | iface t d => simp [Rows.uptoBulk]
  | map entries => simp [Rows.uptoBulk]
  | held h => simp [Rows.uptoBulk]
set_option maxRecDepth 100000 in
theorem bulk_pairs {H : Type} (n : Nat) (D0 D1 : Nat → DataW H) : n * 3 ≤ Rows.uptoBulkAll ((List.range n).map fun i => .agg [D0 i, D1 i]) := by
  have : ∀ l : List Nat, l.length * 3 ≤ Rows.uptoBulkAll (l.map fun i => (DataW.agg [D0 i, D1 i] : DataW H)) := by
    intro l
    induction l with
    | nil => simp [Rows.uptoBulkAll]
    | cons x l ih =>
      have h0 := bulk_one (D0 x)
      have h1 := bulk_one (D1 x)
      simp only [List.map_cons, Rows.uptoBulkAll, Rows.uptoBulk, List.length_cons]
      omega
  simpa using this (List.range n)
set_option maxRecDepth 100000 in
theorem open_parts {H : Type} {enc : TypeId × Value → H} {w : World} {fuel : Nat} {c : Value} {x : DataW H × List MemPlace} (h : DataW.trod enc Tryd.prog w 0 (fun _ => true) true fuel 37 [c] = some x) :
    ∃ (A : Option Addr) (ps : List (Int × Int)) (k : Nat), c = .slice A ps.length k ∧ (A = none → k = 0) ∧ Lev w w.heap.size A ps ∧ ps.length * 3 ≤ Rows.uptoBulk x.1 ∧ ps.length ≤ maxLen ∧ (ps.length = 0 ∨ ∃ n ∈ x.1.weights Tryd.prog 37, ps.length ≤ n) := by
  rcases open_slice_pairs Tryd.underlying37 Tryd.underlying91 (by kernel_rfl) rfl rfl (by kernel_rfl) (by kernel_rfl) h with ⟨hc, rfl⟩ | ⟨a, len, cap, m, n, V0, V1, D0, D1, P0, P1, hc, _, hl, hm, hmm, rfl, hx⟩
  · simp at hc
    subst hc
    exact ⟨none, [], 0, rfl, fun _ => rfl, fun h => by simp at h, by simp, by simp, Or.inl rfl⟩
  · simp at hc
    subst hc
    simp at hmm
    subst hmm
    have each : ∀ i, i < m → ∃ q : Int × Int, V0 i = .int .i64 q.1 ∧ V1 i = .int .i64 q.2 := fun i hi => by
      obtain ⟨_, _, t0, t1⟩ := hx i hi
      obtain ⟨a0, e0, _, _⟩ := DataW.trod_int Tryd.underlying3 t0
      obtain ⟨a1, e1, _, _⟩ := DataW.trod_int Tryd.underlying3 t1
      simp at e0 e1
      exact ⟨(a0, a1), e0, e1⟩
    obtain ⟨q, hq⟩ := choose_lt each
    have hlen : ((List.range len).map q).length = len := by simp
    refine ⟨some a, (List.range len).map q, m, by rw [hlen], fun e => (by cases e), fun hp => ?_, ?_, by rw [hlen]; omega, Or.inr ?_⟩
    · rw [hlen] at hp
      obtain ⟨b, off, spot⟩ := a
      have hc := (hx 0 (by omega)).1
      have hspot : spot = none := by simpa [Addr.add] using World.cell?_spot hc
      subst hspot
      refine ⟨b, off, rfl, cell_lt (by simpa [Addr.add] using hc), fun i hi => ?_⟩
      rw [hlen] at hi
      have hg : ((List.range len).map q).getD i (0, 0) = q i := by rw [List.getD_eq_getElem?_getD]; simp [hi]
      obtain ⟨c0, c1, _, _⟩ := hx i (by omega)
      rw [hg, ← (hq i (by omega)).1, ← (hq i (by omega)).2]
      rw [add_flat] at c0 c1
      exact ⟨c0, c1⟩
    · rw [hlen]
      have := bulk_pairs len D0 D1
      simp only [Rows.uptoBulk]
      omega
    · have hb : Tryd.prog.bytesOf 91 = 16 := by kernel_rfl
      refine ⟨(((List.range len).map fun i => (DataW.agg [D0 i, D1 i] : DataW H)).length + ((List.range (m - len)).map fun j => (DataW.agg [D0 (len + j), D1 (len + j)] : DataW H)).length) * Tryd.prog.bytesOf 91, by simp [DataW.weights, Tryd.underlying37], ?_⟩
      rw [hlen, hb]
      simp
      omega
end Go.Proofs.YtfgnnbpbbnnnhaaDoor
