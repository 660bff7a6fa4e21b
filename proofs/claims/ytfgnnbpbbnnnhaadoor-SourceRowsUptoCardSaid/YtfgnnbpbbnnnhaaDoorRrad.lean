/- Laws. -/
import Derived.Test.YtfgnnbpbbnnnhaaDoorRraa
import Derived.Test.YtfgnnbpbbnnnhaaDoorRrab
import Derived.Test.YtfgnnbpbbnnnhaaDoorRrac
import Derived.Maps.RangeWalk
import Derived.Maps.OwnSet
import Derived.Maps.OwnOps
import Derived.OneCell
import Derived.Deep.Cut
import Derived.Deep.CutRange
import Derived.Deep.DeepCutAuto
namespace Go.Proofs.YtfgnnbpbbnnnhaaDoor
open Go.RowKit Go.Maps
theorem two_allocs (w : World) (A B : Obj) : ((w.alloc A).alloc B).heap[w.heap.size]? = some A ∧ ((w.alloc A).alloc B).heap[w.heap.size + 1]? = some B ∧ (∀ i, i < w.heap.size → ((w.alloc A).alloc B).heap[i]? = w.heap[i]?) := by
  refine ⟨(Below.heap_alloc _ _ _ (by simp)).trans (heap_alloc_new w A), ?_, fun i hi => (Below.heap_alloc _ _ _ (by simp; omega)).trans (Below.heap_alloc _ _ _ hi)⟩
  have := heap_alloc_new (w.alloc A) B
  simpa using this
theorem own_slice {w : World} {B : Nat} {e : TypeId} {s : Nat} {v : Value} {n : Nat} {xs : List Value} (h : w.ownsRow B e s v n xs) : ∃ A n c, v = .slice A n c := by
  rcases h.2 with ⟨rfl, _⟩ | ⟨g, cap, cur, rfl, _⟩
  · exact ⟨_, _, _, rfl⟩
  · exact ⟨_, _, _, rfl⟩
theorem two_new (w : World) (a c : Value) (t : TypeId) : ∀ (j : Nat) (u : Value), [a, c][j]? = some u → (w.alloc (.cells #[a, c] t)).cell? ((⟨w.heap.size, 0, none⟩ : Addr).add j) = some u := by
  intro j u hu
  have hh := heap_alloc_new w (.cells #[a, c] t)
  match j, hu with
  | 0, hu => exact (cell_of_row _ _ 0 _ t (0, 0) hh).trans (by simpa using hu)
  | 1, hu => exact (cell_of_row _ _ 1 _ t (0, 0) hh).trans (by simpa using hu)
  | j + 2, hu => simp at hu
end Go.Proofs.YtfgnnbpbbnnnhaaDoor
