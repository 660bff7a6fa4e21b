/- Laws. -/
import Derived.Test.YtfgnnbpbbnnnhaaDoorKqba
import Derived.Deep.OwnRows
namespace Go.Proofs.YtfgnnbpbbnnnhaaDoor
open Go.RowKit Go.Maps
theorem cyB_good {ds : List Dc} {k : Nat} (h : cntSum ds ≤ 1099511627776) : ∀ z ∈ cyB ds k, 0 ≤ z ∧ z ≤ 1099511627776 := by
  intro z hz
  unfold cyB at hz
  rw [List.mem_map] at hz
  obtain ⟨i, _, rfl⟩ := hz
  have := cntSum_le ds i
  omega
end Go.Proofs.YtfgnnbpbbnnnhaaDoor
