/- What 'of' of the statements answers: the level of pairs of numbers; of at most a million of them. -/
import Derived.Test.YtafgmndlbbjphaaDoorLvSame
import Derived.Deep.RegionLaw
import Derived.Deep.AppendLies
import Derived.StillTactics
namespace Go.Proofs.YtafgmndlbbjphaaDoor
open Go.RowKit Go.Maps

def pairsOf : List Int → List (Int × Int)
  | a :: b :: r => (a, b) :: pairsOf r
  | _ => []
theorem pairsOf_length : ∀ ns : List Int, (pairsOf ns).length = ns.length / 2
  | [] => rfl
  | [_] => by simp [pairsOf]
  | a :: b :: r => by simp [pairsOf, pairsOf_length r]; omega
theorem pairsOf_get : ∀ (ns : List Int) (k : Nat), k * 2 + 1 < ns.length → (pairsOf ns)[k]? = some (ns.getD (k * 2) 0, ns.getD (k * 2 + 1) 0)
  | [], k, h => by simp at h
  | [_], k, h => by simp at h
  | a :: b :: r, 0, _ => by simp [pairsOf]
  | a :: b :: r, k + 1, h => by
    have := pairsOf_get r k (by simp at h; omega)
    simp only [pairsOf, List.getElem?_cons_succ, this]
    rw [show (k + 1) * 2 = k * 2 + 2 from by omega]
    simp

theorem take_snoc_ {α : Type} {l : List α} {k : Nat} {p : α} (h : l[k]? = some p) : l.take (k + 1) = l.take k ++ [p] := by
  obtain ⟨hk, e⟩ := List.getElem?_eq_some_iff.1 h
  rw [List.take_succ_eq_append_getElem hk, e]


end Go.Proofs.YtafgmndlbbjphaaDoor
