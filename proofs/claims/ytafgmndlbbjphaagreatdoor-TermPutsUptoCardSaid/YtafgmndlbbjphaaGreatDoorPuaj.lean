/- Laws. -/
import Derived.Test.YtafgmndlbbjphaaGreatDoorPuah
import Derived.Deep.RegionLaw
import Derived.Deep.AppendLies
import Derived.StillTactics
set_option maxRecDepth 100000
namespace Go.Proofs.YtafgmndlbbjphaaGreatDoor
open Go.RowKit Go.Maps
theorem take_snoc_ {α : Type} {l : List α} {k : Nat} {p : α} (h : l[k]? = some p) : l.take (k + 1) = l.take k ++ [p] := by
 obtain ⟨hk, e⟩ := List.getElem?_eq_some_iff.1 h
 rw [List.take_succ_eq_append_getElem hk, e]
instance (p : Int × Int) : Decidable (okPart p) := by unfold okPart; exact inferInstance
end Go.Proofs.YtafgmndlbbjphaaGreatDoor
