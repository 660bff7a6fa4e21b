/- Laws. -/
import Derived.Test.YtkijhinhjnbnlaaDoorKpah
import Derived.Deep.RegionLaw
import Derived.Deep.AppendLies
import Derived.StillTactics
namespace Go.Proofs.YtkijhinhjnbnlaaDoor
open Go.RowKit Go.Maps
instance (p : Int × Int) : Decidable (okPart p) := by unfold okPart; exact inferInstance
end Go.Proofs.YtkijhinhjnbnlaaDoor
