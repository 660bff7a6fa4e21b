/- Laws. -/
import Derived.Test.YtfgnnbpbbnnnhaaDoorKqah
import Derived.Deep.RegionLaw
import Derived.Deep.AppendLies
import Derived.StillTactics
namespace Go.Proofs.YtfgnnbpbbnnnhaaDoor
open Go.RowKit Go.Maps
instance (p : Int × Int) : Decidable (okPart p) := by unfold okPart; exact inferInstance
end Go.Proofs.YtfgnnbpbbnnnhaaDoor
