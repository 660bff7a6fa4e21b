/- Laws. -/
import Derived.Test.YtfgnnbpbbnnnhaaDoorRraj
import Derived.Test.YtfgnnbpbbnnnhaaDoorRraq
import Derived.MapKept
namespace Go.Proofs.YtfgnnbpbbnnnhaaDoor
open Go.RowKit Go.Maps
theorem infoT5 : (Tryd.prog.info? 27).map (·.size) = some 5 := by kernel_rfl
def zeroTm : Array Value := #[.int .i64 0, .int .i64 0, .int .i64 0, .slice none 0 0, .slice none 0 0]
end Go.Proofs.YtfgnnbpbbnnnhaaDoor
