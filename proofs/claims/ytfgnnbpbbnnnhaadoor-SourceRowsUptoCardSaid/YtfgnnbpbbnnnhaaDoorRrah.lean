/- Laws. -/
import Derived.Test.YtfgnnbpbbnnnhaaDoorRrag
import Derived.RangeFuncNested
import Derived.RangeFuncBound
import Derived.RangeFuncCalls
import Derived.RangeFuncLeaves
import Derived.RangeFuncFrom
import Derived.Shelf.Abstract
import Derived.Shelf.RegionOpen
import Derived.OwnWalkIn
import Derived.TacticsInMore
import Derived.LoopNIn
import Derived.LoopIn
namespace Go.Proofs.YtfgnnbpbbnnnhaaDoor
open Go.RowKit Go.Shelf
attribute [local go_sem] Oper.semAt_some
/-- a node as it is handed on -/
structure NodeE where
  k : Int
  n : Int
  a : Int
  A1 : Option Addr
  p1 : Nat
  c1 : Nat
  A2 : Option Addr
  p2 : Nat
  c2 : Nat
def NodeE.enc (x : NodeE) : Value := .agg #[.int .i64 x.k, .int .i64 x.n, .int .i64 x.a, .slice x.A1 x.p1 x.c1, .slice x.A2 x.p2 x.c2]
end Go.Proofs.YtfgnnbpbbnnnhaaDoor
