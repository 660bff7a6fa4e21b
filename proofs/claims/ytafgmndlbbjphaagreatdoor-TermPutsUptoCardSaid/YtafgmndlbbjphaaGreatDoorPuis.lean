/- A value that is known. -/
import Derived.Test.YtafgmndlbbjphaaGreatDoorProg
import Derived.WalkKit
namespace Go.Proofs.YtafgmndlbbjphaaGreatDoor
open Go.RowKit
abbrev Is (v : Value) : Value → World → Prop := fun x _ => x = v
abbrev BR : World → World → Prop := fun w1 w2 => Below w1.heap.size w1 w2
end Go.Proofs.YtafgmndlbbjphaaGreatDoor
