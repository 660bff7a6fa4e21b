/- The variables of the package that nobody changes (tables): the table of kinds, the program's first variable. A seat with other tables lays its own here. -/
import Derived.CallsIn
namespace Go.Proofs.YtaoglkkdhdfioaaGreatDoor
open Go
def kindTab : List (Bool × Bool × Int × Int × Int) := [(false, false, 0, 0, 0), (true, false, 0, 0, 0), (false, false, 1, 0, 0), (true, false, 2, 0, 0), (false, false, 0, 2, 2), (false, false, 0, 2, 2), (false, false, 0, 2, 0), (false, false, 0, 3, 3), (true, true, 2, 0, 0), (true, true, 2, 0, 0), (true, true, 3, 0, 0), (false, true, 0, 0, 0), (false, false, 0, 2, 2), (false, false, 0, 2, 0), (false, false, 0, 1, 0), (false, false, 0, 1, 0), (false, false, 0, 2, 2), (false, false, 0, 2, 0), (false, false, 0, 5, 2), (false, false, 0, 3, 0), (false, false, 0, 0, 0), (false, false, 0, 6, 0), (true, false, 0, 0, 0), (true, true, 0, 0, 0), (false, true, 0, -1, 0)]
def kindRow (i : Nat) : Bool × Bool × Int × Int × Int := kindTab.getD i (false, false, 0, 0, 0)
def kindVals (r : Bool × Bool × Int × Int × Int) : List Value := [.bool r.1, .bool r.2.1, .int .i64 r.2.2.1, .int .i64 r.2.2.2.1, .int .i64 r.2.2.2.2]
def kindCells : List Value := kindTab.flatMap kindVals
def globs : Nat → Option (List Value) := fun g => if g = 0 then some kindCells else none
theorem kindCells_drop : ∀ i : Nat, i < 25 → (kindCells.drop (i * 5)).take 5 = kindVals (kindRow i) := by
  intro i hi
  have : i = 0 ∨ i = 1 ∨ i = 2 ∨ i = 3 ∨ i = 4 ∨ i = 5 ∨ i = 6 ∨ i = 7 ∨ i = 8 ∨ i = 9 ∨ i = 10 ∨ i = 11 ∨ i = 12 ∨ i = 13 ∨ i = 14 ∨ i = 15 ∨ i = 16 ∨ i = 17 ∨ i = 18 ∨ i = 19 ∨ i = 20 ∨ i = 21 ∨ i = 22 ∨ i = 23 ∨ i = 24 := by omega
  rcases this with rfl | rfl | rfl | rfl | rfl | rfl | rfl | rfl | rfl | rfl | rfl | rfl | rfl | rfl | rfl | rfl | rfl | rfl | rfl | rfl | rfl | rfl | rfl | rfl | rfl <;> rfl
end Go.Proofs.YtaoglkkdhdfioaaGreatDoor
