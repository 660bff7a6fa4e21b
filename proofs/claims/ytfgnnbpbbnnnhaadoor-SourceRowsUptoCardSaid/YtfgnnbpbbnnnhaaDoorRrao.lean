/- Laws. -/
import Derived.Test.YtfgnnbpbbnnnhaaDoorRrag
import Derived.Test.YtfgnnbpbbnnnhaaDoorRraj
import Derived.Test.YtfgnnbpbbnnnhaaDoorRran
import Derived.Laws.ResultCell
import Derived.BigRegion
namespace Go.Proofs.YtfgnnbpbbnnnhaaDoor
open Go.RowKit Go.Maps
theorem bools_block {w : World} {g : Nat} {bs : List Bool} {t : TypeId} (h : w.heap[g]? = some (.cells (bs.map Value.bool).toArray t (0, 0))) : Bools w (some ⟨g, 0, none⟩) bs := fun _ => ⟨g, 0, rfl, heap_some_lt h, fun i hi => by
  rw [Nat.zero_add, cell_of_row _ _ i _ _ (0, 0) h, List.getElem?_toArray, List.getElem?_map, List.getElem?_eq_getElem hi, List.getD_eq_getElem?_getD, List.getElem?_eq_getElem hi]
  rfl⟩
/-- what is told, or an error is thrown -/
def OrThrow (w : World) (k : Int) (b : Bool) (P : Ending → World → Prop) (e : Ending) (w' : World) : Prop := (b = true → P e w' ∧ Below w.heap.size w w') ∧ (b = false → ThrowPost w k e w')
/-- a declaration of nothing -/
def zeroDc : Array Value := #[.int .i64 0, .int .i64 0, .int .i64 0, .int .i64 0, .int .i64 0, .slice none 0 0, .slice none 0 0, .int .i64 0, .int .i64 0, .int .i64 0, .slice none 0 0, .slice none 0 0, .slice none 0 0, .slice none 0 0, .slice none 0 0, .slice none 0 0]
end Go.Proofs.YtfgnnbpbbnnnhaaDoor
