/- What level.Max answers of levels whose parts may all stand in a normal form: the normal form of all of them; of at most a million parts. -/
import Derived.Test.YtafgmndlbbjphaaDoorLvCount
import Derived.Laws.AppendOwnNone
namespace Go.Proofs.YtafgmndlbbjphaaDoor
open Go.RowKit Go.Maps

def flat (ls : List (List (Int × Int))) : List (Int × Int) := ls.flatten
theorem flat_take {ls : List (List (Int × Int))} {k : Nat} (hk : k < ls.length) : flat (ls.take (k + 1)) = flat (ls.take k) ++ ls.getD k [] := by
  unfold flat
  rw [List.take_succ_eq_append_getElem hk, List.flatten_append, List.getD_eq_getElem?_getD, List.getElem?_eq_getElem hk]
  simp
theorem flat_le (ls : List (List (Int × Int))) (k : Nat) : (flat (ls.take k)).length ≤ (flat ls).length := by
  unfold flat
  have := congrArg (fun l => l.flatten.length) (List.take_append_drop k ls)
  simp only [List.flatten_append, List.length_append] at this
  omega


end Go.Proofs.YtafgmndlbbjphaaDoor
