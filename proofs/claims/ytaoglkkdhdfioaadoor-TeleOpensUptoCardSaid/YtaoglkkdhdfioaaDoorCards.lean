/-
  DERIVED. GIVEN WITH THE SEED: THE CARDS: each row of YtaoglkkdhdfioaaDoorRows.lean that lists a variable, with what it lists TIED to the program's text (the seventh form; the later family's looks); each row that meets fmt, with fmt's text TOLD by the authors' own Lean function (tested against real Go, not proved from fmt's source: count such statements apart). THE CARD IS WHAT COUNTS. Prove the row's statement (the work); the ties are given (YtaoglkkdhdfioaaDoorTie.lean); close each card by the builder's one call (the guide's Derived/Test/ToyasCard.lean, 'card_holds'). Laid BY PROGRAM, IN A SANDBOX (cutbox-door.mjs). By AI agents, Wed Nov 11 2026. No macro, syntax, notation, axiom, sorry.
-/
import Derived.Test.YtaoglkkdhdfioaaDoorRows
import GoSem.ClaimSeven
namespace Go.Proofs.YtaoglkkdhdfioaaDoor
namespace Rows

/-- THE TIED CARD OF 'spandrellaw04.TeleOpens'. -/
def teleOpensCard : Claim7 := { stood := { row := teleOpensRow, standIns := [], harness := (true, "d3a20df0f633aa5bf2237627385056bed649831572df84b6fe0197169ba903ff"), looks := true }, kinds := [], alts := [], laidByText := true, laidKinds := [.data], laidTests := true, laidLooks := .later }
def TeleOpensCardSaid : Prop := Claim7.holds Tryd.pinned (.plain (OpenSpec.ofChange teleOpensSpec)) teleOpensCard

/-- THE SECOND FORM's CARD OF 'spandrellaw04.TeleOpens'. -/
def teleOpensUptoCard : Claim7 := { stood := { row := teleOpensUptoRow, standIns := [], harness := (true, "d3a20df0f633aa5bf2237627385056bed649831572df84b6fe0197169ba903ff"), looks := true }, kinds := [], alts := [], laidByText := true, laidKinds := [.data], laidTests := true, laidLooks := .later }
def TeleOpensUptoCardSaid : Prop := Claim7.holds Tryd.pinned (.plain (OpenSpec.upto teleOpensSpec)) teleOpensUptoCard
end Rows
end Go.Proofs.YtaoglkkdhdfioaaDoor
