/-
  DERIVED. GIVEN WITH THE SEED: THE CARDS: each row of YtaoglkkdhdfioaaGreatDoorRows.lean that lists a variable, with what it lists TIED to the program's text (the seventh form; the later family's looks); each row that meets fmt, with fmt's text TOLD by the authors' own Lean function (tested against real Go, not proved from fmt's source: count such statements apart). THE CARD IS WHAT COUNTS. Prove the row's statement (the work); the ties are given (YtaoglkkdhdfioaaGreatDoorTie.lean); close each card by the builder's one call (the guide's Derived/Test/ToyasCard.lean, 'card_holds'). Laid BY PROGRAM, IN A SANDBOX (cutbox-door.mjs). By AI agents, Wed Nov 11 2026. No macro, syntax, notation, axiom, sorry.
-/
import Derived.Test.YtaoglkkdhdfioaaGreatDoorRows
import GoSem.ClaimSeven
namespace Go.Proofs.YtaoglkkdhdfioaaGreatDoor
namespace Rows

/-- THE TIED CARD OF 'spandrellaw04.TeleTells'. -/
def teleTellsCard : Claim7 := { stood := { row := teleTellsRow, standIns := [], harness := (true, "7d102b49a41b838c260539ee821d95b63ec2c32f93ba0c9b1e29174e54523e33"), looks := true }, kinds := [], alts := [], laidByText := true, laidKinds := [.data], laidTests := true, laidLooks := .later }
def TeleTellsCardSaid : Prop := Claim7.holds Tryz.pinned (.plain (OpenSpec.ofChange teleTellsSpec)) teleTellsCard

/-- THE TIED CARD OF 'spandrellaw04.TelePuts'. -/
def telePutsCard : Claim7 := { stood := { row := telePutsRow, standIns := [], harness := (true, "7d102b49a41b838c260539ee821d95b63ec2c32f93ba0c9b1e29174e54523e33"), looks := true }, kinds := [], alts := [], laidByText := true, laidKinds := [.data], laidTests := true, laidLooks := .later }
def TelePutsCardSaid : Prop := Claim7.holds Tryz.pinned (.plain (OpenSpec.ofChange telePutsSpec)) telePutsCard

/-- THE TIED CARD OF 'spandrellaw04.TeleEnds'. -/
def teleEndsCard : Claim7 := { stood := { row := teleEndsRow, standIns := [], harness := (true, "7d102b49a41b838c260539ee821d95b63ec2c32f93ba0c9b1e29174e54523e33"), looks := true }, kinds := [], alts := [], laidByText := true, laidKinds := [.data], laidTests := true, laidLooks := .later }
def TeleEndsCardSaid : Prop := Claim7.holds Tryz.pinned (.plain (OpenSpec.ofChange teleEndsSpec)) teleEndsCard

/-- THE SECOND FORM's CARD OF 'spandrellaw04.TeleTells'. -/
def teleTellsUptoCard : Claim7 := { stood := { row := teleTellsUptoRow, standIns := [], harness := (true, "7d102b49a41b838c260539ee821d95b63ec2c32f93ba0c9b1e29174e54523e33"), looks := true }, kinds := [], alts := [], laidByText := true, laidKinds := [.data], laidTests := true, laidLooks := .later }
def TeleTellsUptoCardSaid : Prop := Claim7.holds Tryz.pinned (.plain (OpenSpec.upto teleTellsSpec)) teleTellsUptoCard

/-- THE SECOND FORM's CARD OF 'spandrellaw04.TelePuts'. -/
def telePutsUptoCard : Claim7 := { stood := { row := telePutsUptoRow, standIns := [], harness := (true, "7d102b49a41b838c260539ee821d95b63ec2c32f93ba0c9b1e29174e54523e33"), looks := true }, kinds := [], alts := [], laidByText := true, laidKinds := [.data], laidTests := true, laidLooks := .later }
def TelePutsUptoCardSaid : Prop := Claim7.holds Tryz.pinned (.plain (OpenSpec.upto telePutsSpec)) telePutsUptoCard

/-- THE SECOND FORM's CARD OF 'spandrellaw04.TeleEnds'. -/
def teleEndsUptoCard : Claim7 := { stood := { row := teleEndsUptoRow, standIns := [], harness := (true, "7d102b49a41b838c260539ee821d95b63ec2c32f93ba0c9b1e29174e54523e33"), looks := true }, kinds := [], alts := [], laidByText := true, laidKinds := [.data], laidTests := true, laidLooks := .later }
def TeleEndsUptoCardSaid : Prop := Claim7.holds Tryz.pinned (.plain (OpenSpec.upto teleEndsSpec)) teleEndsUptoCard
end Rows
end Go.Proofs.YtaoglkkdhdfioaaGreatDoor
