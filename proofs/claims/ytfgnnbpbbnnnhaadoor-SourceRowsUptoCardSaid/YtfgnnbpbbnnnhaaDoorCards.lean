/-
  DERIVED. GIVEN WITH THE SEED: THE CARDS: each row of YtfgnnbpbbnnnhaaDoorRows.lean that lists a variable, with what it lists TIED to the program's text (the seventh form; the later family's looks); each row that meets fmt, with fmt's text TOLD by the authors' own Lean function (tested against real Go, not proved from fmt's source: count such statements apart). THE CARD IS WHAT COUNTS. Prove the row's statement (the work); the ties are given (YtfgnnbpbbnnnhaaDoorTie.lean); close each card by the builder's one call (the guide's Derived/Test/ToyasCard.lean, 'card_holds'). Laid BY PROGRAM, IN A SANDBOX (cutbox-door.mjs). By AI agents, Wed Nov 11 2026. No macro, syntax, notation, axiom, sorry.
-/
import Derived.Test.YtfgnnbpbbnnnhaaDoorRows
import GoSem.ClaimSeven
namespace Go.Proofs.YtfgnnbpbbnnnhaaDoor
namespace Rows

/-- THE TIED CARD OF 'spandrellaw11.SourceGrows'. -/
def sourceGrowsCard : Claim7 := { stood := { row := sourceGrowsRow, standIns := [], harness := (true, "980cf14921802b8d62d76adcf0058106332c49c28989b68301102155b9929acf"), looks := true }, kinds := [], alts := [], laidByText := true, laidKinds := [.data], laidTests := true, laidLooks := .later }
def SourceGrowsCardSaid : Prop := Claim7.holds Tryd.pinned (.plain (OpenSpec.ofChange sourceGrowsSpec)) sourceGrowsCard

/-- THE TIED CARD OF 'spandrellaw11.SourceRows'. -/
def sourceRowsCard : Claim7 := { stood := { row := sourceRowsRow, standIns := [], harness := (true, "980cf14921802b8d62d76adcf0058106332c49c28989b68301102155b9929acf"), looks := true }, kinds := [], alts := [], laidByText := true, laidKinds := [.data], laidTests := true, laidLooks := .later }
def SourceRowsCardSaid : Prop := Claim7.holds Tryd.pinned (.plain (OpenSpec.ofChange sourceRowsSpec)) sourceRowsCard

/-- THE TIED CARD OF 'spandrellaw21.CarryKeeps'. -/
def carryKeepsCard : Claim7 := { stood := { row := carryKeepsRow, standIns := [], harness := (true, "980cf14921802b8d62d76adcf0058106332c49c28989b68301102155b9929acf"), looks := true }, kinds := [], alts := [], laidByText := true, laidKinds := [.data], laidTests := true, laidLooks := .later }
def CarryKeepsCardSaid : Prop := Claim7.holds Tryd.pinned (.plain (OpenSpec.ofChange carryKeepsSpec)) carryKeepsCard

/-- THE TIED CARD OF 'spandrellaw21.CarryApart'. -/
def carryApartCard : Claim7 := { stood := { row := carryApartRow, standIns := [], harness := (true, "980cf14921802b8d62d76adcf0058106332c49c28989b68301102155b9929acf"), looks := true }, kinds := [], alts := [], laidByText := true, laidKinds := [.data], laidTests := true, laidLooks := .later }
def CarryApartCardSaid : Prop := Claim7.holds Tryd.pinned (.plain (OpenSpec.ofChange carryApartSpec)) carryApartCard

/-- THE SECOND FORM's CARD OF 'spandrellaw11.SourceGrows'. -/
def sourceGrowsUptoCard : Claim7 := { stood := { row := sourceGrowsUptoRow, standIns := [], harness := (true, "980cf14921802b8d62d76adcf0058106332c49c28989b68301102155b9929acf"), looks := true }, kinds := [], alts := [], laidByText := true, laidKinds := [.data], laidTests := true, laidLooks := .later }
def SourceGrowsUptoCardSaid : Prop := Claim7.holds Tryd.pinned (.plain (OpenSpec.upto sourceGrowsSpec)) sourceGrowsUptoCard

/-- THE SECOND FORM's CARD OF 'spandrellaw11.SourceRows'. -/
def sourceRowsUptoCard : Claim7 := { stood := { row := sourceRowsUptoRow, standIns := [], harness := (true, "980cf14921802b8d62d76adcf0058106332c49c28989b68301102155b9929acf"), looks := true }, kinds := [], alts := [], laidByText := true, laidKinds := [.data], laidTests := true, laidLooks := .later }
def SourceRowsUptoCardSaid : Prop := Claim7.holds Tryd.pinned (.plain (OpenSpec.upto sourceRowsSpec)) sourceRowsUptoCard

/-- THE SECOND FORM's CARD OF 'spandrellaw21.CarryKeeps'. -/
def carryKeepsUptoCard : Claim7 := { stood := { row := carryKeepsUptoRow, standIns := [], harness := (true, "980cf14921802b8d62d76adcf0058106332c49c28989b68301102155b9929acf"), looks := true }, kinds := [], alts := [], laidByText := true, laidKinds := [.data], laidTests := true, laidLooks := .later }
def CarryKeepsUptoCardSaid : Prop := Claim7.holds Tryd.pinned (.plain (OpenSpec.upto carryKeepsSpec)) carryKeepsUptoCard

/-- THE SECOND FORM's CARD OF 'spandrellaw21.CarryApart'. -/
def carryApartUptoCard : Claim7 := { stood := { row := carryApartUptoRow, standIns := [], harness := (true, "980cf14921802b8d62d76adcf0058106332c49c28989b68301102155b9929acf"), looks := true }, kinds := [], alts := [], laidByText := true, laidKinds := [.data], laidTests := true, laidLooks := .later }
def CarryApartUptoCardSaid : Prop := Claim7.holds Tryd.pinned (.plain (OpenSpec.upto carryApartSpec)) carryApartUptoCard
end Rows
end Go.Proofs.YtfgnnbpbbnnnhaaDoor
