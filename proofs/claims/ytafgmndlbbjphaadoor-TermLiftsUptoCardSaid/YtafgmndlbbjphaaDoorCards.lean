/-
  DERIVED. GIVEN WITH THE SEED: THE CARDS: each row of YtafgmndlbbjphaaDoorRows.lean that lists a variable, with what it lists TIED to the program's text (the seventh form; the later family's looks); each row that meets fmt, with fmt's text TOLD by the authors' own Lean function (tested against real Go, not proved from fmt's source: count such statements apart). THE CARD IS WHAT COUNTS. Prove the row's statement (the work); the ties are given (YtafgmndlbbjphaaDoorTie.lean); close each card by the builder's one call (the guide's Derived/Test/ToyasCard.lean, 'card_holds'). Laid BY PROGRAM, IN A SANDBOX (cutbox-door.mjs). By AI agents, Wed Nov 11 2026. No macro, syntax, notation, axiom, sorry.
-/
import Derived.Test.YtafgmndlbbjphaaDoorRows
import GoSem.ClaimSeven
namespace Go.Proofs.YtafgmndlbbjphaaDoor
namespace Rows

/-- THE TIED CARD OF 'spandrellaw02.TermMeets'. -/
def termMeetsCard : Claim7 := { stood := { row := termMeetsRow, standIns := [], harness := (true, "c1b994d91584c7886022f0ee2e1cc58099e04116c2e8253ccb6b074cce993638"), looks := false }, kinds := [], alts := [], laidByText := true, laidKinds := [.data], laidTests := true, laidLooks := .later }
def TermMeetsCardSaid : Prop := Claim7.holds Tryd.pinned (.plain (OpenSpec.ofChange termMeetsSpec)) termMeetsCard

/-- THE TIED CARD OF 'spandrellaw02.TermLifts'. -/
def termLiftsCard : Claim7 := { stood := { row := termLiftsRow, standIns := [], harness := (true, "c1b994d91584c7886022f0ee2e1cc58099e04116c2e8253ccb6b074cce993638"), looks := false }, kinds := [], alts := [], laidByText := true, laidKinds := [.data], laidTests := true, laidLooks := .later }
def TermLiftsCardSaid : Prop := Claim7.holds Tryd.pinned (.plain (OpenSpec.ofChange termLiftsSpec)) termLiftsCard

/-- THE SECOND FORM's CARD OF 'spandrellaw02.TermMeets'. -/
def termMeetsUptoCard : Claim7 := { stood := { row := termMeetsUptoRow, standIns := [], harness := (true, "c1b994d91584c7886022f0ee2e1cc58099e04116c2e8253ccb6b074cce993638"), looks := false }, kinds := [], alts := [], laidByText := true, laidKinds := [.data], laidTests := true, laidLooks := .later }
def TermMeetsUptoCardSaid : Prop := Claim7.holds Tryd.pinned (.plain (OpenSpec.upto termMeetsSpec)) termMeetsUptoCard

/-- THE SECOND FORM's CARD OF 'spandrellaw02.TermLifts'. -/
def termLiftsUptoCard : Claim7 := { stood := { row := termLiftsUptoRow, standIns := [], harness := (true, "c1b994d91584c7886022f0ee2e1cc58099e04116c2e8253ccb6b074cce993638"), looks := false }, kinds := [], alts := [], laidByText := true, laidKinds := [.data], laidTests := true, laidLooks := .later }
def TermLiftsUptoCardSaid : Prop := Claim7.holds Tryd.pinned (.plain (OpenSpec.upto termLiftsSpec)) termLiftsUptoCard
end Rows
end Go.Proofs.YtafgmndlbbjphaaDoor
