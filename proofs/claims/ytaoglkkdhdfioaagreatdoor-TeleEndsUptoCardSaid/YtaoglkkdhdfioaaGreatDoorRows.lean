/-
  NARROWER THAN 'FOR EVERY INPUT', by the rows' own cells (each row's printed sentence says how): TeleTells: loops, laid · TelePuts: loops, laid · TeleEnds: laid.
  DERIVED. THE GIVEN ROWS OF THIS SEAT. 3 by the template 'for every input the law returns true; each argument reads behind the call as it read before'; 0 by the template 'total and deterministic' (their statements: YtaoglkkdhdfioaaGreatDoorTotals.lean).
  GIVEN WITH THE SEED: the statements are not yours to turn. If you find one false, say at which input.
  Laid BY PROGRAM, IN A SANDBOX (cutbox-rows.mjs): the forced cells as the released guide's own fill.sh prints them over the translation 35fdd5cd576a9362… (all of the seat's roots in one cut). By AI agents, Wed Nov 11 2026. No macro, syntax, notation, axiom, sorry.
-/
import Derived.Test.YtaoglkkdhdfioaaGreatDoorChecked
import GoSem.Claim
import GoSem.ClaimJoined
import GoSem.ClaimMapViews
import Derived.JoinedTies
import Derived.KernelRfl
namespace Go.Proofs.YtaoglkkdhdfioaaGreatDoor
/- THE CELL 'sum', in the pinned program and in every row, IS THE sha256 OF THE DUMP (.gsa) THAT YtaoglkkdhdfioaaGreatDoorProg.lean LOADS. Nothing in Lean hashes anything: it is a label: what it is worth is what the hold of that sum in a sandbox is worth. -/
noncomputable def Tryz.pinned : Pinned := { name := "ytaoglkkdhdfioaagreatdoor", sum := "35fdd5cd576a9362d0427a23e02ba2f560ecd9ad5a27b4090347ff6a017080ea", checked := Tryz.checked }
namespace Rows
def none {H : Type} : Left H := { results := [], args := [] }

/- WHAT THE LISTED PACKAGE-LEVEL VARIABLES READ AS WHEN THE CALL BEGINS. Each datum BY PROGRAM (the guide's laid-datum.mjs) off the statement by which the dump's own 'gosem.cut.vars' lays the variable. In a bare row this is a premise. The card (YtaoglkkdhdfioaaGreatDoorCards.lean) ties it to the program's text. -/
def laid_spandrel_term_kinds {H : Type} : DataW H := .agg [.agg [.lit (.bool false), .lit (.bool false), .lit (.int .i64 0), .lit (.int .i64 0), .lit (.int .i64 0)], .agg [.lit (.bool true), .lit (.bool false), .lit (.int .i64 0), .lit (.int .i64 0), .lit (.int .i64 0)], .agg [.lit (.bool false), .lit (.bool false), .lit (.int .i64 1), .lit (.int .i64 0), .lit (.int .i64 0)], .agg [.lit (.bool true), .lit (.bool false), .lit (.int .i64 2), .lit (.int .i64 0), .lit (.int .i64 0)], .agg [.lit (.bool false), .lit (.bool false), .lit (.int .i64 0), .lit (.int .i64 2), .lit (.int .i64 2)], .agg [.lit (.bool false), .lit (.bool false), .lit (.int .i64 0), .lit (.int .i64 2), .lit (.int .i64 2)], .agg [.lit (.bool false), .lit (.bool false), .lit (.int .i64 0), .lit (.int .i64 2), .lit (.int .i64 0)], .agg [.lit (.bool false), .lit (.bool false), .lit (.int .i64 0), .lit (.int .i64 3), .lit (.int .i64 3)], .agg [.lit (.bool true), .lit (.bool true), .lit (.int .i64 2), .lit (.int .i64 0), .lit (.int .i64 0)], .agg [.lit (.bool true), .lit (.bool true), .lit (.int .i64 2), .lit (.int .i64 0), .lit (.int .i64 0)], .agg [.lit (.bool true), .lit (.bool true), .lit (.int .i64 3), .lit (.int .i64 0), .lit (.int .i64 0)], .agg [.lit (.bool false), .lit (.bool true), .lit (.int .i64 0), .lit (.int .i64 0), .lit (.int .i64 0)], .agg [.lit (.bool false), .lit (.bool false), .lit (.int .i64 0), .lit (.int .i64 2), .lit (.int .i64 2)], .agg [.lit (.bool false), .lit (.bool false), .lit (.int .i64 0), .lit (.int .i64 2), .lit (.int .i64 0)], .agg [.lit (.bool false), .lit (.bool false), .lit (.int .i64 0), .lit (.int .i64 1), .lit (.int .i64 0)], .agg [.lit (.bool false), .lit (.bool false), .lit (.int .i64 0), .lit (.int .i64 1), .lit (.int .i64 0)], .agg [.lit (.bool false), .lit (.bool false), .lit (.int .i64 0), .lit (.int .i64 2), .lit (.int .i64 2)], .agg [.lit (.bool false), .lit (.bool false), .lit (.int .i64 0), .lit (.int .i64 2), .lit (.int .i64 0)], .agg [.lit (.bool false), .lit (.bool false), .lit (.int .i64 0), .lit (.int .i64 5), .lit (.int .i64 2)], .agg [.lit (.bool false), .lit (.bool false), .lit (.int .i64 0), .lit (.int .i64 3), .lit (.int .i64 0)], .agg [.lit (.bool false), .lit (.bool false), .lit (.int .i64 0), .lit (.int .i64 0), .lit (.int .i64 0)], .agg [.lit (.bool false), .lit (.bool false), .lit (.int .i64 0), .lit (.int .i64 6), .lit (.int .i64 0)], .agg [.lit (.bool true), .lit (.bool false), .lit (.int .i64 0), .lit (.int .i64 0), .lit (.int .i64 0)], .agg [.lit (.bool true), .lit (.bool true), .lit (.int .i64 0), .lit (.int .i64 0), .lit (.int .i64 0)], .agg [.lit (.bool false), .lit (.bool true), .lit (.int .i64 0), .lit (.int .i64 (-1)), .lit (.int .i64 0)]]

/-- 'spandrellaw04.TeleTells': WHATEVER THE INPUT: true; the input reads as it did. -/
def teleTellsSpec : ChangeSpec := { name := "teleTells", fn := fun _ => fun
  | [d1, d2, d3, d4] => { results := [.lit (.bool true)], args := [d1, d2, d3, d4] }
  | _ => none }
def teleTellsRow : OpenClaim := { program := "ytaoglkkdhdfioaagreatdoor", sum := "35fdd5cd576a9362d0427a23e02ba2f560ecd9ad5a27b4090347ff6a017080ea", func := "spandrel/spandrellaw04.TeleTells", spec := "teleTells", unfollowed := true, recurses := true, named := ["spandrel/term.kinds"], loops := true, apart := false, laid := [("spandrel/term.kinds", laid_spandrel_term_kinds)] }
def TeleTellsSaid : Prop := teleTellsRow.holds Tryz.pinned (OpenSpec.ofChange teleTellsSpec)

/-- ITS FALSE NEIGHBOUR: 'it returns false'. Refute it at one input. -/
def teleTellsWrong : ChangeSpec := { name := "teleTells", fn := fun _ => fun
  | [d1, d2, d3, d4] => { results := [.lit (.bool false)], args := [d1, d2, d3, d4] }
  | _ => none }
def TeleTellsWrongFalsely : Prop := teleTellsRow.holds Tryz.pinned (OpenSpec.ofChange teleTellsWrong)

/-- 'spandrellaw04.TelePuts': WHATEVER THE INPUT: true; the input reads as it did. -/
def telePutsSpec : ChangeSpec := { name := "telePuts", fn := fun _ => fun
  | [d1, d2, d3, d4, d5] => { results := [.lit (.bool true)], args := [d1, d2, d3, d4, d5] }
  | _ => none }
def telePutsRow : OpenClaim := { program := "ytaoglkkdhdfioaagreatdoor", sum := "35fdd5cd576a9362d0427a23e02ba2f560ecd9ad5a27b4090347ff6a017080ea", func := "spandrel/spandrellaw04.TelePuts", spec := "telePuts", unfollowed := true, recurses := true, named := ["spandrel/term.kinds"], loops := true, apart := false, laid := [("spandrel/term.kinds", laid_spandrel_term_kinds)] }
def TelePutsSaid : Prop := telePutsRow.holds Tryz.pinned (OpenSpec.ofChange telePutsSpec)

/-- ITS FALSE NEIGHBOUR: 'it returns false'. Refute it at one input. -/
def telePutsWrong : ChangeSpec := { name := "telePuts", fn := fun _ => fun
  | [d1, d2, d3, d4, d5] => { results := [.lit (.bool false)], args := [d1, d2, d3, d4, d5] }
  | _ => none }
def TelePutsWrongFalsely : Prop := telePutsRow.holds Tryz.pinned (OpenSpec.ofChange telePutsWrong)

/-- 'spandrellaw04.TeleEnds': WHATEVER THE INPUT: true; the input reads as it did. -/
def teleEndsSpec : ChangeSpec := { name := "teleEnds", fn := fun _ => fun
  | [] => { results := [.lit (.bool true)], args := [] }
  | _ => none }
def teleEndsRow : OpenClaim := { program := "ytaoglkkdhdfioaagreatdoor", sum := "35fdd5cd576a9362d0427a23e02ba2f560ecd9ad5a27b4090347ff6a017080ea", func := "spandrel/spandrellaw04.TeleEnds", spec := "teleEnds", unfollowed := true, recurses := true, named := ["spandrel/term.kinds"], apart := false, laid := [("spandrel/term.kinds", laid_spandrel_term_kinds)] }
def TeleEndsSaid : Prop := teleEndsRow.holds Tryz.pinned (OpenSpec.ofChange teleEndsSpec)

/-- ITS FALSE NEIGHBOUR: 'it returns false'. Refute it at one input. -/
def teleEndsWrong : ChangeSpec := { name := "teleEnds", fn := fun _ => fun
  | [] => { results := [.lit (.bool false)], args := [] }
  | _ => none }
def TeleEndsWrongFalsely : Prop := teleEndsRow.holds Tryz.pinned (OpenSpec.ofChange teleEndsWrong)

/- THE SECOND FORM. 'bulk': how many values and letters a reading holds, each counted each time it is reached (what is shared counts as often as it is met; a slice's spare places count too). A statement '..UptoSaid' is the law's where the arguments, and the package variables that the reading takes, are together of bulk at most 1048576: NARROWER than '..Said'. Prove '..Said' where nothing that the law and all that it calls make is longer than what came in: it says more and counts as full. Else prove '..UptoSaid'. A law counts once. -/
mutual
def uptoBulk {H : Type} : DataW H → Nat
  | .lit (.string bytes) => bytes.length + 1
  | .lit _ => 1
  | .nil => 1
  | .ptr d => uptoBulk d + 1
  | .slice elems spare => uptoBulkAll elems + uptoBulkAll spare + 1
  | .agg parts => uptoBulkAll parts + 1
  | .iface _ d => uptoBulk d + 1
  | .map entries => uptoBulkEntries entries + 1
  | .held _ => 1
def uptoBulkAll {H : Type} : List (DataW H) → Nat
  | [] => 0
  | d :: r => uptoBulk d + uptoBulkAll r
def uptoBulkEntries {H : Type} : List (Lit × DataW H) → Nat
  | [] => 0
  | x :: r => uptoBulkEntry x + uptoBulkEntries r
def uptoBulkEntry {H : Type} : Lit × DataW H → Nat
  | (.string bytes, d) => bytes.length + uptoBulk d + 1
  | (_, d) => uptoBulk d + 1
 end
def uptoSmall : (H : Type) → List (DataW H) → Bool := fun _ ds => decide (uptoBulkAll ds ≤ 1048576)
def OpenSpec.upto (s : _root_.Go.ChangeSpec) : _root_.Go.OpenSpec := { _root_.Go.OpenSpec.ofChange s with cond := some uptoSmall }

/-- 'spandrellaw04.TeleTells', WHERE WHAT IT READS IS OF BULK AT MOST 1048576: true; the input reads as it did. -/
def teleTellsUptoRow : OpenClaim := { program := "ytaoglkkdhdfioaagreatdoor", sum := "35fdd5cd576a9362d0427a23e02ba2f560ecd9ad5a27b4090347ff6a017080ea", func := "spandrel/spandrellaw04.TeleTells", spec := "teleTells", unfollowed := true, recurses := true, named := ["spandrel/term.kinds"], loops := true, apart := false, laid := [("spandrel/term.kinds", laid_spandrel_term_kinds)], narrowed := true }
def TeleTellsUptoSaid : Prop := teleTellsUptoRow.holds Tryz.pinned (OpenSpec.upto teleTellsSpec)

/-- 'spandrellaw04.TelePuts', WHERE WHAT IT READS IS OF BULK AT MOST 1048576: true; the input reads as it did. -/
def telePutsUptoRow : OpenClaim := { program := "ytaoglkkdhdfioaagreatdoor", sum := "35fdd5cd576a9362d0427a23e02ba2f560ecd9ad5a27b4090347ff6a017080ea", func := "spandrel/spandrellaw04.TelePuts", spec := "telePuts", unfollowed := true, recurses := true, named := ["spandrel/term.kinds"], loops := true, apart := false, laid := [("spandrel/term.kinds", laid_spandrel_term_kinds)], narrowed := true }
def TelePutsUptoSaid : Prop := telePutsUptoRow.holds Tryz.pinned (OpenSpec.upto telePutsSpec)

/-- 'spandrellaw04.TeleEnds', WHERE WHAT IT READS IS OF BULK AT MOST 1048576: true; the input reads as it did. -/
def teleEndsUptoRow : OpenClaim := { program := "ytaoglkkdhdfioaagreatdoor", sum := "35fdd5cd576a9362d0427a23e02ba2f560ecd9ad5a27b4090347ff6a017080ea", func := "spandrel/spandrellaw04.TeleEnds", spec := "teleEnds", unfollowed := true, recurses := true, named := ["spandrel/term.kinds"], apart := false, laid := [("spandrel/term.kinds", laid_spandrel_term_kinds)], narrowed := true }
def TeleEndsUptoSaid : Prop := teleEndsUptoRow.holds Tryz.pinned (OpenSpec.upto teleEndsSpec)

end Rows
end Go.Proofs.YtaoglkkdhdfioaaGreatDoor
