/-
  DERIVED. GIVEN WITH THE SEED: THE CARDS: each row of YtdkdimklacblaajDoorRows.lean that lists a variable, with what it lists TIED to the program's text (the seventh form; the later family's looks); each row that meets fmt, with fmt's text TOLD by the authors' own Lean function (tested against real Go, not proved from fmt's source: count such statements apart). THE CARD IS WHAT COUNTS. Prove the row's statement (the work); the ties are given (YtdkdimklacblaajDoorTie.lean); close each card by the builder's one call (the guide's Derived/Test/ToyasCard.lean, 'card_holds'). Laid BY PROGRAM, IN A SANDBOX (cutbox-door.mjs). By AI agents, Wed Nov 11 2026. No macro, syntax, notation, axiom, sorry.
-/
import Derived.Test.YtdkdimklacblaajDoorRows
import GoSem.ClaimSeven
namespace Go.Proofs.YtdkdimklacblaajDoor
namespace Rows

/-- THE TIED CARD OF 'laws.FnExactShowGraph'. -/
def fnExactShowGraphCard : Claim7 := { stood := { row := fnExactShowGraphRow, standIns := [], harness := (true, "6315c00af259bc9b85993064f8cd5543c88e7c52983eedb4105bf037d3161eb3"), looks := false }, kinds := [], alts := [], laidByText := true, laidKinds := [.data, .data, .data], laidTests := true, laidLooks := .later }
def FnExactShowGraphCardSaid : Prop := Claim7.holds Tryd.pinned (.plain (OpenSpec.ofChange fnExactShowGraphSpec)) fnExactShowGraphCard

/-- THE SECOND FORM's CARD OF 'laws.FnExactShowGraph'. -/
def fnExactShowGraphUptoCard : Claim7 := { stood := { row := fnExactShowGraphUptoRow, standIns := [], harness := (true, "6315c00af259bc9b85993064f8cd5543c88e7c52983eedb4105bf037d3161eb3"), looks := false }, kinds := [], alts := [], laidByText := true, laidKinds := [.data, .data, .data], laidTests := true, laidLooks := .later }
def FnExactShowGraphUptoCardSaid : Prop := Claim7.holds Tryd.pinned (.plain (OpenSpec.upto fnExactShowGraphSpec)) fnExactShowGraphUptoCard
end Rows
end Go.Proofs.YtdkdimklacblaajDoor
