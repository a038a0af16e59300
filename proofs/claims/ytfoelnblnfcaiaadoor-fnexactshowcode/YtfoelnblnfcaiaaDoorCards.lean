/-
  DERIVED. GIVEN WITH THE SEED: THE CARDS: each row of YtfoelnblnfcaiaaDoorRows.lean that lists a variable, with what it lists TIED to the program's text (the seventh form; the later family's looks); each row that meets fmt, with fmt's text TOLD by the authors' own Lean function (tested against real Go, not proved from fmt's source: count such statements apart). THE CARD IS WHAT COUNTS. Prove the row's statement (the work); the ties are given (YtfoelnblnfcaiaaDoorTie.lean); close each card by the builder's one call (the guide's Derived/Test/ToyasCard.lean, 'card_holds'). Laid BY PROGRAM, IN A SANDBOX (cutbox-door.mjs). By AI agents, Wed Nov 11 2026. No macro, syntax, notation, axiom, sorry.
-/
import Derived.Test.YtfoelnblnfcaiaaDoorRows
import GoSem.ClaimSeven
namespace Go.Proofs.YtfoelnblnfcaiaaDoor
namespace Rows

/-- THE TIED CARD OF 'laws.FnExactShowCode'. -/
def fnExactShowCodeCard : Claim7 := { stood := { row := fnExactShowCodeRow, standIns := [], harness := (true, "11fb444c5f8dc1da715ca042228b7a10b68202ee6cd5f0fe22865e0d6bc3d43b"), looks := false }, kinds := [], alts := [], laidByText := true, laidKinds := [.data, .data, .data, .data], laidTests := true, laidLooks := .later }
def FnExactShowCodeCardSaid : Prop := Claim7.holds Tryd.pinned (.plain (OpenSpec.ofChange fnExactShowCodeSpec)) fnExactShowCodeCard

/-- THE SECOND FORM's CARD OF 'laws.FnExactShowCode'. -/
def fnExactShowCodeUptoCard : Claim7 := { stood := { row := fnExactShowCodeUptoRow, standIns := [], harness := (true, "11fb444c5f8dc1da715ca042228b7a10b68202ee6cd5f0fe22865e0d6bc3d43b"), looks := false }, kinds := [], alts := [], laidByText := true, laidKinds := [.data, .data, .data, .data], laidTests := true, laidLooks := .later }
def FnExactShowCodeUptoCardSaid : Prop := Claim7.holds Tryd.pinned (.plain (OpenSpec.upto fnExactShowCodeSpec)) fnExactShowCodeUptoCard
end Rows
end Go.Proofs.YtfoelnblnfcaiaaDoor
