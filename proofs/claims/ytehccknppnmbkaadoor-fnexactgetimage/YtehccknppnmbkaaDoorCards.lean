/-
  DERIVED. GIVEN WITH THE SEED: THE CARDS: each row of YtehccknppnmbkaaDoorRows.lean that lists a variable, with what it lists TIED to the program's text (the seventh form; the later family's looks); each row that meets fmt, with fmt's text TOLD by the authors' own Lean function (tested against real Go, not proved from fmt's source: count such statements apart). THE CARD IS WHAT COUNTS. Prove the row's statement (the work); the ties are given (YtehccknppnmbkaaDoorTie.lean); close each card by the builder's one call (the guide's Derived/Test/ToyasCard.lean, 'card_holds'). Laid BY PROGRAM, IN A SANDBOX (cutbox-door.mjs). By AI agents, Wed Nov 11 2026. No macro, syntax, notation, axiom, sorry.
-/
import Derived.Test.YtehccknppnmbkaaDoorRows
import GoSem.ClaimSeven
namespace Go.Proofs.YtehccknppnmbkaaDoor
namespace Rows

/-- THE TIED CARD OF 'laws.FnExactExec'. -/
def fnExactExecCard : Claim7 := { stood := { row := fnExactExecRow, standIns := [], harness := (true, "1db8ff7aeb2e0114cf85df0aad562d194ebed2a096a731e67beab7c768cdc833"), looks := true }, kinds := [], alts := [], laidByText := true, laidKinds := [.handle, .data, .sentinel], laidTests := true, laidLooks := .later }
def FnExactExecCardSaid : Prop := Claim7.holds Tryd.pinned (.plain (OpenSpec.ofChange fnExactExecSpec)) fnExactExecCard

/-- THE TIED CARD OF 'laws.FnExactCost'. -/
def fnExactCostCard : Claim7 := { stood := { row := fnExactCostRow, standIns := [], harness := (true, "1db8ff7aeb2e0114cf85df0aad562d194ebed2a096a731e67beab7c768cdc833"), looks := true }, kinds := [], alts := [], laidByText := true, laidKinds := [.handle, .data, .sentinel], laidTests := true, laidLooks := .later }
def FnExactCostCardSaid : Prop := Claim7.holds Tryd.pinned (.plain (OpenSpec.ofChange fnExactCostSpec)) fnExactCostCard

/-- THE TIED CARD OF 'laws.FnExactGetImage'. -/
def fnExactGetImageCard : Claim7 := { stood := { row := fnExactGetImageRow, standIns := [], harness := (true, "1db8ff7aeb2e0114cf85df0aad562d194ebed2a096a731e67beab7c768cdc833"), looks := true }, kinds := [], alts := [], laidByText := true, laidKinds := [.sentinel], laidTests := true, laidLooks := .later }
def FnExactGetImageCardSaid : Prop := Claim7.holds Tryd.pinned (.plain (OpenSpec.ofChange fnExactGetImageSpec)) fnExactGetImageCard

/-- THE SECOND FORM's CARD OF 'laws.FnExactExec'. -/
def fnExactExecUptoCard : Claim7 := { stood := { row := fnExactExecUptoRow, standIns := [], harness := (true, "1db8ff7aeb2e0114cf85df0aad562d194ebed2a096a731e67beab7c768cdc833"), looks := true }, kinds := [], alts := [], laidByText := true, laidKinds := [.handle, .data, .sentinel], laidTests := true, laidLooks := .later }
def FnExactExecUptoCardSaid : Prop := Claim7.holds Tryd.pinned (.plain (OpenSpec.upto fnExactExecSpec)) fnExactExecUptoCard

/-- THE SECOND FORM's CARD OF 'laws.FnExactCost'. -/
def fnExactCostUptoCard : Claim7 := { stood := { row := fnExactCostUptoRow, standIns := [], harness := (true, "1db8ff7aeb2e0114cf85df0aad562d194ebed2a096a731e67beab7c768cdc833"), looks := true }, kinds := [], alts := [], laidByText := true, laidKinds := [.handle, .data, .sentinel], laidTests := true, laidLooks := .later }
def FnExactCostUptoCardSaid : Prop := Claim7.holds Tryd.pinned (.plain (OpenSpec.upto fnExactCostSpec)) fnExactCostUptoCard

/-- THE SECOND FORM's CARD OF 'laws.FnExactGetImage'. -/
def fnExactGetImageUptoCard : Claim7 := { stood := { row := fnExactGetImageUptoRow, standIns := [], harness := (true, "1db8ff7aeb2e0114cf85df0aad562d194ebed2a096a731e67beab7c768cdc833"), looks := true }, kinds := [], alts := [], laidByText := true, laidKinds := [.sentinel], laidTests := true, laidLooks := .later }
def FnExactGetImageUptoCardSaid : Prop := Claim7.holds Tryd.pinned (.plain (OpenSpec.upto fnExactGetImageSpec)) fnExactGetImageUptoCard
end Rows
end Go.Proofs.YtehccknppnmbkaaDoor
