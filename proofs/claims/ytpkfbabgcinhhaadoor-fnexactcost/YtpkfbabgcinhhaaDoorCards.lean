/-
  DERIVED. GIVEN WITH THE SEED: THE CARDS: each row of YtpkfbabgcinhhaaDoorRows.lean that lists a variable, with what it lists TIED to the program's text (the seventh form; the later family's looks); each row that meets fmt, with fmt's text TOLD by the authors' own Lean function (tested against real Go, not proved from fmt's source: count such statements apart). THE CARD IS WHAT COUNTS. Prove the row's statement (the work); the ties are given (YtpkfbabgcinhhaaDoorTie.lean); close each card by the builder's one call (the guide's Derived/Test/ToyasCard.lean, 'card_holds'). Laid BY PROGRAM, IN A SANDBOX (cutbox-door.mjs). By AI agents, Wed Nov 11 2026. No macro, syntax, notation, axiom, sorry.
-/
import Derived.Test.YtpkfbabgcinhhaaDoorRows
import GoSem.ClaimSeven
namespace Go.Proofs.YtpkfbabgcinhhaaDoor
namespace Rows

/-- THE TIED CARD OF 'laws.FnExactExec'. -/
def fnExactExecCard : Claim7 := { stood := { row := fnExactExecRow, standIns := [], harness := (true, "2ad4912643e4e70e2db487948fe81316e94d6a22a753004ba296da6e18963ba0"), looks := true }, kinds := [], alts := [], laidByText := true, laidKinds := [.handle, .data, .sentinel], laidTests := true, laidLooks := .later }
def FnExactExecCardSaid : Prop := Claim7.holds Tryd.pinned (.plain (OpenSpec.ofChange fnExactExecSpec)) fnExactExecCard

/-- THE TIED CARD OF 'laws.FnExactCost'. -/
def fnExactCostCard : Claim7 := { stood := { row := fnExactCostRow, standIns := [], harness := (true, "2ad4912643e4e70e2db487948fe81316e94d6a22a753004ba296da6e18963ba0"), looks := true }, kinds := [], alts := [], laidByText := true, laidKinds := [.handle, .data, .sentinel], laidTests := true, laidLooks := .later }
def FnExactCostCardSaid : Prop := Claim7.holds Tryd.pinned (.plain (OpenSpec.ofChange fnExactCostSpec)) fnExactCostCard

/-- THE SECOND FORM's CARD OF 'laws.FnExactExec'. -/
def fnExactExecUptoCard : Claim7 := { stood := { row := fnExactExecUptoRow, standIns := [], harness := (true, "2ad4912643e4e70e2db487948fe81316e94d6a22a753004ba296da6e18963ba0"), looks := true }, kinds := [], alts := [], laidByText := true, laidKinds := [.handle, .data, .sentinel], laidTests := true, laidLooks := .later }
def FnExactExecUptoCardSaid : Prop := Claim7.holds Tryd.pinned (.plain (OpenSpec.upto fnExactExecSpec)) fnExactExecUptoCard

/-- THE SECOND FORM's CARD OF 'laws.FnExactCost'. -/
def fnExactCostUptoCard : Claim7 := { stood := { row := fnExactCostUptoRow, standIns := [], harness := (true, "2ad4912643e4e70e2db487948fe81316e94d6a22a753004ba296da6e18963ba0"), looks := true }, kinds := [], alts := [], laidByText := true, laidKinds := [.handle, .data, .sentinel], laidTests := true, laidLooks := .later }
def FnExactCostUptoCardSaid : Prop := Claim7.holds Tryd.pinned (.plain (OpenSpec.upto fnExactCostSpec)) fnExactCostUptoCard
end Rows
end Go.Proofs.YtpkfbabgcinhhaaDoor
