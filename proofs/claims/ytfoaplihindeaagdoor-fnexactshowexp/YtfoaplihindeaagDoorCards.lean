/-
  DERIVED. GIVEN WITH THE SEED: THE CARDS: each row of YtfoaplihindeaagDoorRows.lean that lists a variable, with what it lists TIED to the program's text (the seventh form; the later family's looks); each row that meets fmt, with fmt's text TOLD by the authors' own Lean function (tested against real Go, not proved from fmt's source: count such statements apart). THE CARD IS WHAT COUNTS. Prove the row's statement (the work); the ties are given (YtfoaplihindeaagDoorTie.lean); close each card by the builder's one call (the guide's Derived/Test/ToyasCard.lean, 'card_holds'). Laid BY PROGRAM, IN A SANDBOX (cutbox-door.mjs). By AI agents, Wed Nov 11 2026. No macro, syntax, notation, axiom, sorry.
-/
import Derived.Test.YtfoaplihindeaagDoorRows
import GoSem.ClaimSeven
namespace Go.Proofs.YtfoaplihindeaagDoor
namespace Rows

/-- THE TIED CARD OF 'laws.FnExactShowProgram'. -/
def fnExactShowProgramCard : Claim7 := { stood := { row := fnExactShowProgramRow, standIns := [], harness := (true, "4f782c7b555767287ce5078190494e23a7600b00f4f0ecd61d9d21600b7a6a27"), looks := false }, kinds := [], alts := [], laidByText := true, laidKinds := [.data, .data, .data], laidTests := true, laidLooks := .later }
def FnExactShowProgramCardSaid : Prop := Claim7.holds Tryd.pinned (.plain (OpenSpec.ofChange fnExactShowProgramSpec)) fnExactShowProgramCard

/-- THE TIED CARD OF 'laws.FnExactShowExp'. -/
def fnExactShowExpCard : Claim7 := { stood := { row := fnExactShowExpRow, standIns := [], harness := (true, "4f782c7b555767287ce5078190494e23a7600b00f4f0ecd61d9d21600b7a6a27"), looks := false }, kinds := [], alts := [], laidByText := true, laidKinds := [.data, .data, .data], laidTests := true, laidLooks := .later }
def FnExactShowExpCardSaid : Prop := Claim7.holds Tryd.pinned (.plain (OpenSpec.ofChange fnExactShowExpSpec)) fnExactShowExpCard

/-- THE SECOND FORM's CARD OF 'laws.FnExactShowProgram'. -/
def fnExactShowProgramUptoCard : Claim7 := { stood := { row := fnExactShowProgramUptoRow, standIns := [], harness := (true, "4f782c7b555767287ce5078190494e23a7600b00f4f0ecd61d9d21600b7a6a27"), looks := false }, kinds := [], alts := [], laidByText := true, laidKinds := [.data, .data, .data], laidTests := true, laidLooks := .later }
def FnExactShowProgramUptoCardSaid : Prop := Claim7.holds Tryd.pinned (.plain (OpenSpec.upto fnExactShowProgramSpec)) fnExactShowProgramUptoCard

/-- THE SECOND FORM's CARD OF 'laws.FnExactShowExp'. -/
def fnExactShowExpUptoCard : Claim7 := { stood := { row := fnExactShowExpUptoRow, standIns := [], harness := (true, "4f782c7b555767287ce5078190494e23a7600b00f4f0ecd61d9d21600b7a6a27"), looks := false }, kinds := [], alts := [], laidByText := true, laidKinds := [.data, .data, .data], laidTests := true, laidLooks := .later }
def FnExactShowExpUptoCardSaid : Prop := Claim7.holds Tryd.pinned (.plain (OpenSpec.upto fnExactShowExpSpec)) fnExactShowExpUptoCard
end Rows
end Go.Proofs.YtfoaplihindeaagDoor
