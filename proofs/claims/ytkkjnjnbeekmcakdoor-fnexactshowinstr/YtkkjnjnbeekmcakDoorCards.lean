/-
  DERIVED. GIVEN WITH THE SEED: THE CARDS: each row of YtkkjnjnbeekmcakDoorRows.lean that lists a variable, with what it lists TIED to the program's text (the seventh form; the later family's looks); each row that meets fmt, with fmt's text TOLD by the authors' own Lean function (tested against real Go, not proved from fmt's source: count such statements apart). THE CARD IS WHAT COUNTS. Prove the row's statement (the work); the ties are given (YtkkjnjnbeekmcakDoorTie.lean); close each card by the builder's one call (the guide's Derived/Test/ToyasCard.lean, 'card_holds'). Laid BY PROGRAM, IN A SANDBOX (cutbox-door.mjs). By AI agents, Wed Nov 11 2026. No macro, syntax, notation, axiom, sorry.
-/
import Derived.Test.YtkkjnjnbeekmcakDoorRows
import GoSem.ClaimSeven
namespace Go.Proofs.YtkkjnjnbeekmcakDoor
namespace Rows

/-- THE TIED CARD OF 'laws.FnExactShowInstr'. -/
def fnExactShowInstrCard : Claim7 := { stood := { row := fnExactShowInstrRow, standIns := [], harness := (true, "7ebcad376646dbebc72aba715109b1275410e8ceb5e9b01799260d6a1f085719"), looks := false }, kinds := [], alts := [], laidByText := true, laidKinds := [.data, .data, .data], laidTests := true, laidLooks := .later }
def FnExactShowInstrCardSaid : Prop := Claim7.holds Tryd.pinned (.plain (OpenSpec.ofChange fnExactShowInstrSpec)) fnExactShowInstrCard

/-- THE SECOND FORM's CARD OF 'laws.FnExactShowInstr'. -/
def fnExactShowInstrUptoCard : Claim7 := { stood := { row := fnExactShowInstrUptoRow, standIns := [], harness := (true, "7ebcad376646dbebc72aba715109b1275410e8ceb5e9b01799260d6a1f085719"), looks := false }, kinds := [], alts := [], laidByText := true, laidKinds := [.data, .data, .data], laidTests := true, laidLooks := .later }
def FnExactShowInstrUptoCardSaid : Prop := Claim7.holds Tryd.pinned (.plain (OpenSpec.upto fnExactShowInstrSpec)) fnExactShowInstrUptoCard
end Rows
end Go.Proofs.YtkkjnjnbeekmcakDoor
