/-
  DERIVED. GIVEN WITH THE SEED: THE CARDS: each row of YtheholgdfmipbaaDoorRows.lean that lists a variable, with what it lists TIED to the program's text (the seventh form; the later family's looks); each row that meets fmt, with fmt's text TOLD by the authors' own Lean function (tested against real Go, not proved from fmt's source: count such statements apart). THE CARD IS WHAT COUNTS. Prove the row's statement (the work); the ties are given (YtheholgdfmipbaaDoorTie.lean); close each card by the builder's one call (the guide's Derived/Test/ToyasCard.lean, 'card_holds'). Laid BY PROGRAM, IN A SANDBOX (cutbox-door.mjs). By AI agents, Wed Nov 11 2026. No macro, syntax, notation, axiom, sorry.
-/
import Derived.Test.YtheholgdfmipbaaDoorRows
import GoSem.ClaimSeven
namespace Go.Proofs.YtheholgdfmipbaaDoor
namespace Rows

/-- THE TIED CARD OF 'laws.FnExactReadInt'. -/
def fnExactReadIntCard : Claim7 := { stood := { row := fnExactReadIntRow, standIns := [], harness := (true, "a69ea39b8712e196493a8b04f13be1337acfbea1bc748ba9dc907db45592ab75"), looks := true }, kinds := [], alts := [], laidByText := true, laidKinds := [.data, .data, .data, .sentinel, .sentinel], laidTests := true, laidLooks := .later }
def FnExactReadIntCardSaid : Prop := Claim7.holds Tryd.pinned (.plain (OpenSpec.ofChange fnExactReadIntSpec)) fnExactReadIntCard

/-- THE TIED CARD OF 'laws.FnExactAsm'. -/
def fnExactAsmCard : Claim7 := { stood := { row := fnExactAsmRow, standIns := [], harness := (true, "a69ea39b8712e196493a8b04f13be1337acfbea1bc748ba9dc907db45592ab75"), looks := true }, kinds := [], alts := [], laidByText := true, laidKinds := [.data, .data, .data, .data, .data, .data, .pinned], laidTests := true, laidLooks := .later }
def FnExactAsmCardSaid : Prop := Claim7.holds Tryd.pinned (.plain (OpenSpec.ofChange fnExactAsmSpec)) fnExactAsmCard

/-- THE TIED CARD OF 'laws.FnExactAsmWord'. -/
def fnExactAsmWordCard : Claim7 := { stood := { row := fnExactAsmWordRow, standIns := [], harness := (true, "a69ea39b8712e196493a8b04f13be1337acfbea1bc748ba9dc907db45592ab75"), looks := true }, kinds := [], alts := [], laidByText := true, laidKinds := [.data, .data, .data, .data, .data, .data, .pinned], laidTests := true, laidLooks := .later }
def FnExactAsmWordCardSaid : Prop := Claim7.holds Tryd.pinned (.plain (OpenSpec.ofChange fnExactAsmWordSpec)) fnExactAsmWordCard

/-- THE TIED CARD OF 'laws.FnExactReadNum'. -/
def fnExactReadNumCard : Claim7 := { stood := { row := fnExactReadNumRow, standIns := [], harness := (true, "a69ea39b8712e196493a8b04f13be1337acfbea1bc748ba9dc907db45592ab75"), looks := true }, kinds := [], alts := [], laidByText := true, laidKinds := [.data, .data, .data, .sentinel, .sentinel], laidTests := true, laidLooks := .later }
def FnExactReadNumCardSaid : Prop := Claim7.holds Tryd.pinned (.plain (OpenSpec.ofChange fnExactReadNumSpec)) fnExactReadNumCard

/-- THE SECOND FORM's CARD OF 'laws.FnExactReadInt'. -/
def fnExactReadIntUptoCard : Claim7 := { stood := { row := fnExactReadIntUptoRow, standIns := [], harness := (true, "a69ea39b8712e196493a8b04f13be1337acfbea1bc748ba9dc907db45592ab75"), looks := true }, kinds := [], alts := [], laidByText := true, laidKinds := [.data, .data, .data, .sentinel, .sentinel], laidTests := true, laidLooks := .later }
def FnExactReadIntUptoCardSaid : Prop := Claim7.holds Tryd.pinned (.plain (OpenSpec.upto fnExactReadIntSpec)) fnExactReadIntUptoCard

/-- THE SECOND FORM's CARD OF 'laws.FnExactAsm'. -/
def fnExactAsmUptoCard : Claim7 := { stood := { row := fnExactAsmUptoRow, standIns := [], harness := (true, "a69ea39b8712e196493a8b04f13be1337acfbea1bc748ba9dc907db45592ab75"), looks := true }, kinds := [], alts := [], laidByText := true, laidKinds := [.data, .data, .data, .data, .data, .data, .pinned], laidTests := true, laidLooks := .later }
def FnExactAsmUptoCardSaid : Prop := Claim7.holds Tryd.pinned (.plain (OpenSpec.upto fnExactAsmSpec)) fnExactAsmUptoCard

/-- THE SECOND FORM's CARD OF 'laws.FnExactAsmWord'. -/
def fnExactAsmWordUptoCard : Claim7 := { stood := { row := fnExactAsmWordUptoRow, standIns := [], harness := (true, "a69ea39b8712e196493a8b04f13be1337acfbea1bc748ba9dc907db45592ab75"), looks := true }, kinds := [], alts := [], laidByText := true, laidKinds := [.data, .data, .data, .data, .data, .data, .pinned], laidTests := true, laidLooks := .later }
def FnExactAsmWordUptoCardSaid : Prop := Claim7.holds Tryd.pinned (.plain (OpenSpec.upto fnExactAsmWordSpec)) fnExactAsmWordUptoCard

/-- THE SECOND FORM's CARD OF 'laws.FnExactReadNum'. -/
def fnExactReadNumUptoCard : Claim7 := { stood := { row := fnExactReadNumUptoRow, standIns := [], harness := (true, "a69ea39b8712e196493a8b04f13be1337acfbea1bc748ba9dc907db45592ab75"), looks := true }, kinds := [], alts := [], laidByText := true, laidKinds := [.data, .data, .data, .sentinel, .sentinel], laidTests := true, laidLooks := .later }
def FnExactReadNumUptoCardSaid : Prop := Claim7.holds Tryd.pinned (.plain (OpenSpec.upto fnExactReadNumSpec)) fnExactReadNumUptoCard
end Rows
end Go.Proofs.YtheholgdfmipbaaDoor
