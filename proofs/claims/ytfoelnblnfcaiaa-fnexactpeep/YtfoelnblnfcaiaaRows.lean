/-
  No cell of these rows narrows 'for every input' (looked for: loops, veiled, ifaces, maps, wideKeys, modest, calm, conditions, laid).
  DERIVED. THE GIVEN ROWS OF THIS SEAT. 5 by the template 'for every input the law returns true; each argument reads behind the call as it read before'; 0 by the template 'total and deterministic' (their statements: YtfoelnblnfcaiaaTotals.lean).
  GIVEN WITH THE SEED: the statements are not yours to turn. If you find one false, say at which input.
  Laid BY PROGRAM, IN A SANDBOX (cutbox-rows.mjs): the forced cells as the released guide's own fill.sh prints them over the translation 4f342dcc356773cb… (all of the seat's roots in one cut). By AI agents, Wed Nov 11 2026. No macro, syntax, notation, axiom, sorry.
-/
import Derived.Test.YtfoelnblnfcaiaaChecked
import GoSem.Claim
import GoSem.ClaimJoined
import GoSem.ClaimMapViews
import Derived.JoinedTies
import Derived.KernelRfl
namespace Go.Proofs.Ytfoelnblnfcaiaa
/- THE CELL 'sum', in the pinned program and in every row, IS THE sha256 OF THE DUMP (.gsa) THAT YtfoelnblnfcaiaaProg.lean LOADS. Nothing in Lean hashes anything: it is a label: what it is worth is what the hold of that sum in a sandbox is worth. -/
noncomputable def Try.pinned : Pinned := { name := "ytfoelnblnfcaiaa", sum := "4f342dcc356773cb791606abac9f3a65b013316c0a8cd840b0181db7a3d9dda2", checked := Try.checked }
namespace Rows
def none {H : Type} : Left H := { results := [], args := [] }

/-- 'laws.FnExactImageOk': WHATEVER THE INPUT: true; the input reads as it did. -/
def fnExactImageOkSpec : ChangeSpec := { name := "fnExactImageOk", fn := fun _ => fun
  | [d] => { results := [.lit (.bool true)], args := [d] }
  | _ => none }
def fnExactImageOkRow : OpenClaim := { program := "ytfoelnblnfcaiaa", sum := "4f342dcc356773cb791606abac9f3a65b013316c0a8cd840b0181db7a3d9dda2", func := "loop.example/g00385/laws.FnExactImageOk", spec := "fnExactImageOk", apart := false }
def FnExactImageOkSaid : Prop := fnExactImageOkRow.holds Try.pinned (OpenSpec.ofChange fnExactImageOkSpec)

/-- ITS FALSE NEIGHBOUR: 'it returns false'. Refute it at one input. -/
def fnExactImageOkWrong : ChangeSpec := { name := "fnExactImageOk", fn := fun _ => fun
  | [d] => { results := [.lit (.bool false)], args := [d] }
  | _ => none }
def FnExactImageOkWrongFalsely : Prop := fnExactImageOkRow.holds Try.pinned (OpenSpec.ofChange fnExactImageOkWrong)

/-- 'laws.FnExactPeep': WHATEVER THE INPUT: true; the input reads as it did. -/
def fnExactPeepSpec : ChangeSpec := { name := "fnExactPeep", fn := fun _ => fun
  | [d] => { results := [.lit (.bool true)], args := [d] }
  | _ => none }
def fnExactPeepRow : OpenClaim := { program := "ytfoelnblnfcaiaa", sum := "4f342dcc356773cb791606abac9f3a65b013316c0a8cd840b0181db7a3d9dda2", func := "loop.example/g00385/laws.FnExactPeep", spec := "fnExactPeep", recurses := true, apart := false }
def FnExactPeepSaid : Prop := fnExactPeepRow.holds Try.pinned (OpenSpec.ofChange fnExactPeepSpec)

/-- ITS FALSE NEIGHBOUR: 'it returns false'. Refute it at one input. -/
def fnExactPeepWrong : ChangeSpec := { name := "fnExactPeep", fn := fun _ => fun
  | [d] => { results := [.lit (.bool false)], args := [d] }
  | _ => none }
def FnExactPeepWrongFalsely : Prop := fnExactPeepRow.holds Try.pinned (OpenSpec.ofChange fnExactPeepWrong)

/-- 'laws.FnExactCountOp': WHATEVER THE INPUT: true; the input reads as it did. -/
def fnExactCountOpSpec : ChangeSpec := { name := "fnExactCountOp", fn := fun _ => fun
  | [d1, d2] => { results := [.lit (.bool true)], args := [d1, d2] }
  | _ => none }
def fnExactCountOpRow : OpenClaim := { program := "ytfoelnblnfcaiaa", sum := "4f342dcc356773cb791606abac9f3a65b013316c0a8cd840b0181db7a3d9dda2", func := "loop.example/g00385/laws.FnExactCountOp", spec := "fnExactCountOp", apart := false }
def FnExactCountOpSaid : Prop := fnExactCountOpRow.holds Try.pinned (OpenSpec.ofChange fnExactCountOpSpec)

/-- ITS FALSE NEIGHBOUR: 'it returns false'. Refute it at one input. -/
def fnExactCountOpWrong : ChangeSpec := { name := "fnExactCountOp", fn := fun _ => fun
  | [d1, d2] => { results := [.lit (.bool false)], args := [d1, d2] }
  | _ => none }
def FnExactCountOpWrongFalsely : Prop := fnExactCountOpRow.holds Try.pinned (OpenSpec.ofChange fnExactCountOpWrong)

/-- 'laws.FnExactAims': WHATEVER THE INPUT: true; the input reads as it did. -/
def fnExactAimsSpec : ChangeSpec := { name := "fnExactAims", fn := fun _ => fun
  | [d] => { results := [.lit (.bool true)], args := [d] }
  | _ => none }
def fnExactAimsRow : OpenClaim := { program := "ytfoelnblnfcaiaa", sum := "4f342dcc356773cb791606abac9f3a65b013316c0a8cd840b0181db7a3d9dda2", func := "loop.example/g00385/laws.FnExactAims", spec := "fnExactAims", recurses := true, apart := false }
def FnExactAimsSaid : Prop := fnExactAimsRow.holds Try.pinned (OpenSpec.ofChange fnExactAimsSpec)

/-- ITS FALSE NEIGHBOUR: 'it returns false'. Refute it at one input. -/
def fnExactAimsWrong : ChangeSpec := { name := "fnExactAims", fn := fun _ => fun
  | [d] => { results := [.lit (.bool false)], args := [d] }
  | _ => none }
def FnExactAimsWrongFalsely : Prop := fnExactAimsRow.holds Try.pinned (OpenSpec.ofChange fnExactAimsWrong)

/-- 'laws.FnExactDead': WHATEVER THE INPUT: true; the input reads as it did. -/
def fnExactDeadSpec : ChangeSpec := { name := "fnExactDead", fn := fun _ => fun
  | [d] => { results := [.lit (.bool true)], args := [d] }
  | _ => none }
def fnExactDeadRow : OpenClaim := { program := "ytfoelnblnfcaiaa", sum := "4f342dcc356773cb791606abac9f3a65b013316c0a8cd840b0181db7a3d9dda2", func := "loop.example/g00385/laws.FnExactDead", spec := "fnExactDead", apart := false }
def FnExactDeadSaid : Prop := fnExactDeadRow.holds Try.pinned (OpenSpec.ofChange fnExactDeadSpec)

/-- ITS FALSE NEIGHBOUR: 'it returns false'. Refute it at one input. -/
def fnExactDeadWrong : ChangeSpec := { name := "fnExactDead", fn := fun _ => fun
  | [d] => { results := [.lit (.bool false)], args := [d] }
  | _ => none }
def FnExactDeadWrongFalsely : Prop := fnExactDeadRow.holds Try.pinned (OpenSpec.ofChange fnExactDeadWrong)

/- THE SECOND FORM. 'bulk': how many values and letters a reading holds, each counted each time it is reached (what is shared counts as often as it is met; a slice's spare places count too). A statement '..UptoSaid' is the law's where the arguments, and the package variables that the reading takes, are together of bulk at most 1048576: NARROWER than '..Said'. Prove '..Said' where nothing that the law and all that it calls make is longer than what came in: it says more and counts as full. Else prove '..UptoSaid'. A law counts once. -/
mutual
def uptoBulk {H : Type} : DataW H → Nat
  | .lit (.string bytes) => bytes.length + 1
  | .lit _ => 1
  | .nil => 1
  | .ptr d => uptoBulk d + 1
  | .slice elems spare => uptoBulkAll elems + uptoBulkAll spare + 1
  | .agg parts => uptoBulkAll parts + 1
  | .iface _ d => uptoBulk d + 1
  | .map entries => uptoBulkEntries entries + 1
  | .held _ => 1
def uptoBulkAll {H : Type} : List (DataW H) → Nat
  | [] => 0
  | d :: r => uptoBulk d + uptoBulkAll r
def uptoBulkEntries {H : Type} : List (Lit × DataW H) → Nat
  | [] => 0
  | x :: r => uptoBulkEntry x + uptoBulkEntries r
def uptoBulkEntry {H : Type} : Lit × DataW H → Nat
  | (.string bytes, d) => bytes.length + uptoBulk d + 1
  | (_, d) => uptoBulk d + 1
 end
def uptoSmall : (H : Type) → List (DataW H) → Bool := fun _ ds => decide (uptoBulkAll ds ≤ 1048576)
def OpenSpec.upto (s : _root_.Go.ChangeSpec) : _root_.Go.OpenSpec := { _root_.Go.OpenSpec.ofChange s with cond := some uptoSmall }

/-- 'laws.FnExactImageOk', WHERE WHAT IT READS IS OF BULK AT MOST 1048576: true; the input reads as it did. -/
def fnExactImageOkUptoRow : OpenClaim := { program := "ytfoelnblnfcaiaa", sum := "4f342dcc356773cb791606abac9f3a65b013316c0a8cd840b0181db7a3d9dda2", func := "loop.example/g00385/laws.FnExactImageOk", spec := "fnExactImageOk", apart := false, narrowed := true }
def FnExactImageOkUptoSaid : Prop := fnExactImageOkUptoRow.holds Try.pinned (OpenSpec.upto fnExactImageOkSpec)

/-- 'laws.FnExactPeep', WHERE WHAT IT READS IS OF BULK AT MOST 1048576: true; the input reads as it did. -/
def fnExactPeepUptoRow : OpenClaim := { program := "ytfoelnblnfcaiaa", sum := "4f342dcc356773cb791606abac9f3a65b013316c0a8cd840b0181db7a3d9dda2", func := "loop.example/g00385/laws.FnExactPeep", spec := "fnExactPeep", recurses := true, apart := false, narrowed := true }
def FnExactPeepUptoSaid : Prop := fnExactPeepUptoRow.holds Try.pinned (OpenSpec.upto fnExactPeepSpec)

/-- 'laws.FnExactCountOp', WHERE WHAT IT READS IS OF BULK AT MOST 1048576: true; the input reads as it did. -/
def fnExactCountOpUptoRow : OpenClaim := { program := "ytfoelnblnfcaiaa", sum := "4f342dcc356773cb791606abac9f3a65b013316c0a8cd840b0181db7a3d9dda2", func := "loop.example/g00385/laws.FnExactCountOp", spec := "fnExactCountOp", apart := false, narrowed := true }
def FnExactCountOpUptoSaid : Prop := fnExactCountOpUptoRow.holds Try.pinned (OpenSpec.upto fnExactCountOpSpec)

/-- 'laws.FnExactAims', WHERE WHAT IT READS IS OF BULK AT MOST 1048576: true; the input reads as it did. -/
def fnExactAimsUptoRow : OpenClaim := { program := "ytfoelnblnfcaiaa", sum := "4f342dcc356773cb791606abac9f3a65b013316c0a8cd840b0181db7a3d9dda2", func := "loop.example/g00385/laws.FnExactAims", spec := "fnExactAims", recurses := true, apart := false, narrowed := true }
def FnExactAimsUptoSaid : Prop := fnExactAimsUptoRow.holds Try.pinned (OpenSpec.upto fnExactAimsSpec)

/-- 'laws.FnExactDead', WHERE WHAT IT READS IS OF BULK AT MOST 1048576: true; the input reads as it did. -/
def fnExactDeadUptoRow : OpenClaim := { program := "ytfoelnblnfcaiaa", sum := "4f342dcc356773cb791606abac9f3a65b013316c0a8cd840b0181db7a3d9dda2", func := "loop.example/g00385/laws.FnExactDead", spec := "fnExactDead", apart := false, narrowed := true }
def FnExactDeadUptoSaid : Prop := fnExactDeadUptoRow.holds Try.pinned (OpenSpec.upto fnExactDeadSpec)

end Rows
end Go.Proofs.Ytfoelnblnfcaiaa
