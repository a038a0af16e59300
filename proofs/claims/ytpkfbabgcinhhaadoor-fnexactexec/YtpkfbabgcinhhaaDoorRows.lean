/-
  NARROWER THAN 'FOR EVERY INPUT', by the rows' own cells (each row's printed sentence says how): FnExactExec: ifaces, laid · FnExactCost: ifaces, laid.
  DERIVED. THE GIVEN ROWS OF THIS SEAT. 2 by the template 'for every input the law returns true; each argument reads behind the call as it read before'; 0 by the template 'total and deterministic' (their statements: YtpkfbabgcinhhaaDoorTotals.lean).
  GIVEN WITH THE SEED: the statements are not yours to turn. If you find one false, say at which input.
  Laid BY PROGRAM, IN A SANDBOX (cutbox-rows.mjs): the forced cells as the released guide's own fill.sh prints them over the translation 3eba77930882bfa5… (all of the seat's roots in one cut). By AI agents, Wed Nov 11 2026. No macro, syntax, notation, axiom, sorry.
-/
import Derived.Test.YtpkfbabgcinhhaaDoorChecked
import GoSem.Claim
import GoSem.ClaimJoined
import GoSem.ClaimMapViews
import Derived.JoinedTies
import Derived.KernelRfl
namespace Go.Proofs.YtpkfbabgcinhhaaDoor
/- THE CELL 'sum', in the pinned program and in every row, IS THE sha256 OF THE DUMP (.gsa) THAT YtpkfbabgcinhhaaDoorProg.lean LOADS. Nothing in Lean hashes anything: it is a label: what it is worth is what the hold of that sum in a sandbox is worth. -/
noncomputable def Tryd.pinned : Pinned := { name := "ytpkfbabgcinhhaadoor", sum := "3eba77930882bfa5f6a3d55adda428ec04cc19937aa9c57cc4a83f9727a29daf", checked := Tryd.checked }
namespace Rows
def none {H : Type} : Left H := { results := [], args := [] }

/- WHAT THE LISTED PACKAGE-LEVEL VARIABLES READ AS WHEN THE CALL BEGINS. Each datum BY PROGRAM (the guide's laid-datum.mjs) off the statement by which the dump's own 'gosem.cut.vars' lays the variable. In a bare row this is a premise. The card (YtpkfbabgcinhhaaDoorCards.lean) ties it to the program's text. -/
def laid_errors_errorType {H : Type} : DataW H := .iface "internal/reflectlite.rtype" (.agg [.ptr (.lit (.string [101, 114, 114, 111, 114]))])
def laid_loop_example_g00385_impl_aluSigns {H : Type} : DataW H := .agg [.lit (.string [43]), .lit (.string [45]), .lit (.string [42]), .lit (.string [38]), .lit (.string [61, 61]), .lit (.string [60])]
def laid_loop_example_g00385_impl_errNoImage {H : Type} : DataW H := .iface "*errors.errorString" (.ptr (.agg [.lit (.string [116, 104, 101, 114, 101, 32, 105, 115, 32, 110, 111, 32, 115, 117, 99, 104, 32, 105, 109, 97, 103, 101])]))

/-- 'laws.FnExactExec': WHATEVER THE INPUT: true; the input reads as it did. -/
def fnExactExecSpec : ChangeSpec := { name := "fnExactExec", vars := ["loop.example/g00385/impl.errNoImage", "loop.example/g00385/impl.aluSigns"], fn := fun _ => fun
  | [d1, d2, d3, d4, g1, g2] => { results := [.lit (.bool true)], args := [d1, d2, d3, d4], vars := [g1, g2] }
  | _ => none }
def fnExactExecRow : OpenClaim := { program := "ytpkfbabgcinhhaadoor", sum := "3eba77930882bfa5f6a3d55adda428ec04cc19937aa9c57cc4a83f9727a29daf", func := "loop.example/g00385/laws.FnExactExec", spec := "fnExactExec", inPlace := ["internal/reflectlite.TypeOf", "internal/reflectlite.ValueOf", "(internal/reflectlite.Value).Type", "(internal/reflectlite.Value).IsNil", "(internal/reflectlite.Value).Elem", "(internal/reflectlite.Value).Set"], unfollowed := true, recurses := true, named := ["loop.example/g00385/impl.errNoImage", "loop.example/g00385/impl.aluSigns", "errors.errorType"], ifaces := true, apart := false, laid := [("errors.errorType", laid_errors_errorType), ("loop.example/g00385/impl.aluSigns", laid_loop_example_g00385_impl_aluSigns), ("loop.example/g00385/impl.errNoImage", laid_loop_example_g00385_impl_errNoImage)] }
def FnExactExecSaid : Prop := fnExactExecRow.holds Tryd.pinned (OpenSpec.ofChange fnExactExecSpec)

/-- ITS FALSE NEIGHBOUR: 'it returns false'. Refute it at one input. -/
def fnExactExecWrong : ChangeSpec := { name := "fnExactExec", vars := ["loop.example/g00385/impl.errNoImage", "loop.example/g00385/impl.aluSigns"], fn := fun _ => fun
  | [d1, d2, d3, d4, g1, g2] => { results := [.lit (.bool false)], args := [d1, d2, d3, d4], vars := [g1, g2] }
  | _ => none }
def FnExactExecWrongFalsely : Prop := fnExactExecRow.holds Tryd.pinned (OpenSpec.ofChange fnExactExecWrong)

/-- 'laws.FnExactCost': WHATEVER THE INPUT: true; the input reads as it did. -/
def fnExactCostSpec : ChangeSpec := { name := "fnExactCost", vars := ["loop.example/g00385/impl.errNoImage", "loop.example/g00385/impl.aluSigns"], fn := fun _ => fun
  | [d1, d2, d3, g1, g2] => { results := [.lit (.bool true)], args := [d1, d2, d3], vars := [g1, g2] }
  | _ => none }
def fnExactCostRow : OpenClaim := { program := "ytpkfbabgcinhhaadoor", sum := "3eba77930882bfa5f6a3d55adda428ec04cc19937aa9c57cc4a83f9727a29daf", func := "loop.example/g00385/laws.FnExactCost", spec := "fnExactCost", inPlace := ["internal/reflectlite.TypeOf", "internal/reflectlite.ValueOf", "(internal/reflectlite.Value).Type", "(internal/reflectlite.Value).IsNil", "(internal/reflectlite.Value).Elem", "(internal/reflectlite.Value).Set"], unfollowed := true, recurses := true, named := ["loop.example/g00385/impl.errNoImage", "loop.example/g00385/impl.aluSigns", "errors.errorType"], ifaces := true, apart := false, laid := [("errors.errorType", laid_errors_errorType), ("loop.example/g00385/impl.aluSigns", laid_loop_example_g00385_impl_aluSigns), ("loop.example/g00385/impl.errNoImage", laid_loop_example_g00385_impl_errNoImage)] }
def FnExactCostSaid : Prop := fnExactCostRow.holds Tryd.pinned (OpenSpec.ofChange fnExactCostSpec)

/-- ITS FALSE NEIGHBOUR: 'it returns false'. Refute it at one input. -/
def fnExactCostWrong : ChangeSpec := { name := "fnExactCost", vars := ["loop.example/g00385/impl.errNoImage", "loop.example/g00385/impl.aluSigns"], fn := fun _ => fun
  | [d1, d2, d3, g1, g2] => { results := [.lit (.bool false)], args := [d1, d2, d3], vars := [g1, g2] }
  | _ => none }
def FnExactCostWrongFalsely : Prop := fnExactCostRow.holds Tryd.pinned (OpenSpec.ofChange fnExactCostWrong)

/- THE SECOND FORM. 'bulk': how many values and letters a reading holds, each counted each time it is reached (what is shared counts as often as it is met; a slice's spare places count too). A statement '..UptoSaid' is the law's where the arguments, and the package variables that the reading takes, are together of bulk at most 1048576: NARROWER than '..Said'. Prove '..Said' where nothing that the law and all that it calls make is longer than what came in: it says more and counts as full. Else prove '..UptoSaid'. A law counts once. -/
mutual
def uptoBulk {H : Type} : DataW H → Nat
  | .lit (.string bytes) => bytes.length + 1
  | .lit _ => 1
  | .nil => 1
  | .ptr d => uptoBulk d + 1
  | .slice elems spare => uptoBulkAll elems + uptoBulkAll spare + 1
  | .agg parts => uptoBulkAll parts + 1
  | .iface _ d => uptoBulk d + 1
  | .map entries => uptoBulkEntries entries + 1
  | .held _ => 1
def uptoBulkAll {H : Type} : List (DataW H) → Nat
  | [] => 0
  | d :: r => uptoBulk d + uptoBulkAll r
def uptoBulkEntries {H : Type} : List (Lit × DataW H) → Nat
  | [] => 0
  | x :: r => uptoBulkEntry x + uptoBulkEntries r
def uptoBulkEntry {H : Type} : Lit × DataW H → Nat
  | (.string bytes, d) => bytes.length + uptoBulk d + 1
  | (_, d) => uptoBulk d + 1
 end
def uptoSmall : (H : Type) → List (DataW H) → Bool := fun _ ds => decide (uptoBulkAll ds ≤ 1048576)
def OpenSpec.upto (s : _root_.Go.ChangeSpec) : _root_.Go.OpenSpec := { _root_.Go.OpenSpec.ofChange s with cond := some uptoSmall }

/-- 'laws.FnExactExec', WHERE WHAT IT READS IS OF BULK AT MOST 1048576: true; the input reads as it did. -/
def fnExactExecUptoRow : OpenClaim := { program := "ytpkfbabgcinhhaadoor", sum := "3eba77930882bfa5f6a3d55adda428ec04cc19937aa9c57cc4a83f9727a29daf", func := "loop.example/g00385/laws.FnExactExec", spec := "fnExactExec", inPlace := ["internal/reflectlite.TypeOf", "internal/reflectlite.ValueOf", "(internal/reflectlite.Value).Type", "(internal/reflectlite.Value).IsNil", "(internal/reflectlite.Value).Elem", "(internal/reflectlite.Value).Set"], unfollowed := true, recurses := true, named := ["loop.example/g00385/impl.errNoImage", "loop.example/g00385/impl.aluSigns", "errors.errorType"], ifaces := true, apart := false, laid := [("errors.errorType", laid_errors_errorType), ("loop.example/g00385/impl.aluSigns", laid_loop_example_g00385_impl_aluSigns), ("loop.example/g00385/impl.errNoImage", laid_loop_example_g00385_impl_errNoImage)], narrowed := true }
def FnExactExecUptoSaid : Prop := fnExactExecUptoRow.holds Tryd.pinned (OpenSpec.upto fnExactExecSpec)

/-- 'laws.FnExactCost', WHERE WHAT IT READS IS OF BULK AT MOST 1048576: true; the input reads as it did. -/
def fnExactCostUptoRow : OpenClaim := { program := "ytpkfbabgcinhhaadoor", sum := "3eba77930882bfa5f6a3d55adda428ec04cc19937aa9c57cc4a83f9727a29daf", func := "loop.example/g00385/laws.FnExactCost", spec := "fnExactCost", inPlace := ["internal/reflectlite.TypeOf", "internal/reflectlite.ValueOf", "(internal/reflectlite.Value).Type", "(internal/reflectlite.Value).IsNil", "(internal/reflectlite.Value).Elem", "(internal/reflectlite.Value).Set"], unfollowed := true, recurses := true, named := ["loop.example/g00385/impl.errNoImage", "loop.example/g00385/impl.aluSigns", "errors.errorType"], ifaces := true, apart := false, laid := [("errors.errorType", laid_errors_errorType), ("loop.example/g00385/impl.aluSigns", laid_loop_example_g00385_impl_aluSigns), ("loop.example/g00385/impl.errNoImage", laid_loop_example_g00385_impl_errNoImage)], narrowed := true }
def FnExactCostUptoSaid : Prop := fnExactCostUptoRow.holds Tryd.pinned (OpenSpec.upto fnExactCostSpec)

end Rows
end Go.Proofs.YtpkfbabgcinhhaaDoor
