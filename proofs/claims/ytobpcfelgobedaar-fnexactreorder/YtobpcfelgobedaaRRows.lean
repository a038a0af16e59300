/-
  No cell of these rows narrows 'for every input' (looked for: loops, veiled, ifaces, maps, wideKeys, modest, calm, conditions, laid).
  DERIVED. THE GIVEN ROWS OF THIS SEAT. 4 by the template 'for every input the law returns true; each argument reads behind the call as it read before'; 0 by the template 'total and deterministic' (their statements: YtobpcfelgobedaaRTotals.lean).
  GIVEN WITH THE SEED: the statements are not yours to turn. If you find one false, say at which input.
  Laid BY PROGRAM, IN A SANDBOX (cutbox-rows.mjs): the forced cells as the released guide's own fill.sh prints them over the translation 8126024bf8b95a47… (all of the seat's roots in one cut). By AI agents, Wed Nov 11 2026. No macro, syntax, notation, axiom, sorry.
-/
import Derived.Test.YtobpcfelgobedaaRChecked
import GoSem.Claim
import GoSem.ClaimJoined
import GoSem.ClaimMapViews
import Derived.JoinedTies
import Derived.KernelRfl
namespace Go.Proofs.YtobpcfelgobedaaR
/- THE CELL 'sum', in the pinned program and in every row, IS THE sha256 OF THE DUMP (.gsa) THAT YtobpcfelgobedaaRProg.lean LOADS. Nothing in Lean hashes anything: it is a label: what it is worth is what the hold of that sum in a sandbox is worth. -/
noncomputable def Try.pinned : Pinned := { name := "ytobpcfelgobedaar", sum := "8126024bf8b95a4723c2206573cdbe19482f15517355989e0a0fbc138b6163a9", checked := Try.checked }
namespace Rows
def none {H : Type} : Left H := { results := [], args := [] }

/-- 'laws.FnExactOrderOk': WHATEVER THE INPUT: true; the input reads as it did. -/
def fnExactOrderOkSpec : ChangeSpec := { name := "fnExactOrderOk", fn := fun _ => fun
  | [d1, d2] => { results := [.lit (.bool true)], args := [d1, d2] }
  | _ => none }
def fnExactOrderOkRow : OpenClaim := { program := "ytobpcfelgobedaar", sum := "8126024bf8b95a4723c2206573cdbe19482f15517355989e0a0fbc138b6163a9", func := "loop.example/g00385/laws.FnExactOrderOk", spec := "fnExactOrderOk", unfollowed := true, recurses := true, apart := false }
def FnExactOrderOkSaid : Prop := fnExactOrderOkRow.holds Try.pinned (OpenSpec.ofChange fnExactOrderOkSpec)

/-- ITS FALSE NEIGHBOUR: 'it returns false'. Refute it at one input. -/
def fnExactOrderOkWrong : ChangeSpec := { name := "fnExactOrderOk", fn := fun _ => fun
  | [d1, d2] => { results := [.lit (.bool false)], args := [d1, d2] }
  | _ => none }
def FnExactOrderOkWrongFalsely : Prop := fnExactOrderOkRow.holds Try.pinned (OpenSpec.ofChange fnExactOrderOkWrong)

/-- 'laws.FnExactReorder': WHATEVER THE INPUT: true; the input reads as it did. -/
def fnExactReorderSpec : ChangeSpec := { name := "fnExactReorder", fn := fun _ => fun
  | [d1, d2] => { results := [.lit (.bool true)], args := [d1, d2] }
  | _ => none }
def fnExactReorderRow : OpenClaim := { program := "ytobpcfelgobedaar", sum := "8126024bf8b95a4723c2206573cdbe19482f15517355989e0a0fbc138b6163a9", func := "loop.example/g00385/laws.FnExactReorder", spec := "fnExactReorder", unfollowed := true, recurses := true, apart := false }
def FnExactReorderSaid : Prop := fnExactReorderRow.holds Try.pinned (OpenSpec.ofChange fnExactReorderSpec)

/-- ITS FALSE NEIGHBOUR: 'it returns false'. Refute it at one input. -/
def fnExactReorderWrong : ChangeSpec := { name := "fnExactReorder", fn := fun _ => fun
  | [d1, d2] => { results := [.lit (.bool false)], args := [d1, d2] }
  | _ => none }
def FnExactReorderWrongFalsely : Prop := fnExactReorderRow.holds Try.pinned (OpenSpec.ofChange fnExactReorderWrong)

/-- 'laws.FnExactChain': WHATEVER THE INPUT: true; the input reads as it did. -/
def fnExactChainSpec : ChangeSpec := { name := "fnExactChain", fn := fun _ => fun
  | [d1, d2] => { results := [.lit (.bool true)], args := [d1, d2] }
  | _ => none }
def fnExactChainRow : OpenClaim := { program := "ytobpcfelgobedaar", sum := "8126024bf8b95a4723c2206573cdbe19482f15517355989e0a0fbc138b6163a9", func := "loop.example/g00385/laws.FnExactChain", spec := "fnExactChain", unfollowed := true, recurses := true, apart := false }
def FnExactChainSaid : Prop := fnExactChainRow.holds Try.pinned (OpenSpec.ofChange fnExactChainSpec)

/-- ITS FALSE NEIGHBOUR: 'it returns false'. Refute it at one input. -/
def fnExactChainWrong : ChangeSpec := { name := "fnExactChain", fn := fun _ => fun
  | [d1, d2] => { results := [.lit (.bool false)], args := [d1, d2] }
  | _ => none }
def FnExactChainWrongFalsely : Prop := fnExactChainRow.holds Try.pinned (OpenSpec.ofChange fnExactChainWrong)

/-- 'laws.FnExactFalls': WHATEVER THE INPUT: true; the input reads as it did. -/
def fnExactFallsSpec : ChangeSpec := { name := "fnExactFalls", fn := fun _ => fun
  | [d] => { results := [.lit (.bool true)], args := [d] }
  | _ => none }
def fnExactFallsRow : OpenClaim := { program := "ytobpcfelgobedaar", sum := "8126024bf8b95a4723c2206573cdbe19482f15517355989e0a0fbc138b6163a9", func := "loop.example/g00385/laws.FnExactFalls", spec := "fnExactFalls", unfollowed := true, recurses := true, apart := false }
def FnExactFallsSaid : Prop := fnExactFallsRow.holds Try.pinned (OpenSpec.ofChange fnExactFallsSpec)

/-- ITS FALSE NEIGHBOUR: 'it returns false'. Refute it at one input. -/
def fnExactFallsWrong : ChangeSpec := { name := "fnExactFalls", fn := fun _ => fun
  | [d] => { results := [.lit (.bool false)], args := [d] }
  | _ => none }
def FnExactFallsWrongFalsely : Prop := fnExactFallsRow.holds Try.pinned (OpenSpec.ofChange fnExactFallsWrong)

/- THE SECOND FORM. 'bulk': how many values and letters a reading holds, each counted each time it is reached (what is shared counts as often as it is met; a slice's spare places count too). A statement '..UptoSaid' is the law's where the arguments, and the package variables that the reading takes, are together of bulk at most 1048576: NARROWER than '..Said'. Prove '..Said' where nothing that the law and all that it calls make is longer than what came in: it says more and counts as full. Else prove '..UptoSaid'. A law counts once. -/
mutual
def uptoBulk {H : Type} : DataW H → Nat
  | .lit (.string bytes) => bytes.length + 1
  | .lit _ => 1
  | .nil => 1
  | .ptr d => uptoBulk d + 1
  | .slice elems spare => uptoBulkAll elems + uptoBulkAll spare + 1
  | .agg parts => uptoBulkAll parts + 1
  | .iface _ d => uptoBulk d + 1
  | .map entries => uptoBulkEntries entries + 1
  | .held _ => 1
def uptoBulkAll {H : Type} : List (DataW H) → Nat
  | [] => 0
  | d :: r => uptoBulk d + uptoBulkAll r
def uptoBulkEntries {H : Type} : List (Lit × DataW H) → Nat
  | [] => 0
  | x :: r => uptoBulkEntry x + uptoBulkEntries r
def uptoBulkEntry {H : Type} : Lit × DataW H → Nat
  | (.string bytes, d) => bytes.length + uptoBulk d + 1
  | (_, d) => uptoBulk d + 1
 end
def uptoSmall : (H : Type) → List (DataW H) → Bool := fun _ ds => decide (uptoBulkAll ds ≤ 1048576)
def OpenSpec.upto (s : _root_.Go.ChangeSpec) : _root_.Go.OpenSpec := { _root_.Go.OpenSpec.ofChange s with cond := some uptoSmall }

/-- 'laws.FnExactOrderOk', WHERE WHAT IT READS IS OF BULK AT MOST 1048576: true; the input reads as it did. -/
def fnExactOrderOkUptoRow : OpenClaim := { program := "ytobpcfelgobedaar", sum := "8126024bf8b95a4723c2206573cdbe19482f15517355989e0a0fbc138b6163a9", func := "loop.example/g00385/laws.FnExactOrderOk", spec := "fnExactOrderOk", unfollowed := true, recurses := true, apart := false, narrowed := true }
def FnExactOrderOkUptoSaid : Prop := fnExactOrderOkUptoRow.holds Try.pinned (OpenSpec.upto fnExactOrderOkSpec)

/-- 'laws.FnExactReorder', WHERE WHAT IT READS IS OF BULK AT MOST 1048576: true; the input reads as it did. -/
def fnExactReorderUptoRow : OpenClaim := { program := "ytobpcfelgobedaar", sum := "8126024bf8b95a4723c2206573cdbe19482f15517355989e0a0fbc138b6163a9", func := "loop.example/g00385/laws.FnExactReorder", spec := "fnExactReorder", unfollowed := true, recurses := true, apart := false, narrowed := true }
def FnExactReorderUptoSaid : Prop := fnExactReorderUptoRow.holds Try.pinned (OpenSpec.upto fnExactReorderSpec)

/-- 'laws.FnExactChain', WHERE WHAT IT READS IS OF BULK AT MOST 1048576: true; the input reads as it did. -/
def fnExactChainUptoRow : OpenClaim := { program := "ytobpcfelgobedaar", sum := "8126024bf8b95a4723c2206573cdbe19482f15517355989e0a0fbc138b6163a9", func := "loop.example/g00385/laws.FnExactChain", spec := "fnExactChain", unfollowed := true, recurses := true, apart := false, narrowed := true }
def FnExactChainUptoSaid : Prop := fnExactChainUptoRow.holds Try.pinned (OpenSpec.upto fnExactChainSpec)

/-- 'laws.FnExactFalls', WHERE WHAT IT READS IS OF BULK AT MOST 1048576: true; the input reads as it did. -/
def fnExactFallsUptoRow : OpenClaim := { program := "ytobpcfelgobedaar", sum := "8126024bf8b95a4723c2206573cdbe19482f15517355989e0a0fbc138b6163a9", func := "loop.example/g00385/laws.FnExactFalls", spec := "fnExactFalls", unfollowed := true, recurses := true, apart := false, narrowed := true }
def FnExactFallsUptoSaid : Prop := fnExactFallsUptoRow.holds Try.pinned (OpenSpec.upto fnExactFallsSpec)

end Rows
end Go.Proofs.YtobpcfelgobedaaR
