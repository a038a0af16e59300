/-
  No cell of these rows narrows 'for every input' (looked for: loops, veiled, ifaces, maps, wideKeys, modest, calm, conditions, laid).
  DERIVED. THE GIVEN ROWS OF THIS SEAT. 4 by the template 'for every input the law returns true; each argument reads behind the call as it read before'; 0 by the template 'total and deterministic' (their statements: YtljeahjcfbcbgaaTotals.lean).
  GIVEN WITH THE SEED: the statements are not yours to turn. If you find one false, say at which input.
  Laid BY PROGRAM, IN A SANDBOX (cutbox-rows.mjs): the forced cells as the released guide's own fill.sh prints them over the translation 16c368a443f10df8… (all of the seat's roots in one cut). By AI agents, Wed Nov 11 2026. No macro, syntax, notation, axiom, sorry.
-/
import Derived.Test.YtljeahjcfbcbgaaChecked
import GoSem.Claim
import GoSem.ClaimJoined
import GoSem.ClaimMapViews
import Derived.JoinedTies
import Derived.KernelRfl
namespace Go.Proofs.Ytljeahjcfbcbgaa
/- THE CELL 'sum', in the pinned program and in every row, IS THE sha256 OF THE DUMP (.gsa) THAT YtljeahjcfbcbgaaProg.lean LOADS. Nothing in Lean hashes anything: it is a label: what it is worth is what the hold of that sum in a sandbox is worth. -/
noncomputable def Try.pinned : Pinned := { name := "ytljeahjcfbcbgaa", sum := "16c368a443f10df80f3f42ec19e6131aedaef7984b65578ad98fe531c0d465cb", checked := Try.checked }
namespace Rows
def none {H : Type} : Left H := { results := [], args := [] }

/-- 'laws.FnExactTrim': WHATEVER THE INPUT: true; the input reads as it did. -/
def fnExactTrimSpec : ChangeSpec := { name := "fnExactTrim", fn := fun _ => fun
  | [d] => { results := [.lit (.bool true)], args := [d] }
  | _ => none }
def fnExactTrimRow : OpenClaim := { program := "ytljeahjcfbcbgaa", sum := "16c368a443f10df80f3f42ec19e6131aedaef7984b65578ad98fe531c0d465cb", func := "loop.example/g00385/laws.FnExactTrim", spec := "fnExactTrim", unfollowed := true, recurses := true, plainKeys := false, apart := false }
def FnExactTrimSaid : Prop := fnExactTrimRow.holds Try.pinned (OpenSpec.ofChange fnExactTrimSpec)

/-- ITS FALSE NEIGHBOUR: 'it returns false'. Refute it at one input. -/
def fnExactTrimWrong : ChangeSpec := { name := "fnExactTrim", fn := fun _ => fun
  | [d] => { results := [.lit (.bool false)], args := [d] }
  | _ => none }
def FnExactTrimWrongFalsely : Prop := fnExactTrimRow.holds Try.pinned (OpenSpec.ofChange fnExactTrimWrong)

/-- 'laws.FnExactForward': WHATEVER THE INPUT: true; the input reads as it did. -/
def fnExactForwardSpec : ChangeSpec := { name := "fnExactForward", fn := fun _ => fun
  | [d] => { results := [.lit (.bool true)], args := [d] }
  | _ => none }
def fnExactForwardRow : OpenClaim := { program := "ytljeahjcfbcbgaa", sum := "16c368a443f10df80f3f42ec19e6131aedaef7984b65578ad98fe531c0d465cb", func := "loop.example/g00385/laws.FnExactForward", spec := "fnExactForward", unfollowed := true, recurses := true, plainKeys := false, apart := false }
def FnExactForwardSaid : Prop := fnExactForwardRow.holds Try.pinned (OpenSpec.ofChange fnExactForwardSpec)

/-- ITS FALSE NEIGHBOUR: 'it returns false'. Refute it at one input. -/
def fnExactForwardWrong : ChangeSpec := { name := "fnExactForward", fn := fun _ => fun
  | [d] => { results := [.lit (.bool false)], args := [d] }
  | _ => none }
def FnExactForwardWrongFalsely : Prop := fnExactForwardRow.holds Try.pinned (OpenSpec.ofChange fnExactForwardWrong)

/-- 'laws.FnExactLoads': WHATEVER THE INPUT: true; the input reads as it did. -/
def fnExactLoadsSpec : ChangeSpec := { name := "fnExactLoads", fn := fun _ => fun
  | [d] => { results := [.lit (.bool true)], args := [d] }
  | _ => none }
def fnExactLoadsRow : OpenClaim := { program := "ytljeahjcfbcbgaa", sum := "16c368a443f10df80f3f42ec19e6131aedaef7984b65578ad98fe531c0d465cb", func := "loop.example/g00385/laws.FnExactLoads", spec := "fnExactLoads", unfollowed := true, recurses := true, plainKeys := false, apart := false }
def FnExactLoadsSaid : Prop := fnExactLoadsRow.holds Try.pinned (OpenSpec.ofChange fnExactLoadsSpec)

/-- ITS FALSE NEIGHBOUR: 'it returns false'. Refute it at one input. -/
def fnExactLoadsWrong : ChangeSpec := { name := "fnExactLoads", fn := fun _ => fun
  | [d] => { results := [.lit (.bool false)], args := [d] }
  | _ => none }
def FnExactLoadsWrongFalsely : Prop := fnExactLoadsRow.holds Try.pinned (OpenSpec.ofChange fnExactLoadsWrong)

/-- 'laws.FnExactStores': WHATEVER THE INPUT: true; the input reads as it did. -/
def fnExactStoresSpec : ChangeSpec := { name := "fnExactStores", fn := fun _ => fun
  | [d] => { results := [.lit (.bool true)], args := [d] }
  | _ => none }
def fnExactStoresRow : OpenClaim := { program := "ytljeahjcfbcbgaa", sum := "16c368a443f10df80f3f42ec19e6131aedaef7984b65578ad98fe531c0d465cb", func := "loop.example/g00385/laws.FnExactStores", spec := "fnExactStores", unfollowed := true, recurses := true, plainKeys := false, apart := false }
def FnExactStoresSaid : Prop := fnExactStoresRow.holds Try.pinned (OpenSpec.ofChange fnExactStoresSpec)

/-- ITS FALSE NEIGHBOUR: 'it returns false'. Refute it at one input. -/
def fnExactStoresWrong : ChangeSpec := { name := "fnExactStores", fn := fun _ => fun
  | [d] => { results := [.lit (.bool false)], args := [d] }
  | _ => none }
def FnExactStoresWrongFalsely : Prop := fnExactStoresRow.holds Try.pinned (OpenSpec.ofChange fnExactStoresWrong)

/- THE SECOND FORM. 'bulk': how many values and letters a reading holds, each counted each time it is reached (what is shared counts as often as it is met; a slice's spare places count too). A statement '..UptoSaid' is the law's where the arguments, and the package variables that the reading takes, are together of bulk at most 1048576: NARROWER than '..Said'. Prove '..Said' where nothing that the law and all that it calls make is longer than what came in: it says more and counts as full. Else prove '..UptoSaid'. A law counts once. -/
mutual
def uptoBulk {H : Type} : DataW H → Nat
  | .lit (.string bytes) => bytes.length + 1
  | .lit _ => 1
  | .nil => 1
  | .ptr d => uptoBulk d + 1
  | .slice elems spare => uptoBulkAll elems + uptoBulkAll spare + 1
  | .agg parts => uptoBulkAll parts + 1
  | .iface _ d => uptoBulk d + 1
  | .map entries => uptoBulkEntries entries + 1
  | .held _ => 1
def uptoBulkAll {H : Type} : List (DataW H) → Nat
  | [] => 0
  | d :: r => uptoBulk d + uptoBulkAll r
def uptoBulkEntries {H : Type} : List (Lit × DataW H) → Nat
  | [] => 0
  | x :: r => uptoBulkEntry x + uptoBulkEntries r
def uptoBulkEntry {H : Type} : Lit × DataW H → Nat
  | (.string bytes, d) => bytes.length + uptoBulk d + 1
  | (_, d) => uptoBulk d + 1
 end
def uptoSmall : (H : Type) → List (DataW H) → Bool := fun _ ds => decide (uptoBulkAll ds ≤ 1048576)
def OpenSpec.upto (s : _root_.Go.ChangeSpec) : _root_.Go.OpenSpec := { _root_.Go.OpenSpec.ofChange s with cond := some uptoSmall }

/-- 'laws.FnExactTrim', WHERE WHAT IT READS IS OF BULK AT MOST 1048576: true; the input reads as it did. -/
def fnExactTrimUptoRow : OpenClaim := { program := "ytljeahjcfbcbgaa", sum := "16c368a443f10df80f3f42ec19e6131aedaef7984b65578ad98fe531c0d465cb", func := "loop.example/g00385/laws.FnExactTrim", spec := "fnExactTrim", unfollowed := true, recurses := true, plainKeys := false, apart := false, narrowed := true }
def FnExactTrimUptoSaid : Prop := fnExactTrimUptoRow.holds Try.pinned (OpenSpec.upto fnExactTrimSpec)

/-- 'laws.FnExactForward', WHERE WHAT IT READS IS OF BULK AT MOST 1048576: true; the input reads as it did. -/
def fnExactForwardUptoRow : OpenClaim := { program := "ytljeahjcfbcbgaa", sum := "16c368a443f10df80f3f42ec19e6131aedaef7984b65578ad98fe531c0d465cb", func := "loop.example/g00385/laws.FnExactForward", spec := "fnExactForward", unfollowed := true, recurses := true, plainKeys := false, apart := false, narrowed := true }
def FnExactForwardUptoSaid : Prop := fnExactForwardUptoRow.holds Try.pinned (OpenSpec.upto fnExactForwardSpec)

/-- 'laws.FnExactLoads', WHERE WHAT IT READS IS OF BULK AT MOST 1048576: true; the input reads as it did. -/
def fnExactLoadsUptoRow : OpenClaim := { program := "ytljeahjcfbcbgaa", sum := "16c368a443f10df80f3f42ec19e6131aedaef7984b65578ad98fe531c0d465cb", func := "loop.example/g00385/laws.FnExactLoads", spec := "fnExactLoads", unfollowed := true, recurses := true, plainKeys := false, apart := false, narrowed := true }
def FnExactLoadsUptoSaid : Prop := fnExactLoadsUptoRow.holds Try.pinned (OpenSpec.upto fnExactLoadsSpec)

/-- 'laws.FnExactStores', WHERE WHAT IT READS IS OF BULK AT MOST 1048576: true; the input reads as it did. -/
def fnExactStoresUptoRow : OpenClaim := { program := "ytljeahjcfbcbgaa", sum := "16c368a443f10df80f3f42ec19e6131aedaef7984b65578ad98fe531c0d465cb", func := "loop.example/g00385/laws.FnExactStores", spec := "fnExactStores", unfollowed := true, recurses := true, plainKeys := false, apart := false, narrowed := true }
def FnExactStoresUptoSaid : Prop := fnExactStoresUptoRow.holds Try.pinned (OpenSpec.upto fnExactStoresSpec)

end Rows
end Go.Proofs.Ytljeahjcfbcbgaa
