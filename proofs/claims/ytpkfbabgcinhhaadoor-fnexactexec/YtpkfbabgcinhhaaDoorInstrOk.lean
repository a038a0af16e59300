/- When a step is right: as a function of the step; the contracts of impl.InstrOk and spec.InstrOk. -/
import Derived.Test.YtpkfbabgcinhhaaDoorCkC
import Derived.Test.YtpkfbabgcinhhaaDoorCkB
namespace Go.Proofs.YtpkfbabgcinhhaaDoor
open Go.ChangeShapes Go.WideShapes Go.ChangeAt Go.RowKit

def theOps : List ByteArray := [wd [61, 61], wd [60], wd [38], wd [43], wd [45], wd [42]]
def opL (l : List UInt8) : Bool := l == [61, 61] || l == [60] || l == [38] || l == [43] || l == [45] || l == [42]
theorem hasB_theOps (s : ByteArray) : hasB theOps s = opL s.toList := by
  unfold theOps opL
  simp only [hasB_cons, hasB_nil, Bool.or_false, Bool.or_assoc]
def vOk (V n : Int) : Bool := decide (0 ≤ n ∧ n < V)
def plOk (R V n b : Int) : Bool := decide (0 ≤ n ∧ n < R) && (decide (b = -1) || vOk V b)
/-- Whether a step is right, of R regions and V slots. -/
def insOk (R V : Int) (x : Ins) : Bool :=
  if x.op = 0 then decide (x.a = 0) && decide (x.b = 0) && decide (x.c = 0) && (x.t.toList == []) && vOk V x.d
  else if x.op = 1 then decide (x.b = 0) && decide (x.c = 0) && decide (x.n = 0) && (x.t.toList == []) && vOk V x.d && vOk V x.a
  else if x.op = 2 then decide (x.c = 0) && decide (x.n = 0) && vOk V x.d && vOk V x.a && vOk V x.b && opL x.t.toList
  else if x.op = 3 then decide (x.c = 0) && (x.t.toList == []) && vOk V x.d && vOk V x.b && plOk R V x.n x.a
  else if x.op = 4 then decide (x.d = 0) && (x.t.toList == []) && vOk V x.b && vOk V x.c && plOk R V x.n x.a
  else if x.op = 5 then decide (x.a = 0) && decide (x.b = 0) && decide (x.c = 0) && decide (x.n = 0) && (x.t.toList == []) && vOk V x.d
  else if x.op = 6 then decide (x.d = 0) && decide (x.b = 0) && decide (x.c = 0) && decide (x.n = 0) && (x.t.toList == []) && vOk V x.a
  else false

end Go.Proofs.YtpkfbabgcinhhaaDoor
