/- When an image is right, as a function; the contracts of impl.isBelow, impl.regionsOk and impl.paramsOk. -/
import Derived.Test.YtheholgdfmipbaaDoorImageD
import Derived.Test.YtheholgdfmipbaaDoorHas
import Derived.Test.YtheholgdfmipbaaDoorFrmP
import Derived.Deep.CutRange
import Derived.Deep.RegionHeld3
import Derived.Deep.LoopGhost
import Derived.Laws.StructEq
namespace Go.Proofs.YtheholgdfmipbaaDoor
open Go.ChangeShapes Go.WideShapes Go.ChangeAt Go.RowKit
/-- The number of one of so many. -/
def belI (n c : Int) : Bool := decide (0 ≤ n ∧ n < c)
/-- A word of an image with so many regions, slots and words. -/
def wrdOk (ns sl nc : Int) (x : Wrd) : Bool :=
  belI x.r 16 && belI x.a 16 && belI x.b 16 &&
  (if x.op = 0 then x.a == 0 && x.b == 0
   else if x.op = 1 ∨ x.op = 2 then (x.a == 0 && x.b == 0) && belI x.n sl
   else if x.op = 3 then belI x.n 6
   else if x.op = 4 ∨ x.op = 5 then (x.b == 0) && belI x.n ns
   else if x.op = 6 ∨ x.op = 7 ∨ x.op = 10 then (x.a == 0 && x.b == 0) && (x.n == 0)
   else if x.op = 8 then (x.r == 0 && (x.a == 0 && x.b == 0)) && belI x.n nc
   else if x.op = 9 then (x.a == 0 && x.b == 0) && belI x.n nc
   else if x.op = 11 then x.b == 0 && x.n == 0
   else false)
def lastOk (l : List Wrd) : Bool := match l.getLast? with | some x => x.op == 10 || x.op == 8 | none => false
def imgOk (m : Img) : Bool :=
  regOk m.sizes && parOk m.params m.slots && decide (m.slots ≤ 1000) && decide (1 ≤ m.code.length ∧ m.code.length ≤ 6000) &&
  m.code.all (wrdOk (m.sizes.length : Nat) m.slots (m.code.length : Nat)) && lastOk m.code
theorem isBelow_any (n c : Int) (w : World) :
    Calls Tryd.prog 35 #[.int .i64 n, .int .i64 c] w fun e w' => e = .returned (.bool (belI n c)) ∧ w' = w := by
  go_enter Tryd.func35, Tryd.ntmps35
  go_wp2
  all_goals go_ret
  all_goals exact ⟨ret_bool (by simp [belI]; omega), rfl⟩
end Go.Proofs.YtheholgdfmipbaaDoor
