/- The contracts of l01Has and l01In: whether a text is one of some, whether a number lies between two. -/
import Derived.Test.YtheholgdfmipbaaDoorRows
import Derived.Test.YtheholgdfmipbaaDoorPlain
import Derived.WalkKit
import Derived.ProofKit
import Derived.OpenShut
import Derived.ShutString
import Derived.WalkSpells
import Derived.WalkLawsBesides
import Derived.Below
namespace Go.Proofs.YtheholgdfmipbaaDoor
open Go.ChangeShapes Go.WideShapes Go.ChangeAt Go.RowKit

theorem lit_cells (w : World) (ss : List ByteArray) (cs : Array Value) (t : TypeId) (hcs : cs = (ss.map Value.string).toArray) (i : Nat) (h : i < ss.length) : (w.alloc (.cells cs t)).cell? ⟨w.heap.size, i, none⟩ = some (.string ss[i]) := by
  subst hcs
  rw [World.cell?_alloc_new]
  simp [h]

theorem lit_cells2 (w : World) (ss : List ByteArray) (cs : Array Value) (t : TypeId) (n : Nat) (hn : n = w.heap.size) (hcs : cs = (ss.map Value.string).toArray) (i : Nat) (h : i < ss.length) : (w.alloc (.cells cs t)).cell? ⟨n, i, none⟩ = some (.string ss[i]) := by
  subst hn; exact lit_cells w ss cs t hcs i h

theorem l01In_any (x a b : Int) (w : World) :
    Calls Tryd.prog 34 #[.int .i64 x, .int .i64 a, .int .i64 b] w fun e w' => e = .returned (.bool (inB x a b)) ∧ w' = w := by
  go_enter Tryd.func34, Tryd.ntmps34
  go_wp2
  all_goals go_ret
  all_goals exact ⟨ret_bool (by simp [inB]; omega), rfl⟩
end Go.Proofs.YtheholgdfmipbaaDoor
