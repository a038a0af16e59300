/- Alias and AliasText, as functions; the contracts of both sides. -/
import Derived.Test.YtjmclmbepnbeoaaAliP
import Derived.WalkKit
import Derived.BigQuiet
import Derived.Test.YtjmclmbepnbeoaaShD
import Derived.Test.YtjmclmbepnbeoaaOwnA
namespace Go.Proofs.Ytjmclmbepnbeoaa
open Go.ChangeShapes Go.WideShapes Go.ChangeAt Go.RowKit
def plV (p : Pla) : Array Value := #[.int .i64 p.r, .int .i64 p.i, .int .i64 p.j, .int .i64 p.off]
def aliasP (a b : Pla) : Int := if a.r = b.r then (if a.i = b.i ∧ a.j = b.j then (if a.off = b.off then 2 else 0) else 1) else 0
end Go.Proofs.Ytjmclmbepnbeoaa

/- The slot that a step makes: the contract of impl.Makes. -/
namespace Go.Proofs.Ytjmclmbepnbeoaa
open Go.ChangeShapes Go.WideShapes Go.ChangeAt Go.RowKit
def makesP (x : Ins) : Int := if x.op = 4 ∨ x.op = 6 then -1 else x.d
theorem impl_makes (x : Ins) (w : World) (B : Nat) (v : Array Value) (h : InsIs w B v x) :
    Calls Try.prog 94 #[.agg v] w fun en w' => en = .returned (.int .i64 (makesP x)) ∧ Below w.heap.size w w' := by
  obtain ⟨op, d, a, b, c, n, t⟩ := x
  obtain ⟨rfl, _⟩ := h
  go_enter Try.func94, Try.ntmps94
  go_wp2
  all_goals go_ret
  all_goals exact ⟨ret_int (by (try simp only [beq_iff_eq, beq_eq_false_iff_ne, ne_eq] at *); unfold makesP; split <;> simp_all), (Below.refl _ _).alloc (Nat.le_refl _) _⟩
end Go.Proofs.Ytjmclmbepnbeoaa

/- Lists of places that a call owns. -/
namespace Go.Proofs.Ytjmclmbepnbeoaa
open Go.ChangeShapes Go.WideShapes Go.ChangeAt Go.RowKit
end Go.Proofs.Ytjmclmbepnbeoaa

/- The cells of a place in a list that a call owns. -/
namespace Go.Proofs.Ytjmclmbepnbeoaa
open Go.ChangeShapes Go.WideShapes Go.ChangeAt Go.RowKit
end Go.Proofs.Ytjmclmbepnbeoaa
