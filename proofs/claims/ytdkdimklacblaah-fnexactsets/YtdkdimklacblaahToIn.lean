/- Copies of a program and of an expression, their cells named. -/
import Derived.Test.YtdkdimklacblaahEqT
namespace Go.Proofs.Ytdkdimklacblaah
open Go.ChangeShapes Go.WideShapes Go.ChangeAt Go.RowKit
/-- A copy of a program, its cells named. -/
theorem toProgram_in (p : Pr) (w : World) (B : Nat) (v : Array Value) (h : PrIs w B v p) (hs : p.sz ≤ 1048576) (W : World) (bel : Below w.heap.size w W) :
    Calls Try.prog 10 #[.agg v] W fun en w' => ∃ a c ab cb, en = .returned (.agg #[.slice a p.sizes.length c, .int .i64 p.params, .int .i64 p.vars, .slice ab p.body.length cb]) ∧ PrIs w' W.heap.size #[.slice a p.sizes.length c, .int .i64 p.params, .int .i64 p.vars, .slice ab p.body.length cb] p ∧ Below W.heap.size W w' :=
  (toProgram_any p W B v (h.stays bel) hs).mono fun en w' ⟨v', he, hp, hb⟩ => by
    have h1 := hp
    obtain ⟨a, c, ab, cb, rfl, _, _⟩ := h1
    exact ⟨a, c, ab, cb, he, hp, hb⟩
theorem toExp_in {k n b : Int} {t : ByteArray} {kids : List Ex} (w : World) (B : Nat) (v : Array Value) (h : ExIs w B v (.mk k n b t kids)) (hs : (Ex.mk k n b t kids).sz ≤ 1048576) (W : World) (bel : Below w.heap.size w W) :
    Calls Try.prog 15 #[.agg v] W fun en w' => ∃ a c, en = .returned (.agg #[.int .i64 k, .int .i64 n, .int .i64 b, .string t, .slice a kids.length c]) ∧ ExIs w' W.heap.size #[.int .i64 k, .int .i64 n, .int .i64 b, .string t, .slice a kids.length c] (.mk k n b t kids) ∧ Below W.heap.size W w' :=
  (toExp_any (.mk k n b t kids) W B v (h.stays bel) hs).mono fun en w' ⟨v', he, hp, hb⟩ => by
    obtain ⟨a, c, rfl, _, _⟩ := hp.out
    exact ⟨a, c, he, hp, hb⟩
end Go.Proofs.Ytdkdimklacblaah
