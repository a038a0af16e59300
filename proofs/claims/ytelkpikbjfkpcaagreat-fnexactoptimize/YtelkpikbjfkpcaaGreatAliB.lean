/- Alias and AliasText, as functions; the contracts of both sides. -/
import Derived.Test.YtelkpikbjfkpcaaGreatInsA
import Derived.WalkKit
import Derived.BigQuiet
import Derived.Test.YtelkpikbjfkpcaaGreatShD
import Derived.Test.YtelkpikbjfkpcaaGreatOwnA
namespace Go.Proofs.YtelkpikbjfkpcaaGreat
open Go.ChangeShapes Go.WideShapes Go.ChangeAt Go.RowKit
def plV (p : Pla) : Array Value := #[.int .i64 p.r, .int .i64 p.i, .int .i64 p.j, .int .i64 p.off]
def aliasP (a b : Pla) : Int := if a.r = b.r then (if a.i = b.i ∧ a.j = b.j then (if a.off = b.off then 2 else 0) else 1) else 0
set_option maxHeartbeats 1000000 in
theorem implAlias_any (a b : Pla) (w : World) :
    Calls Tryz.prog 144 #[.agg (plV a), .agg (plV b)] w fun e w' => e = .returned (.int .i64 (aliasP a b)) ∧ Below w.heap.size w w' := by
  obtain ⟨r, i, j, o⟩ := a
  obtain ⟨r', i', j', o'⟩ := b
  simp only [plV]
  go_enter Tryz.func144, Tryz.ntmps144
  go_wp2
  all_goals go_ret
  all_goals refine ⟨ret_int ?_, by first | exact below2 w _ _ | exact (below2 w _ _).drew⟩
  all_goals simp_all [aliasP]
set_option maxHeartbeats 1000000 in
theorem specAlias_any (a b : Pla) (w : World) :
    Calls Tryz.prog 122 #[.agg (plV a), .agg (plV b)] w fun e w' => e = .returned (.int .i64 (aliasP a b)) ∧ Below w.heap.size w w' := by
  obtain ⟨r, i, j, o⟩ := a
  obtain ⟨r', i', j', o'⟩ := b
  simp only [plV]
  go_enter Tryz.func122, Tryz.ntmps122
  go_wp2
  all_goals go_ret
  all_goals refine ⟨ret_int ?_, by first | exact below2 w _ _ | exact (below2 w _ _).drew⟩
  all_goals simp_all [aliasP]
end Go.Proofs.YtelkpikbjfkpcaaGreat

/- The slot that a step makes: the contract of impl.Makes. -/
namespace Go.Proofs.YtelkpikbjfkpcaaGreat
open Go.ChangeShapes Go.WideShapes Go.ChangeAt Go.RowKit
def makesP (x : Ins) : Int := if x.op = 4 ∨ x.op = 6 then -1 else x.d
theorem impl_makes (x : Ins) (w : World) (B : Nat) (v : Array Value) (h : InsIs w B v x) :
    Calls Tryz.prog 106 #[.agg v] w fun en w' => en = .returned (.int .i64 (makesP x)) ∧ Below w.heap.size w w' := by
  obtain ⟨op, d, a, b, c, n, t⟩ := x
  obtain ⟨rfl, _⟩ := h
  go_enter Tryz.func106, Tryz.ntmps106
  go_wp2
  all_goals go_ret
  all_goals exact ⟨ret_int (by (try simp only [beq_iff_eq, beq_eq_false_iff_ne, ne_eq] at *); unfold makesP; split <;> simp_all), (Below.refl _ _).alloc (Nat.le_refl _) _⟩
end Go.Proofs.YtelkpikbjfkpcaaGreat

/- Lists of places that a call owns. -/
namespace Go.Proofs.YtelkpikbjfkpcaaGreat
open Go.ChangeShapes Go.WideShapes Go.ChangeAt Go.RowKit
def PlE : Elem Pla := { T := 92, ST := 59, sz := 4, bys := 32, z := .agg #[.int .i64 0, .int .i64 0, .int .i64 0, .int .i64 0], cs := fun p => [.int .i64 p.r, .int .i64 p.i, .int .i64 p.j, .int .i64 p.off] }
theorem PlOk : PlE.Ok where
  und := Tryz.underlying59
  info := by kernel_rfl
  zs := rfl
  pos := by decide
  few := by decide
  len := fun _ => rfl
  one := fun x u hu => by simp [PlE] at hu; rcases hu with rfl | rfl | rfl | rfl <;> rfl
end Go.Proofs.YtelkpikbjfkpcaaGreat

/- The cells of a place in a list that a call owns. -/
namespace Go.Proofs.YtelkpikbjfkpcaaGreat
open Go.ChangeShapes Go.WideShapes Go.ChangeAt Go.RowKit
theorem pla_at {w : World} {B g n cap : Nat} {l : List Pla} (h : OwnE PlE w B (.slice (some ⟨g, 0, none⟩) n cap) l) (j : Nat) (hj : j < l.length) :
    w.cell? ⟨g, j * 4, none⟩ = some (.int .i64 l[j].r) ∧ w.cell? ⟨g, j * 4 + 1, none⟩ = some (.int .i64 l[j].i) ∧ w.cell? ⟨g, j * 4 + 2, none⟩ = some (.int .i64 l[j].j) ∧ w.cell? ⟨g, j * 4 + 3, none⟩ = some (.int .i64 l[j].off) := by
  have h0 := h.at PlOk j hj 0 (by decide)
  have h1 := h.at PlOk j hj 1 (by decide)
  have h2 := h.at PlOk j hj 2 (by decide)
  have h3 := h.at PlOk j hj 3 (by decide)
  simp [PlE] at h0 h1 h2 h3
  exact ⟨h0, h1, h2, h3⟩
end Go.Proofs.YtelkpikbjfkpcaaGreat
