/- The contract of spec.InstrOk. -/
import Derived.Test.YtkkjnjnbeekmcakDoorInstrOkS0
import Derived.Test.YtkkjnjnbeekmcakDoorInstrOkS1
import Derived.Test.YtkkjnjnbeekmcakDoorInstrOkS2
import Derived.Test.YtkkjnjnbeekmcakDoorInstrOkS3
import Derived.Test.YtkkjnjnbeekmcakDoorInstrOkS4
namespace Go.Proofs.YtkkjnjnbeekmcakDoor
open Go.ChangeShapes Go.WideShapes Go.ChangeAt Go.RowKit
set_option maxHeartbeats 1000000 in
theorem spec_instrOk (g : Gr) (x : Ins) (w : World) (B1 B2 : Nat) (v1 v2 : Array Value) (h1 : GrIs w B1 v1 g) (h2 : InsIs w B2 v2 x) :
    Calls Tryd.prog 13 #[.agg v1, .agg v2] w fun en w' => en = .returned (.bool (insOk (g.sizes.length : Nat) g.slots x)) ∧ Below w.heap.size w w' := by
  obtain ⟨sizes, params, vars, V, blocks⟩ := g
  obtain ⟨us, cs, ub, cb, rfl, ok, hz, _⟩ := h1
  obtain ⟨op, d, a, b, c, n, t⟩ := x
  obtain ⟨rfl, _⟩ := h2
  have hl := hz.1
  have hV2 := ok.2.2.2
  clear hz ok
  simp only at *
  by_cases hV : 0 < V
  · have L : Hid (∀ W, Calls Tryd.prog 22 #[.agg #[.slice us sizes.length cs, .int .i64 params, .int .i64 vars, .int .i64 V, .slice ub blocks.length cb], .agg #[.int .i64 op, .int .i64 d, .int .i64 a, .int .i64 b, .int .i64 c, .int .i64 n, .string t]] W fun en w' => en = .returned (.bool (insOk (sizes.length : Nat) V ⟨op, d, a, b, c, n, t⟩)) ∧ Below W.heap.size W w') := fun W => by
      rcases (show op = 0 ∨ op = 1 ∨ op = 2 ∨ op = 3 ∨ op = 4 ∨ op = 5 ∨ op = 6 ∨ (¬ op = 0 ∧ ¬ op = 1 ∧ ¬ op = 2 ∧ ¬ op = 3 ∧ ¬ op = 4 ∧ ¬ op = 5 ∧ ¬ op = 6) by omega) with h | h | h | h | h | h | h | ⟨h0, h1, h2, h3, h4, h5, h6⟩
      · exact l04InstrOk0 V us cs _ params vars ub _ cb op d a b c n t W hl hV hV2 h
      · exact l04InstrOk1 V us cs _ params vars ub _ cb op d a b c n t W hl hV hV2 h
      · exact l04InstrOk2 V us cs _ params vars ub _ cb op d a b c n t W hl hV hV2 h
      · exact l04InstrOk3 V us cs _ params vars ub _ cb op d a b c n t W hl hV hV2 h
      · exact l04InstrOk4 V us cs _ params vars ub _ cb op d a b c n t W hl hV hV2 h
      · exact l04InstrOk5 V us cs _ params vars ub _ cb op d a b c n t W hl hV hV2 h
      · exact l04InstrOk6 V us cs _ params vars ub _ cb op d a b c n t W hl hV hV2 h
      · exact l04InstrOk7 V us cs _ params vars ub _ cb op d a b c n t W hl hV hV2 h0 h1 h2 h3 h4 h5 h6
    go_enter Tryd.func13, Tryd.ntmps13
    go_wp2_with fail
    refine (L.out _).mono ?_
    rintro e1 w1 ⟨rfl, bel1⟩
    have hw1 := hideP (two bel1).2.2.2
    clear bel1
    go_wp2
    go_ret
    exact ⟨rfl, hw1.out⟩
  · have E : Hid (insOk (sizes.length : Nat) V ⟨op, d, a, b, c, n, t⟩ = false) := by
      have no : ∀ z, vOk V z = false := fun z => by simp [vOk]; omega
      show _ = _
      simp [insOk, no]
    go_enter Tryd.func13, Tryd.ntmps13
    go_wp2
    go_ret
    exact ⟨ret_bool E.out.symm, below2 w _ _⟩
end Go.Proofs.YtkkjnjnbeekmcakDoor
