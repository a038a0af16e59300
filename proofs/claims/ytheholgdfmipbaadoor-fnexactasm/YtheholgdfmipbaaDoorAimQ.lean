/- What ImageOk gives, and her contract as later functions ask for it. -/
import Derived.Test.YtheholgdfmipbaaDoorImgP
namespace Go.Proofs.YtheholgdfmipbaaDoor
open Go.ChangeShapes Go.WideShapes Go.ChangeAt Go.RowKit
theorem imgOk_few {m : Img} (h : imgOk m = true) : m.code.length ≤ 6000 ∧ 1 ≤ m.code.length := by
  unfold imgOk at h
  simp only [Bool.and_eq_true, decide_eq_true_eq] at h
  exact ⟨h.1.1.2.2, h.1.1.2.1⟩
theorem keepW {W W' : World} {b : Nat} {o : Obj} (h : W.heap[b]? = some o) (bel : Below W.heap.size W W') : W'.heap[b]? = some o := (bel.block b (Array.getElem?_eq_some_iff.1 h).1).trans h
/-- ImageOk's contract, as later functions ask for it. -/
def ImOk (f : Nat) (m : Img) : Prop := ∀ (W : World) (A : Nat) (v : Array Value), ImgIs W A v m → Calls Tryd.prog f #[.agg v] W fun en w' => en = .returned (.bool (imgOk m)) ∧ Below W.heap.size W w'
end Go.Proofs.YtheholgdfmipbaaDoor
