/- The contracts of szWord and szWordS (written by wip/mkshape.py). -/
import Derived.Test.YtheholgdfmipbaaDoorWordD
namespace Go.Proofs.YtheholgdfmipbaaDoor
open Go.ChangeShapes Go.WideShapes Go.ChangeAt Go.RowKit
theorem Wrd_sum : ∀ (l : List Wrd), slSum Wrd.sz l = 0
  | [] => rfl
  | e :: l => by rw [slSum, Wrd_sum l]; rfl
set_option maxHeartbeats 1000000 in
theorem szWordS_any (es : List Wrd) (w : World) (B : Nat) (a' : Option Addr) (cap L : Nat) (h : SlIs WrdIs 5 w B a' es) (hL : L ≤ 1048576) :
    Calls Tryd.prog 21 #[.slice a' es.length cap, .int .i64 L] w fun en w' => en = .returned (.int .i64 (szR (slSz Wrd.sz es) L)) ∧ Below w.heap.size w w' := by
  have hm := maxLen_lt
  have hl := h.1
  have e0 : slSz Wrd.sz es = es.length := by unfold slSz; rw [Wrd_sum]; rfl
  rw [e0]
  clear e0 h
  by_cases h0 : L < es.length
  · have e1 : szR es.length L = -1 := szR_neg h0
    rw [e1]
    clear e1
    go_enter Tryd.func21, Tryd.ntmps21
    go_wp2
    go_ret
    exact ⟨rfl, Below.refl _ _⟩
  · have e1 : szR es.length L = ((L - es.length : Nat) : Int) := szR_pos (by omega)
    rw [e1]
    clear e1
    go_enter Tryd.func21, Tryd.ntmps21
    go_wp2
    go_ret
    exact ⟨ret_int (by omega), Below.refl _ _⟩
end Go.Proofs.YtheholgdfmipbaaDoor
