/- How many steps of one Op there are: plain. -/
import Derived.Test.YtelkpikbjfkpcaaGrOkP
namespace Go.Proofs.Ytelkpikbjfkpcaa
open Go.ChangeShapes Go.WideShapes Go.ChangeAt Go.RowKit
def cntP (op : Int) (l : List Ins) : Nat := l.countP fun x => decide (x.op = op)
theorem cntP_nil (op : Int) : cntP op [] = 0 := rfl
theorem cntP_append (op : Int) (a b : List Ins) : cntP op (a ++ b) = cntP op a + cntP op b := List.countP_append
theorem cntP_one (op : Int) (x : Ins) : cntP op [x] = if x.op = op then 1 else 0 := by simp [cntP, List.countP_cons]
theorem cntP_le (op : Int) (l : List Ins) : cntP op l ≤ l.length := List.countP_le_length
theorem cntP_snoc (op : Int) (l : List Ins) (x : Ins) : cntP op (l ++ [x]) = cntP op l + (if x.op = op then 1 else 0) := by rw [cntP_append, cntP_one]
theorem codeAll_take (bs : List Blk) (j : Nat) (h : j < bs.length) : codeAll (bs.take (j + 1)) = codeAll (bs.take j) ++ bs[j].code := by
  unfold codeAll
  rw [List.take_succ_eq_append_getElem h, List.flatMap_append, List.flatMap_cons, List.flatMap_nil, List.append_nil]
theorem codeAll_few : ∀ (bs : List Blk), (codeAll bs).length ≤ slSum Blk.sz bs
  | [] => by simp [codeAll]
  | b :: l => by
    have h1 := codeAll_few l
    have h2 : b.code.length ≤ b.sz := by simp only [Blk.sz, slSz]; omega
    unfold codeAll at h1 ⊢
    rw [List.flatMap_cons, List.length_append, slSum]
    omega
theorem codeAll_sz {g : Gr} (h : g.sz ≤ 1048576) : (codeAll g.blocks).length ≤ 1048576 := by
  have h1 := codeAll_few g.blocks
  simp only [Gr.sz, slSz] at h
  omega
theorem code_leC {bs : List Blk} {j : Nat} (h : j < bs.length) : (codeAll (bs.take j)).length + bs[j].code.length ≤ (codeAll bs).length := by
  have e : codeAll bs = codeAll (bs.take j) ++ (bs[j].code ++ codeAll (bs.drop (j + 1))) := by
    unfold codeAll
    conv => lhs; rw [← List.take_append_drop j bs, List.flatMap_append, List.drop_eq_getElem_cons h, List.flatMap_cons]
  rw [e, List.length_append, List.length_append]
  omega
end Go.Proofs.Ytelkpikbjfkpcaa
