/- When a graph is right, as a function; the contracts of impl.frameOk, impl.blockThere and impl.jumpOk. -/
import Derived.Test.YtpkfbabgcinhhaaDoorInstrOkI
import Derived.Test.YtpkfbabgcinhhaaDoorCkB
namespace Go.Proofs.YtpkfbabgcinhhaaDoor
open Go.ChangeShapes Go.WideShapes Go.ChangeAt Go.RowKit
def sizeOk (z : Int) : Bool := decide (1 ≤ z ∧ z ≤ 16)
/-- Whether Sizes, Params and Vars are as a program's. -/
def frOk (sizes : List Int) (params vars : Int) : Bool := decide (1 ≤ sizes.length ∧ sizes.length ≤ 4) && sizes.all sizeOk && decide (0 ≤ params ∧ params ≤ 6 ∧ params ≤ vars ∧ vars ≤ 20)
/-- Whether a block's Jump is right, of V slots and m blocks. -/
def jmpOk (V : Int) (m : Nat) (b : Blk) : Bool :=
  if b.jump = 0 then decide (b.a = 0) && decide (b.els = 0) && vOk (m : Nat) b.to
  else if b.jump = 1 then vOk V b.a && vOk (m : Nat) b.to && vOk (m : Nat) b.els
  else if b.jump = 2 then vOk V b.a && decide (b.to = 0) && decide (b.els = 0) else false
def codeAll (bs : List Blk) : List Ins := bs.flatMap (·.code)
def grOk (g : Gr) : Bool :=
  frOk g.sizes g.params g.vars && decide (g.vars ≤ g.slots ∧ g.slots ≤ 1000) && decide (1 ≤ g.blocks.length ∧ g.blocks.length ≤ 300) &&
    decide ((codeAll g.blocks).length ≤ 1000) && (codeAll g.blocks).all (insOk (g.sizes.length : Nat) g.slots) && g.blocks.all (jmpOk g.slots g.blocks.length)

theorem all_take {α : Type} (f : α → Bool) (l : List α) (j : Nat) (h : j < l.length) : (l.take (j + 1)).all f = ((l.take j).all f && f l[j]) := by
  rw [List.take_succ_eq_append_getElem h, List.all_append]; simp
theorem all_no {α : Type} (f : α → Bool) (l : List α) (j : Nat) (h : j < l.length) (hn : f l[j] = false) : l.all f = false := by
  rw [List.all_eq_false]; exact ⟨l[j], List.getElem_mem h, by simp [hn]⟩
theorem frOk_eq (zs : List Int) (params vars : Int) : frOk zs params vars = (regOk zs && parOk params vars && decide (vars ≤ 20)) := by
  have e : zs.all sizeOk = zs.all szOk := rfl
  unfold frOk regOk parOk
  rw [e, Bool.eq_iff_iff]
  simp only [Bool.and_eq_true, decide_eq_true_eq]
  constructor
  · rintro ⟨⟨a, b⟩, c, d, e, f⟩; exact ⟨⟨⟨a, b⟩, c, d, e⟩, f⟩
  · rintro ⟨⟨⟨a, b⟩, c, d, e⟩, f⟩; exact ⟨⟨a, b⟩, c, d, e, f⟩
end Go.Proofs.YtpkfbabgcinhhaaDoor
