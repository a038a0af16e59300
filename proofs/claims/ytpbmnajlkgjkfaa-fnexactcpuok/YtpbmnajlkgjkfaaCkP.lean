/- Whether a Cpu is one of an image: the plain side, and small contracts. -/
import Derived.Test.YtpbmnajlkgjkfaaImgP
import Derived.Test.YtpbmnajlkgjkfaaImageD
import Derived.Test.YtpbmnajlkgjkfaaCpuD
namespace Go.Proofs.Ytpbmnajlkgjkfaa
open Go.ChangeShapes Go.WideShapes Go.ChangeAt Go.RowKit
/-- Each region has as many places as its size says. -/
def memB : List Rw → List Int → Bool
  | [], [] => true
  | r :: l, z :: m => decide ((r.length : Int) = z) && memB l m
  | _, _ => false
theorem memB_ne : ∀ (l : List Rw) (m : List Int), l.length ≠ m.length → memB l m = false
  | [], [], h => absurd rfl h
  | [], _ :: _, _ => rfl
  | _ :: _, [], _ => rfl
  | r :: l, z :: m, h => by rw [memB, memB_ne l m (by simpa using h), Bool.and_false]
theorem memB_step {l : List Rw} {m : List Int} {j : Nat} (h : j < l.length) (h' : j < m.length) : memB (l.drop j) (m.drop j) = (decide ((l[j].length : Int) = m[j]) && memB (l.drop (j + 1)) (m.drop (j + 1))) := by
  rw [List.drop_eq_getElem_cons h, List.drop_eq_getElem_cons h']; rfl
theorem memB_end (l : List Rw) (m : List Int) (h : l.length = m.length) : memB (l.drop l.length) (m.drop l.length) = true := by
  rw [List.drop_of_length_le (Nat.le_refl _), List.drop_of_length_le (by omega)]; rfl
def endB (c : Cp) : Bool := if c.over = true then c.code == 0 else (c.code == 0 || c.code == 1) && c.val == 0
def rowsB (m : Img) (c : Cp) : Bool := decide (c.regs.length = 16) && decide ((c.slots.length : Int) = m.slots) && decide (c.input.length ≤ 100) && memB c.mem m.sizes
def cpuOk (m : Img) (c : Cp) : Bool := imgOk m && (belI c.pos (m.code.length : Nat) && (rowsB m c && endB c))
end Go.Proofs.Ytpbmnajlkgjkfaa
