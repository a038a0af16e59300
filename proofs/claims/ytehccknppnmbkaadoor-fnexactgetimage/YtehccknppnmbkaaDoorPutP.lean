/- The bytes of a number, and of an image, as lists of numbers. -/
import Derived.Test.YtehccknppnmbkaaDoorOwnBy
import Derived.Test.YtehccknppnmbkaaDoorSumA
import Derived.Test.YtehccknppnmbkaaDoorImgP
import Derived.Laws.BytesArg
namespace Go.Proofs.YtehccknppnmbkaaDoor
open Go.ChangeShapes Go.WideShapes Go.ChangeAt Go.RowKit
/-- A byte of a number of 64 bits: of its eight the k-th, the highest first. -/
def byteV (n : Int) (k : Nat) : Int := n % 18446744073709551616 / 256 ^ (7 - k) % 256
def numUp (n : Int) : Nat → List Int
  | 0 => []
  | k + 1 => numUp n k ++ [byteV n k]
def numL (n : Int) : List Int := numUp n 8
def numsL (l : List Int) : List Int := l.flatMap numL
theorem numUp_len (n : Int) : ∀ k, (numUp n k).length = k
  | 0 => rfl
  | k + 1 => by show (numUp n k ++ _).length = _; rw [List.length_append, numUp_len n k]; rfl
theorem numL_len (n : Int) : (numL n).length = 8 := numUp_len n 8
theorem numsL_len (l : List Int) : (numsL l).length = 8 * l.length := by
  induction l with
  | nil => rfl
  | cons x r ih => unfold numsL at *; rw [List.flatMap_cons, List.length_append, ih, numL_len, List.length_cons]; omega
theorem numsL_app (l : List Int) (x : Int) : numsL (l ++ [x]) = numsL l ++ numL x := by unfold numsL; simp
theorem numsL_one (x : Int) : numsL [x] = numL x := by unfold numsL; simp
/-- The numbers of a word. -/
def wrdN (x : Wrd) : List Int := [x.op, x.r, x.a, x.b, x.n]
def wrdsN (l : List Wrd) : List Int := l.flatMap wrdN
theorem wrdsN_len (l : List Wrd) : (wrdsN l).length = 5 * l.length := by
  induction l with
  | nil => rfl
  | cons x r ih => unfold wrdsN at *; rw [List.flatMap_cons, List.length_append, ih, List.length_cons]; show 5 + _ = _; omega
theorem wrdsN_take (l : List Wrd) (j : Nat) (h : j < l.length) (x : Wrd) (e : l[j] = x) : wrdsN (l.take (j + 1)) = wrdsN (l.take j) ++ wrdN x := by
  rw [List.take_succ_eq_append_getElem h, e]; unfold wrdsN; rw [List.flatMap_append]; simp
/-- The numbers of an image ahead of its words. -/
def headN (m : Img) : List Int := ((m.sizes.length : Nat) : Int) :: m.sizes ++ [m.params, m.slots, ((m.code.length : Nat) : Int)]
def imgN (m : Img) : List Int := headN m ++ wrdsN m.code
def strB (l : List Int) : ByteArray := strOfNums l
def sumN (l : List Int) : Int := sumL (strB l).data.toList
def putL (m : Img) : List Int := numsL (imgN m) ++ numL (sumN (numsL (imgN m)))
def putS (m : Img) : ByteArray := if imgOk m = true then strB (putL m) else ⟨#[]⟩
theorem imgN_len (m : Img) : (imgN m).length = m.sizes.length + 4 + 5 * m.code.length := by
  unfold imgN headN; rw [List.length_append, wrdsN_len]; simp
theorem strB_size (l : List Int) : (strB l).size = l.length := strOfNums_size l
end Go.Proofs.YtehccknppnmbkaaDoor
