/- The line of a word of an image, as bytes: as the specification tells it, letter by letter, and as the program does, part by part. -/
import Derived.Test.YtheholgdfmipbaaDoorScP
namespace Go.Proofs.YtheholgdfmipbaaDoor
open Go.ChangeShapes Go.WideShapes Go.ChangeAt Go.RowKit
def aluT : List ByteArray := [wd [43], wd [45], wd [42], wd [38], wd [61, 61], wd [60]]
def aluV : Array Value := (aluT.map Value.string).toArray
def aluB (q : Nat) : ByteArray := aluT.getD q (wd [])
def formA : List ByteArray := [wd [114, 110], wd [114, 115], wd [114, 115], wd [114, 97, 103, 98], wd [114, 109, 97], wd [114, 109, 97], wd [114], wd [114], wd [119], wd [114, 119], wd [114], wd [114, 97]]
def fmV : Array Value := (formA.map Value.string).toArray
def fmB (q : Nat) : ByteArray := formA.getD q (wd [])
theorem aluV_at : ∀ (q : Nat), q < 6 → aluV[q]? = some (.string (aluB q))
  | 0, _ => rfl
  | 1, _ => rfl
  | 2, _ => rfl
  | 3, _ => rfl
  | 4, _ => rfl
  | 5, _ => rfl
  | q + 6, h => by omega
theorem aluB_size : ∀ (q : Nat), q < 6 → (aluB q).size ≤ 2
  | 0, _ => by decide
  | 1, _ => by decide
  | 2, _ => by decide
  | 3, _ => by decide
  | 4, _ => by decide
  | 5, _ => by decide
  | q + 6, h => by omega
theorem fmV_at : ∀ (q : Nat), q < 12 → fmV[q]? = some (.string (fmB q))
  | 0, _ => rfl
  | 1, _ => rfl
  | 2, _ => rfl
  | 3, _ => rfl
  | 4, _ => rfl
  | 5, _ => rfl
  | 6, _ => rfl
  | 7, _ => rfl
  | 8, _ => rfl
  | 9, _ => rfl
  | 10, _ => rfl
  | 11, _ => rfl
  | q + 12, h => by omega
/-- The letters that a form may have; a sign only the fourth. -/
theorem fmB_ok : ∀ (q : Nat), q < 12 → (fmB q).size ≤ 4 ∧ ∀ c ∈ (fmB q).data.toList, (c = 114 ∨ c = 97 ∨ c = 98 ∨ c = 110 ∨ c = 103 ∨ (c = 115 ∨ c = 109 ∨ c = 119)) ∧ (c = 103 → q = 3)
  | 0, _ => by decide
  | 1, _ => by decide
  | 2, _ => by decide
  | 3, _ => by decide
  | 4, _ => by decide
  | 5, _ => by decide
  | 6, _ => by decide
  | 7, _ => by decide
  | 8, _ => by decide
  | 9, _ => by decide
  | 10, _ => by decide
  | 11, _ => by decide
  | q + 12, h => by omega
def pieceL (x : Wrd) (c : UInt8) : List UInt8 :=
  if c = 114 then 32 :: 114 :: Lib.itoa x.r
  else if c = 97 then 32 :: 114 :: Lib.itoa x.a
  else if c = 98 then 32 :: 114 :: Lib.itoa x.b
  else if c = 110 then 32 :: Lib.itoa x.n
  else if c = 103 then 32 :: (aluB x.n.toNat).data.toList
  else 32 :: c :: Lib.itoa x.n
def wordL (x : Wrd) : List UInt8 := (nmB x.op.toNat).data.toList ++ ((fmB x.op.toNat).data.toList.map (pieceL x)).flatten
/-- The parts of the forms, one behind another, as the program cuts them from one row. -/
def tokA : List ByteArray := [wd [114, 82], wd [78], wd [59], wd [114, 82], wd [115, 78], wd [59], wd [114, 82], wd [115, 78], wd [59], wd [114, 82], wd [114, 65], wd [83, 73, 71, 78], wd [114, 66], wd [59], wd [114, 82], wd [109, 78], wd [114, 65], wd [59], wd [114, 82], wd [109, 78], wd [114, 65], wd [59], wd [114, 82], wd [59], wd [114, 82], wd [59], wd [119, 78], wd [59], wd [114, 82], wd [119, 78], wd [59], wd [114, 82], wd [59], wd [114, 82], wd [114, 65], wd [59]]
def rowTxt : List UInt8 := [114, 82, 32, 78, 32, 59, 32, 114, 82, 32, 115, 78, 32, 59, 32, 114, 82, 32, 115, 78, 32, 59, 32, 114, 82, 32, 114, 65, 32, 83, 73, 71, 78, 32, 114, 66, 32, 59, 32, 114, 82, 32, 109, 78, 32, 114, 65, 32, 59, 32, 114, 82, 32, 109, 78, 32, 114, 65, 32, 59, 32, 114, 82, 32, 59, 32, 114, 82, 32, 59, 32, 119, 78, 32, 59, 32, 114, 82, 32, 119, 78, 32, 59, 32, 114, 82, 32, 59, 32, 114, 82, 32, 114, 65, 32, 59]
def offT : List Nat := [0, 3, 6, 9, 14, 18, 22, 24, 26, 28, 31, 33]
def lenT : List Nat := [2, 2, 2, 4, 3, 3, 1, 1, 1, 2, 1, 2]
def frmT (q : Nat) : List ByteArray := (tokA.drop (offT.getD q 0)).take (lenT.getD q 0)
def fieldI (x : Wrd) (c : UInt8) : Int := if c = 82 then x.r else if c = 65 then x.a else if c = 66 then x.b else x.n
def fieldN (c : UInt8) : Nat := if c = 82 then 1 else if c = 65 then 2 else if c = 66 then 3 else 4
def lastB (p : ByteArray) : UInt8 := p.data.toList.getLast?.getD 0
def partL (x : Wrd) (p : ByteArray) : List UInt8 := if p.data.toList = [83, 73, 71, 78] then (aluB x.n.toNat).data.toList else p.data.toList.dropLast ++ Lib.itoa (fieldI x (lastB p))
/-- Both tell one line. -/
theorem parts_line : ∀ (q : Nat) (r a b n : Int), q < 12 → Lib.join ((nmB q).data.toList :: (frmT q).map (partL ⟨(q : Int), r, a, b, n⟩)) [32] = wordL ⟨(q : Int), r, a, b, n⟩
  | 0, _, _, _, _, _ => by rw [Lib.join_cons]; rfl
  | 1, _, _, _, _, _ => by rw [Lib.join_cons]; rfl
  | 2, _, _, _, _, _ => by rw [Lib.join_cons]; rfl
  | 3, _, _, _, _, _ => by rw [Lib.join_cons]; rfl
  | 4, _, _, _, _, _ => by rw [Lib.join_cons]; rfl
  | 5, _, _, _, _, _ => by rw [Lib.join_cons]; rfl
  | 6, _, _, _, _, _ => by rw [Lib.join_cons]; rfl
  | 7, _, _, _, _, _ => by rw [Lib.join_cons]; rfl
  | 8, _, _, _, _, _ => by rw [Lib.join_cons]; rfl
  | 9, _, _, _, _, _ => by rw [Lib.join_cons]; rfl
  | 10, _, _, _, _, _ => by rw [Lib.join_cons]; rfl
  | 11, _, _, _, _, _ => by rw [Lib.join_cons]; rfl
  | q + 12, _, _, _, _, h => by omega
/-- What the parts of a form are. -/
theorem frmT_ok : ∀ (q : Nat), q < 12 → (frmT q).length = lenT.getD q 0 ∧ lenT.getD q 0 ≤ 4 ∧ offT.getD q 0 + lenT.getD q 0 ≤ 36 ∧ ∀ p ∈ frmT q, 1 ≤ p.size ∧ p.size ≤ 4 ∧ (p.data.toList = [83, 73, 71, 78] → q = 3)
  | 0, _ => by decide
  | 1, _ => by decide
  | 2, _ => by decide
  | 3, _ => by decide
  | 4, _ => by decide
  | 5, _ => by decide
  | 6, _ => by decide
  | 7, _ => by decide
  | 8, _ => by decide
  | 9, _ => by decide
  | 10, _ => by decide
  | 11, _ => by decide
  | q + 12, h => by omega
theorem pieceL_len {x : Wrd} (hx : x.wf) (hs : x.op = 3 → ∃ k : Nat, x.n = (k : Int) ∧ k < 6) {c : UInt8} (hc : c = 103 → x.op = 3) : (pieceL x c).length ≤ 23 := by
  obtain ⟨_, h1, h2, h3, h4⟩ := hx
  have l1 := itoa_len h1.1 h1.2
  have l2 := itoa_len h2.1 h2.2
  have l3 := itoa_len h3.1 h3.2
  have l4 := itoa_len h4.1 h4.2
  unfold pieceL
  by_cases e1 : c = 114
  · rw [if_pos e1]; simp; omega
  rw [if_neg e1]
  by_cases e2 : c = 97
  · rw [if_pos e2]; simp; omega
  rw [if_neg e2]
  by_cases e3 : c = 98
  · rw [if_pos e3]; simp; omega
  rw [if_neg e3]
  by_cases e4 : c = 110
  · rw [if_pos e4]; simp; omega
  rw [if_neg e4]
  by_cases e5 : c = 103
  · rw [if_pos e5]
    obtain ⟨k, hk, hk6⟩ := hs (hc e5)
    have h6 := aluB_size k hk6
    have h7 : (aluB k).data.toList.length ≤ 2 := by simpa using h6
    rw [hk, Int.toNat_natCast]
    simp only [List.length_cons]; omega
  · rw [if_neg e5]; simp; omega
end Go.Proofs.YtheholgdfmipbaaDoor
