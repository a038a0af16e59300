/- The text of an image, as lines of bytes; the names of its words. -/
import Derived.Test.YtheholgdfmipbaaDoorImgL
import Derived.Test.YtheholgdfmipbaaDoorEndPlain
import Derived.Test.YtheholgdfmipbaaDoorAimQ
namespace Go.Proofs.YtheholgdfmipbaaDoor
open Go.ChangeShapes Go.WideShapes Go.ChangeAt Go.RowKit
def opA : List ByteArray := [wd [108, 105], wd [108, 100], wd [115, 100], wd [97, 108, 117], wd [108, 120], wd [115, 120], wd [105, 110], wd [111, 117, 116], wd [106, 109, 112], wd [106, 122], wd [114, 101, 116], wd [109, 118]]
def opV : Array Value := (opA.map Value.string).toArray
def nmB (q : Nat) : ByteArray := opA.getD q (wd [])
theorem opV_at : ∀ (q : Nat), q < 12 → opV[q]? = some (.string (nmB q))
  | 0, _ => rfl
  | 1, _ => rfl
  | 2, _ => rfl
  | 3, _ => rfl
  | 4, _ => rfl
  | 5, _ => rfl
  | 6, _ => rfl
  | 7, _ => rfl
  | 8, _ => rfl
  | 9, _ => rfl
  | 10, _ => rfl
  | 11, _ => rfl
  | q + 12, h => by omega
theorem nmB_size : ∀ (q : Nat), q < 12 → (nmB q).size ≤ 3
  | 0, _ => by decide
  | 1, _ => by decide
  | 2, _ => by decide
  | 3, _ => by decide
  | 4, _ => by decide
  | 5, _ => by decide
  | 6, _ => by decide
  | 7, _ => by decide
  | 8, _ => by decide
  | 9, _ => by decide
  | 10, _ => by decide
  | 11, _ => by decide
  | q + 12, h => by omega
def partsW (i : Nat) (x : Wrd) : List (List UInt8) := [Lib.itoa (i : Int) ++ [58], (nmB x.op.toNat).data.toList, Lib.itoa x.r, Lib.itoa x.a, Lib.itoa x.b, Lib.itoa x.n]
def lineW (i : Nat) (x : Wrd) : List UInt8 := Lib.itoa (i : Int) ++ ([58, 32] ++ ((nmB x.op.toNat).data.toList ++ (32 :: (Lib.itoa x.r ++ (32 :: (Lib.itoa x.a ++ (32 :: (Lib.itoa x.b ++ (32 :: (Lib.itoa x.n ++ [10]))))))))))
theorem line_parts (i : Nat) (x : Wrd) : Lib.join (partsW i x) [32] ++ [10] = lineW i x := by
  unfold partsW lineW
  rw [Lib.join_cons]
  simp [Lib.joinTail]
def scUp (l : List Wrd) : Nat → List (List UInt8)
  | 0 => []
  | j + 1 => scUp l j ++ (match l[j]? with | some x => [lineW j x] | none => [])
theorem scUp_at {l : List Wrd} {j : Nat} {x : Wrd} (h : j < l.length) (e : l[j] = x) : scUp l (j + 1) = scUp l j ++ [lineW j x] := by
  show scUp l j ++ _ = _
  rw [List.getElem?_eq_getElem h, e]
theorem scUp_len (l : List Wrd) : ∀ (j : Nat), j ≤ l.length → (scUp l j).length = j
  | 0, _ => rfl
  | j + 1, h => by rw [scUp_at (by omega) rfl, List.length_append, scUp_len l j (by omega)]; rfl
def showL (m : Img) : List UInt8 := if imgOk m = true then (scUp m.code m.code.length).flatten else []
theorem wrdOk_op {ns sl nc : Int} {x : Wrd} (h : wrdOk ns sl nc x = true) : ∃ q : Nat, x.op = (q : Int) ∧ q < 12 := by
  obtain ⟨op, r, a, b, n⟩ := x
  by_cases hx : 0 ≤ op ∧ op < 12
  · exact ⟨op.toNat, by simp only; omega, by omega⟩
  · rw [wrd_x (by omega) (by omega) (by omega) (by omega) (by omega) (by omega) (by omega) (by omega) (by omega) (by omega) (by omega) (by omega)] at h
    cases h
theorem imgOk_word {m : Img} (h : imgOk m = true) {x : Wrd} (hx : x ∈ m.code) : ∃ q : Nat, x.op = (q : Int) ∧ q < 12 := by
  unfold imgOk at h
  simp only [Bool.and_eq_true, List.all_eq_true] at h
  exact wrdOk_op (h.1.2 x hx)
theorem lineW_len {i : Nat} {x : Wrd} (hi : i ≤ 6000) (h : x.wf) (hq : ∃ q : Nat, x.op = (q : Int) ∧ q < 12) : (lineW i x).length ≤ 150 := by
  obtain ⟨q, hq, hq2⟩ := hq
  obtain ⟨_, h1, h2, h3, h4⟩ := h
  have l1 := itoa_len h1.1 h1.2
  have l2 := itoa_len h2.1 h2.2
  have l3 := itoa_len h3.1 h3.2
  have l4 := itoa_len h4.1 h4.2
  have l5 := itoa_len (n := (i : Int)) (by omega) (by omega)
  have l6 := nmB_size q hq2
  have e : (nmB x.op.toNat).data.toList.length ≤ 3 := by rw [hq]; simpa using l6
  unfold lineW
  simp only [List.length_append, List.length_cons, List.length_nil]
  omega
theorem joinW_empty (xs : List (List UInt8)) : Lib.join xs [] = xs.flatten := by
  cases xs with
  | nil => rfl
  | cons x r => rw [Lib.join_cons]; simp [Lib.joinTail]
end Go.Proofs.YtheholgdfmipbaaDoor
