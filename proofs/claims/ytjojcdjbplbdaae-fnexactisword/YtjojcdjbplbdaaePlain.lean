/- Plain lists and bytes, no program: what chapter 1's functions answer, as functions of lists of bytes. -/
import Derived.Laws.Strings
import Derived.Lib.Strings
namespace Go.Proofs.Ytjojcdjbplbdaae

def hasB (l : List ByteArray) (s : ByteArray) : Bool := l.any fun x => x.toList == s.toList
theorem hasB_drop_true {l : List ByteArray} {s : ByteArray} {k : Nat} (hk : k < l.length) (h : ((l[k]).toList == s.toList) = true) : hasB (l.drop k) s = true := by
  unfold hasB; rw [List.drop_eq_getElem_cons hk, List.any_cons, h, Bool.true_or]
theorem hasB_drop_false {l : List ByteArray} {s : ByteArray} {k : Nat} (hk : k < l.length) (h : ((l[k]).toList == s.toList) = false) : hasB (l.drop k) s = hasB (l.drop (k+1)) s := by
  unfold hasB; rw [List.drop_eq_getElem_cons hk, List.any_cons, h, Bool.false_or]
theorem ret_bool {a b : Bool} (h : a = b) : Ending.returned (.bool a) = .returned (.bool b) := by rw [h]
theorem ret_int {k : IntKind} {a b : Int} (h : a = b) : Ending.returned (.int k a) = .returned (.int k b) := by rw [h]
theorem ret_str {a b : ByteArray} (h : a = b) : Ending.returned (.string a) = .returned (.string b) := by rw [h]

def wd (l : List UInt8) : ByteArray := ⟨l.toArray⟩
theorem wd_toList (l : List UInt8) : (wd l).toList = l := ByteArray.toList_mk l
def theWords : List ByteArray := [wd [109, 101, 109], wd [102, 110], wd [108, 101, 116], wd [112, 116, 114], wd [105, 110], wd [105, 102], wd [101, 108, 115, 101], wd [119, 104, 105, 108, 101], wd [112, 117, 116], wd [103, 101, 116], wd [114, 101, 116, 117, 114, 110]]
/-- Whether a list of bytes is one of the words. -/
def isWordL (l : List UInt8) : Bool := l == [109, 101, 109] || l == [102, 110] || l == [108, 101, 116] || l == [112, 116, 114] || l == [105, 110] || l == [105, 102] || l == [101, 108, 115, 101] || l == [119, 104, 105, 108, 101] || l == [112, 117, 116] || l == [103, 101, 116] || l == [114, 101, 116, 117, 114, 110]
theorem beq_comm8 (a b : List UInt8) : (a == b) = (b == a) := by rw [Bool.eq_iff_iff, beq_iff_eq, beq_iff_eq]; exact eq_comm
theorem hasB_cons (x : List UInt8) (l : List ByteArray) (s : ByteArray) : hasB (wd x :: l) s = (s.toList == x || hasB l s) := by
  simp only [hasB, List.any_cons, wd_toList]; rw [beq_comm8]
theorem hasB_nil (s : ByteArray) : hasB [] s = false := rfl
theorem hasB_theWords (s : ByteArray) : hasB theWords s = isWordL s.toList := by
  unfold theWords isWordL
  simp only [hasB_cons, hasB_nil, Bool.or_false, Bool.or_assoc]
end Go.Proofs.Ytjojcdjbplbdaae
