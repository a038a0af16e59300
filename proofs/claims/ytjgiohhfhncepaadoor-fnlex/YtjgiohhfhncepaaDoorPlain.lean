/- Plain lists and bytes, no program: what chapter 1's functions answer, as functions of lists of bytes. -/
import Derived.Laws.Strings
import Derived.Lib.Strings
namespace Go.Proofs.YtjgiohhfhncepaaDoor

def hasB (l : List ByteArray) (s : ByteArray) : Bool := l.any fun x => x.toList == s.toList
theorem hasB_drop_true {l : List ByteArray} {s : ByteArray} {k : Nat} (hk : k < l.length) (h : ((l[k]).toList == s.toList) = true) : hasB (l.drop k) s = true := by
  unfold hasB; rw [List.drop_eq_getElem_cons hk, List.any_cons, h, Bool.true_or]
theorem hasB_drop_false {l : List ByteArray} {s : ByteArray} {k : Nat} (hk : k < l.length) (h : ((l[k]).toList == s.toList) = false) : hasB (l.drop k) s = hasB (l.drop (k+1)) s := by
  unfold hasB; rw [List.drop_eq_getElem_cons hk, List.any_cons, h, Bool.false_or]
theorem ret_bool {a b : Bool} (h : a = b) : Ending.returned (.bool a) = .returned (.bool b) := by rw [h]
theorem ret_int {k : IntKind} {a b : Int} (h : a = b) : Ending.returned (.int k a) = .returned (.int k b) := by rw [h]
theorem ret_str {a b : ByteArray} (h : a = b) : Ending.returned (.string a) = .returned (.string b) := by rw [h]

def wd (l : List UInt8) : ByteArray := ⟨l.toArray⟩
theorem wd_toList (l : List UInt8) : (wd l).toList = l := ByteArray.toList_mk l
def theWords : List ByteArray := [wd [109, 101, 109], wd [102, 110], wd [108, 101, 116], wd [112, 116, 114], wd [105, 110], wd [105, 102], wd [101, 108, 115, 101], wd [119, 104, 105, 108, 101], wd [112, 117, 116], wd [103, 101, 116], wd [114, 101, 116, 117, 114, 110]]
/-- Whether a list of bytes is one of the words. -/
def isWordL (l : List UInt8) : Bool := l == [109, 101, 109] || l == [102, 110] || l == [108, 101, 116] || l == [112, 116, 114] || l == [105, 110] || l == [105, 102] || l == [101, 108, 115, 101] || l == [119, 104, 105, 108, 101] || l == [112, 117, 116] || l == [103, 101, 116] || l == [114, 101, 116, 117, 114, 110]
theorem beq_comm8 (a b : List UInt8) : (a == b) = (b == a) := by rw [Bool.eq_iff_iff, beq_iff_eq, beq_iff_eq]; exact eq_comm
theorem hasB_cons (x : List UInt8) (l : List ByteArray) (s : ByteArray) : hasB (wd x :: l) s = (s.toList == x || hasB l s) := by
  simp only [hasB, List.any_cons, wd_toList]; rw [beq_comm8]
theorem hasB_nil (s : ByteArray) : hasB [] s = false := rfl
theorem hasB_theWords (s : ByteArray) : hasB theWords s = isWordL s.toList := by
  unfold theWords isWordL
  simp only [hasB_cons, hasB_nil, Bool.or_false, Bool.or_assoc]
theorem hasB_theWords' (s : ByteArray) : hasB theWords s = isWordL s.data.toList := by rw [hasB_theWords, Lib.toList_data]

/-! Letters, digits, names -/
def inB (x a b : Int) : Bool := decide (a ≤ x ∧ x ≤ b)
def letB (n : Int) : Bool := inB n 97 122
def digB (n : Int) : Bool := inB n 48 57
def an (c : UInt8) : Bool := letB c.toNat || digB c.toNat
/-- How many letters and digits a text begins with. -/
def nlen (l : List UInt8) : Nat := (l.takeWhile an).length
theorem nlen_cons (c : UInt8) (l : List UInt8) : nlen (c :: l) = if an c = true then nlen l + 1 else 0 := by
  unfold nlen; rw [List.takeWhile_cons]; split <;> simp
theorem nlen_le (l : List UInt8) : nlen l ≤ l.length := by
  induction l with
  | nil => simp [nlen]
  | cons c l ih => rw [nlen_cons]; split <;> simp; omega
theorem drop_cons (s : ByteArray) (k : Nat) (h : k < s.size) : s.data.toList.drop k = s[k] :: s.data.toList.drop (k + 1) := by
  rw [List.drop_eq_getElem_cons (by simpa using h)]; rfl
theorem dlen (s : ByteArray) : s.data.toList.length = s.size := by simp
theorem nlen_step (s : ByteArray) (k : Nat) (h : k < s.size) (ha : an s[k] = true) : nlen (s.data.toList.drop k) = nlen (s.data.toList.drop (k + 1)) + 1 := by
  rw [drop_cons s k h, nlen_cons, if_pos ha]
theorem nlen_stop (s : ByteArray) (k : Nat) (h : k < s.size) (ha : an s[k] = false) : nlen (s.data.toList.drop k) = 0 := by
  rw [drop_cons s k h, nlen_cons, if_neg (by simp [ha])]
theorem nlen_end (s : ByteArray) (k : Nat) (h : s.size ≤ k) : nlen (s.data.toList.drop k) = 0 := by
  rw [List.drop_of_length_le (by rw [dlen]; exact h)]; rfl
theorem nlen_all (l : List UInt8) : (nlen l = l.length) ↔ l.all an = true := by
  induction l with
  | nil => simp [nlen]
  | cons c l ih =>
    rw [nlen_cons]
    by_cases h : an c = true
    · simp only [h, if_true, List.length_cons, List.all_cons, Bool.true_and]; rw [← ih]; omega
    · simp [h]
/-- Whether a list of bytes is a name. -/
def nameL (l : List UInt8) : Bool := decide (1 ≤ l.length) && decide (l.length ≤ 8) && letB (l.headD 0).toNat && decide (nlen l = l.length) && !isWordL l
theorem head_data (s : ByteArray) (h : 0 < s.size) : s.data.toList.headD 0 = s[0] := by
  have := drop_cons s 0 h; rw [List.drop_zero] at this; rw [this]; rfl
theorem nameL_short (s : ByteArray) (h : s.size < 1) : nameL s.data.toList = false := by
  unfold nameL; rw [dlen, decide_eq_false (by omega : ¬ 1 ≤ s.size)]; rfl
theorem nameL_long (s : ByteArray) (h : 8 < s.size) : nameL s.data.toList = false := by
  unfold nameL; rw [dlen, decide_eq_false (by omega : ¬ s.size ≤ 8)]; simp
theorem nameL_head (s : ByteArray) (h : 0 < s.size) (hL : letB s[0].toNat = false) : nameL s.data.toList = false := by
  unfold nameL; rw [head_data s h, hL]; simp
theorem nameL_nlen (s : ByteArray) (hn : nlen s.data.toList ≠ s.size) : nameL s.data.toList = false := by
  unfold nameL; rw [dlen, decide_eq_false hn]; simp
theorem nameL_word (s : ByteArray) (hn : isWordL s.data.toList = true) : nameL s.data.toList = false := by
  unfold nameL; rw [hn]; simp
theorem nameL_yes (s : ByteArray) (h1 : 1 ≤ s.size) (h8 : s.size ≤ 8) (hL : letB s[0].toNat = true) (hn : nlen s.data.toList = s.size) (hw : isWordL s.data.toList = false) : nameL s.data.toList = true := by
  unfold nameL; rw [head_data s h1, hL, dlen, hn, hw]; simp [h1, h8]
end Go.Proofs.YtjgiohhfhncepaaDoor
