/- Plain: an end's text, as bytes. -/
import Derived.Test.YtheholgdfmipbaaDoorDecPlain
import Derived.Lib.Join
namespace Go.Proofs.YtheholgdfmipbaaDoor
theorem itoa_len {n : Int} (h0 : -9223372036854775808 ≤ n) (h1 : n ≤ 9223372036854775807) : (Lib.itoa n).length ≤ 21 := by
  by_cases hp : 0 < n
  · rw [itoa_pos' hp]
    have := dd_len (a := 0) (u := n.natAbs) (l := dd n.natAbs) (by omega) (by omega) (by rw [dd_zero]; rfl)
    omega
  · by_cases hz : n = 0
    · subst hz; rw [itoa_zero']; decide
    · rw [itoa_neg' (by omega)]
      have := dd_len (a := 0) (u := n.natAbs) (l := dd n.natAbs) (by omega) (by omega) (by rw [dd_zero]; rfl)
      simp; omega
/-- Each number behind a blank. -/
def numsL : List Int → List UInt8
  | [] => []
  | z :: l => 32 :: (Lib.itoa z ++ numsL l)
theorem numsL_append : ∀ l m, numsL (l ++ m) = numsL l ++ numsL m
  | [], m => rfl
  | z :: l, m => by simp [numsL, numsL_append l m]
theorem numsL_take (l : List Int) (i : Nat) (h : i < l.length) : numsL (l.take (i + 1)) = numsL (l.take i) ++ 32 :: Lib.itoa l[i] := by
  rw [List.take_succ_eq_append_getElem h, numsL_append]; simp [numsL]
def In64 (z : Int) : Prop := -9223372036854775808 ≤ z ∧ z ≤ 9223372036854775807
theorem numsL_len : ∀ l : List Int, (∀ z ∈ l, In64 z) → (numsL l).length ≤ 22 * l.length
  | [], _ => by simp [numsL]
  | z :: l, h => by
    have h1 := itoa_len (h z (by simp)).1 (h z (by simp)).2
    have h2 := numsL_len l fun y hy => h y (by simp [hy])
    simp [numsL]; omega
theorem numsL_take_len (l : List Int) (h : ∀ z ∈ l, In64 z) (i : Nat) (hi : i ≤ l.length) : (numsL (l.take i)).length ≤ 22 * i := by
  have := numsL_len (l.take i) fun z hz => h z (List.mem_of_mem_take hz)
  rw [List.length_take] at this
  omega
/-- The word of a Code, and what stands behind it. -/
def headL (c v : Int) : List UInt8 := if c = 0 then [100, 111, 110, 101] ++ 32 :: Lib.itoa v else if c = 1 then [116, 114, 97, 112] else if c = 2 then [102, 117, 101, 108] else [110, 111, 110, 101]
def endL (c v : Int) (out : List Int) : List UInt8 := if 0 ≤ c ∧ c ≤ 3 then headL c v ++ numsL out else []
theorem headL_len {c v : Int} (h : In64 v) : (headL c v).length ≤ 26 := by
  have := itoa_len h.1 h.2
  unfold headL
  split
  · simp; omega
  · split
    · decide
    · split <;> decide
/-- Words with a blank between two. -/
theorem join_words (x : List UInt8) (zs : List Int) : Lib.join (x :: zs.map Lib.itoa) [32] = x ++ numsL zs := by
  rw [Lib.join_cons]
  congr 1
  unfold Lib.joinTail
  induction zs with
  | nil => rfl
  | cons z l ih => simp only [List.map_cons, List.flatten_cons, numsL] ; rw [ih]; simp
theorem join_words2 (x : List UInt8) (v : Int) (zs : List Int) : Lib.join (x :: Lib.itoa v :: zs.map Lib.itoa) [32] = x ++ 32 :: (Lib.itoa v ++ numsL zs) := join_words x (v :: zs)
theorem ba_size (a : Array UInt8) : (⟨a⟩ : ByteArray).size = a.size := rfl
theorem app_data (a b : ByteArray) : (a ++ b).data.toList = a.data.toList ++ b.data.toList := by rw [ByteArray.data_append, Array.toList_append]
theorem mk_of {s : ByteArray} {l : List UInt8} (h : s.data.toList = l) : s = ⟨l.toArray⟩ := by
  subst h; rfl
theorem size_of {s : ByteArray} {l : List UInt8} (h : s.data.toList = l) : s.size = l.length := by
  subst h; simp
end Go.Proofs.YtheholgdfmipbaaDoor
