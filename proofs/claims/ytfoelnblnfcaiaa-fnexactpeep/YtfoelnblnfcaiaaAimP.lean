/- The words that jumps go to: as a list; the contracts of goes, l13Goes and of both Aims. -/
import Derived.Test.YtfoelnblnfcaiaaAimQ
import Derived.Test.YtfoelnblnfcaiaaAddO
namespace Go.Proofs.Ytfoelnblnfcaiaa
open Go.ChangeShapes Go.WideShapes Go.ChangeAt Go.RowKit
def goesW (x : Wrd) : Bool := x.op == 8 || x.op == 9
def goL (l : List Wrd) : List Int := (l.filter goesW).map Wrd.n
def aimsP (m : Img) : List Int := if imgOk m = true then addAll (goL m.code) else []
theorem goL_len (l : List Wrd) : (goL l).length ≤ l.length := by unfold goL; rw [List.length_map]; exact List.length_filter_le _ _
theorem goL_yes (l : List Wrd) (j : Nat) (h : j < l.length) (hg : goesW l[j] = true) : goL (l.take (j + 1)) = goL (l.take j) ++ [l[j].n] := by
  unfold goL; rw [List.take_succ_eq_append_getElem h, List.filter_append, List.map_append]; simp [hg]
theorem goL_no (l : List Wrd) (j : Nat) (h : j < l.length) (hg : goesW l[j] = false) : goL (l.take (j + 1)) = goL (l.take j) := by
  unfold goL; rw [List.take_succ_eq_append_getElem h, List.filter_append, List.map_append]; simp [hg]
theorem addAll_snoc (l : List Int) (n : Int) : addAll (l ++ [n]) = addTo (addAll l) n := by unfold addAll; rw [List.foldl_append]; rfl
theorem addTo_len (n : Int) : ∀ l : List Int, (addTo l n).length ≤ l.length + 1
  | [] => by simp [addTo]
  | x :: l => by
    have := addTo_len n l
    unfold addTo
    split
    · simp only [List.length_cons]; omega
    · split
      · simp only [List.length_cons]; omega
      · simp only [List.length_cons]; omega
theorem foldl_len : ∀ (xs l : List Int), (xs.foldl addTo l).length ≤ l.length + xs.length
  | [], l => by simp
  | x :: xs, l => by
    have h1 := foldl_len xs (addTo l x)
    have h2 := addTo_len x l
    simp only [List.foldl_cons, List.length_cons]
    omega
theorem addAll_len (xs : List Int) : (addAll xs).length ≤ xs.length := by have := foldl_len xs []; simpa [addAll] using this
theorem aimsP_len (m : Img) (h : m.code.length ≤ 3000000) : (aimsP m).length ≤ 3000000 := by
  unfold aimsP
  split
  · exact Nat.le_trans (addAll_len _) (Nat.le_trans (goL_len _) h)
  · simp
theorem goes_any (op r a b n : Int) (w : World) :
    Calls Try.prog 46 #[.agg #[.int .i64 op, .int .i64 r, .int .i64 a, .int .i64 b, .int .i64 n]] w fun e w' => e = .returned (.bool (goesW ⟨op, r, a, b, n⟩)) ∧ Below w.heap.size w w' := by
  by_cases h : op = 8
  · subst h
    go_enter Try.func46, Try.ntmps46
    go_wp2
    go_ret
    exact ⟨rfl, (Below.refl _ _).alloc (Nat.le_refl _) _⟩
  · have h8 : (op == 8) = false := by simpa using h
    go_enter Try.func46, Try.ntmps46
    go_wp2
    go_ret
    exact ⟨ret_bool (by unfold goesW; simp only; rw [h8]; rfl), (Below.refl _ _).alloc (Nat.le_refl _) _⟩
theorem l13Goes_any (op r a b n : Int) (w : World) :
    Calls Try.prog 37 #[.agg #[.int .i64 op, .int .i64 r, .int .i64 a, .int .i64 b, .int .i64 n]] w fun e w' => e = .returned (.bool (goesW ⟨op, r, a, b, n⟩)) ∧ Below w.heap.size w w' := by
  by_cases h : op = 8
  · subst h
    go_enter Try.func37, Try.ntmps37
    go_wp2
    go_ret
    exact ⟨rfl, (Below.refl _ _).alloc (Nat.le_refl _) _⟩
  · have h8 : (op == 8) = false := by simpa using h
    go_enter Try.func37, Try.ntmps37
    go_wp2
    go_ret
    exact ⟨ret_bool (by unfold goesW; simp only; rw [h8]; rfl), (Below.refl _ _).alloc (Nat.le_refl _) _⟩
end Go.Proofs.Ytfoelnblnfcaiaa
