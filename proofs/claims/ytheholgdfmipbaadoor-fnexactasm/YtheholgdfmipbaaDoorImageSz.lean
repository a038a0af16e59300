/- The contracts of szImage and szImageS (written by wip/mkshape.py). -/
import Derived.Test.YtheholgdfmipbaaDoorImageD
import Derived.Test.YtheholgdfmipbaaDoorWordSz
namespace Go.Proofs.YtheholgdfmipbaaDoor
open Go.ChangeShapes Go.WideShapes Go.ChangeAt Go.RowKit
set_option maxHeartbeats 1000000 in
theorem szImage_any (x : Img) (w : World) (B : Nat) (v : Array Value) (L : Nat) (h : ImgIs w B v x) (hL : L ≤ 1048576) :
    Calls Tryd.prog 9 #[.agg v, .int .i64 L] w fun en w' => en = .returned (.int .i64 (szR x.sz L)) ∧ Below w.heap.size w w' := by
  obtain ⟨sizes, params, slots, code⟩ := x
  obtain ⟨usizes, csizes, ucode, ccode, rfl, _, hsizes, hcode⟩ := h
  have hm := maxLen_lt
  simp only [Img.sz] at *
  have Hsizes := hideP hsizes
  have Hcode := hideP hcode
  clear hsizes hcode
  go_enter Tryd.func9, Tryd.ntmps9
  go_wp2_with fail
  refine (szIntS_any _ usizes sizes.length csizes (L) Hsizes.out.1 (by omega)).mono ?_
  rintro e1 w1 ⟨rfl, rfl⟩
  have hw1 := hideP ((Below.refl w.heap.size w).alloc (Nat.le_refl _) (.cells #[.slice usizes sizes.length csizes, .int .i64 params, .int .i64 slots, .slice ucode code.length ccode] 28))
  by_cases hs0 : sizes.length ≤ L
  · rw [szR_pos hs0]
    go_wp2_with fail
    refine (szWordS_any code _ B ucode ccode (L - sizes.length) (Hcode.out.stays WrdKeeps hw1.out) (by omega)).mono ?_
    rintro e2 w2 ⟨rfl, bel2⟩
    have hw2 := hideP (hw1.out.trans (bel2.mono (by first | exact hw1.out.size | (have := hw1.out.size; simp at this ⊢; omega))))
    clear bel2
    by_cases hs1 : slSz Wrd.sz code ≤ L - sizes.length
    · rw [szR_pos hs1]
      have HS0 := hideP hs0
      have HS1 := hideP hs1
      clear hs0 hs1
      go_wp2
      go_ret
      exact ⟨ret_int (by have := HS0.out; have := HS1.out; rw [szR_pos (show sizes.length + (slSz Wrd.sz code) ≤ L by omega)]; first | done | omega), hw2.out⟩
    · rw [szR_neg (by omega)]
      have E1 : Hid (szR (sizes.length + (slSz Wrd.sz code)) L = -1) := szR_neg (by omega)
      clear hs0 hs1
      go_wp2
      go_ret
      exact ⟨ret_int E1.out.symm, hw2.out⟩
  · rw [szR_neg (by omega)]
    have E1 : Hid (szR (sizes.length + (slSz Wrd.sz code)) L = -1) := szR_neg (by omega)
    clear hs0
    go_wp2
    go_ret
    exact ⟨ret_int E1.out.symm, hw1.out⟩
end Go.Proofs.YtheholgdfmipbaaDoor
