/- spec.Peep's walk through the words: what lies where. -/
import Derived.Test.YtfoelnblnfcaiaaPeeP
import Derived.Test.YtfoelnblnfcaiaaCqI
import Derived.Test.YtfoelnblnfcaiaaRwT
import Derived.Test.YtfoelnblnfcaiaaSmWP
namespace Go.Proofs.Ytfoelnblnfcaiaa
open Go.ChangeShapes Go.WideShapes Go.ChangeAt Go.RowKit
def seenP (met : List Int) (i : Nat) : Bool := decide ((i : Int) ∈ met)
theorem seenP_set {w : World} {gs n : Nat} {met : List Int} (h : RowT w gs n (seenP met)) {i : Nat} (hi : i < n) : RowT (w.setCell ⟨gs, i, none⟩ (.bool true)) gs n (seenP (met ++ [(i : Int)])) :=
  h.set hi (fun j _ => by
    unfold seenP
    by_cases e : j = i
    · subst e; simp
    · rw [if_neg e, decide_eq_decide]; simp; omega)
theorem infoBP : (Try.prog.info? 4).map (fun i => (i.zero, i.size, i.bytes)) = some (some (.bool false), 1, 1) := by kernel_rfl
theorem make_boolsP (n : Nat) (hn : n ≤ 6000) (W : World) : (Instr.makeSlice 50 (.int .i64 (n : Int)) (.int .i64 (n : Int))).run Try.prog W = .ok (.slice (some ⟨W.heap.size, 0, none⟩) n n) (W.alloc (.cells (madeCells #[.bool false] n) 4)) := by
  have := make_n (P := Try.prog) Try.underlying50 infoBP n (by omega) (by omega) W
  rw [Nat.mul_one] at this
  exact this
theorem rowT_madeP (w : World) (n : Nat) : RowT (w.alloc (.cells (madeCells #[.bool false] n) 4)) w.heap.size n (seenP []) :=
  ⟨_, by show (w.heap.push _)[w.heap.size]? = _; exact Array.getElem?_push_size, by rw [size_madeCells]; exact Nat.le_refl _, fun i hi => by simp [madeCells, hi, Nat.mod_one, seenP]⟩
theorem RowT.but {w w' : World} {g n k : Nat} {f : Nat → Bool} (h : RowT w g n f) (b : But k w w') (hne : g ≠ k) : RowT w' g n f := h.keep (b.block _ h.lt hne)
theorem sd_zero {m : Img} (h : imgOk m = true) : ∀ x ∈ m.code, x.op = 2 → x.a = 0 ∧ x.b = 0 := fun x hx he => by
  unfold imgOk at h
  simp only [Bool.and_eq_true, List.all_eq_true] at h
  have hw := h.1.2 x hx
  obtain ⟨op, r, a, b, n⟩ := x
  simp only at he
  subst he
  rw [wrd_2] at hw
  simp only [Bool.and_eq_true, beq_iff_eq] at hw
  simp only
  omega
structure PsAt (w : World) (bm br bk : Array Value) (K D n : Nat) (f : Nat → Bool) (C gs cgs : Nat) (sizes : List Int) (wr : World) : Prop where
  box : wr.heap[K]? = some (.cells bk 30 (0, 0))
  row : RowT wr D n f
  szs : OwnI wr w.heap.size (.slice (some ⟨gs, 0, none⟩) sizes.length cgs) sizes
  bel : Below w.heap.size w wr
  inb : wr.heap[w.heap.size]? = some (.cells bm 30 (0, 0))
  out : wr.heap[w.heap.size + 1]? = some (.cells br 30 (0, 0))
  lo : gs < C ∧ gs < K ∧ K < D ∧ D < C ∧ w.heap.size + 1 < K ∧ w.heap.size + 1 < gs ∧ C ≤ wr.heap.size
section
variable {w : World} {bm br bk : Array Value} {K D n : Nat} {f : Nat → Bool} {C gs cgs : Nat} {sizes : List Int} {wr : World}
theorem PsAt.stays {W : World} (h : PsAt w bm br bk K D n f C gs cgs sizes wr) (b : Below wr.heap.size wr W) : PsAt w bm br bk K D n f C gs cgs sizes W :=
  ⟨keepC h.box b, h.row.stays b, h.szs.stays b, below_trans h.bel b, keepC h.inb b, keepC h.out b, by have := h.lo; have := b.size; omega⟩
theorem PsAt.but {W : World} {g : Nat} (h : PsAt w bm br bk K D n f C gs cgs sizes wr) (b : But g wr W) (hg : C ≤ g) : PsAt w bm br bk K D n f C gs cgs sizes W := by
  have lo := h.lo
  have := b.size
  exact ⟨keepG h.box b (by omega), h.row.but b (by omega), h.szs.butG b (by simp [Value.ownBlock]; omega), h.bel.trans (b.below (by omega) h.bel.size), keepG h.inb b (by omega), keepG h.out b (by omega), by omega⟩
theorem PsAt.mark {i : Nat} {met : List Int} (h : PsAt w bm br bk K D n (seenP met) C gs cgs sizes wr) (hi : i < n) : PsAt w bm br bk K D n (seenP (met ++ [(i : Int)])) C gs cgs sizes (wr.setCell ⟨D, i, none⟩ (.bool true)) := by
  have lo := h.lo
  have b : But D wr (wr.setCell ⟨D, i, none⟩ (.bool true)) := (But.refl _ _).set _ _
  have := b.size
  exact ⟨keepG h.box b (by omega), seenP_set h.row hi, h.szs.butG b (by simp [Value.ownBlock]; omega), h.bel.trans (b.below (by omega) h.bel.size), keepG h.inb b (by omega), keepG h.out b (by omega), by omega⟩
end
end Go.Proofs.Ytfoelnblnfcaiaa
