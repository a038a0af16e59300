/- Lists of numbers told by their elements one by one. -/
import Derived.Test.YtdkdimklacblaahRows
import Derived.Test.YtdkdimklacblaahPlain
import Derived.Test.YtdkdimklacblaahTree
import Derived.WalkKit
import Derived.ProofKit
namespace Go.Proofs.Ytdkdimklacblaah
open Go.ChangeShapes Go.WideShapes Go.ChangeAt Go.RowKit
theorem maxLen_lt3 : maxLen ≤ 9223372036854775807 := by unfold maxLen; decide
/-- Two lists, told by their elements one by one. -/
def IntsGet (w : World) (a : Option Addr) (zs : List Int) : Prop := zs.length ≤ maxLen ∧ (zs.length = 0 ∨ ∃ b o, a = some ⟨b, o, none⟩ ∧ ∀ (i : Nat) (h : i < zs.length), w.cell? ⟨b, o + i, none⟩ = some (.int .i64 zs[i]))
theorem IntsIs.sees {w : World} {B : Nat} {a : Option Addr} {zs : List Int} (h : IntsIs w B a zs) : IntsGet w a zs := by
  refine ⟨h.1, ?_⟩
  rcases h.2 with h0 | ⟨b, o, ha, _, _, _, hc⟩
  · exact Or.inl h0
  · exact Or.inr ⟨b, o, ha, hc⟩
theorem IntsGet.take {w : World} {a : Option Addr} {zs : List Int} (h : IntsGet w a zs) (n : Nat) (hn : n ≤ zs.length) : IntsGet w a (zs.take n) := by
  have hl : (zs.take n).length = n := by rw [List.length_take]; omega
  refine ⟨by have := h.1; omega, ?_⟩
  rcases h.2 with h0 | ⟨b, o, ha, hc⟩
  · exact Or.inl (by omega)
  · refine Or.inr ⟨b, o, ha, fun i hi => ?_⟩
    rw [List.getElem_take]; exact hc i (by omega)
theorem IntsGet.cellsame {w w' : World} {a : Option Addr} {zs : List Int} (h : IntsGet w a zs) (hc : ∀ p, w'.cell? p = w.cell? p) : IntsGet w' a zs := by
  refine ⟨h.1, ?_⟩
  rcases h.2 with h0 | ⟨b, o, ha, hg⟩
  · exact Or.inl h0
  · exact Or.inr ⟨b, o, ha, fun i hi => (hc _).trans (hg i hi)⟩
theorem IntsGet.get {w : World} {a : Option Addr} {zs : List Int} (h : IntsGet w a zs) (i : Nat) (hi : i < zs.length) : ∃ b o, a = some ⟨b, o, none⟩ ∧ w.cell? ⟨b, o + i, none⟩ = some (.int .i64 zs[i]) := by
  rcases h.2 with h0 | ⟨b, o, ha, hc⟩
  · omega
  · exact ⟨b, o, ha, hc i hi⟩
theorem beq_at {xs ys : List Int} {j : Nat} (h : j < xs.length) (h' : j < ys.length) (hne : xs[j] ≠ ys[j]) : (xs == ys) = false := by
  rw [beq_eq_false_iff_ne]; rintro rfl; exact hne rfl
theorem beq_len {xs ys : List Int} (h : xs.length ≠ ys.length) : (xs == ys) = false := by
  rw [beq_eq_false_iff_ne]; rintro rfl; exact h rfl
theorem beq_same {xs ys : List Int} (h : xs.length = ys.length) (hs : ∀ i (hi : i < xs.length) (hi' : i < ys.length), xs[i] = ys[i]) : (xs == ys) = true := by
  rw [beq_iff_eq]; exact List.ext_getElem h hs

end Go.Proofs.Ytdkdimklacblaah
