/- The contract of spec.l02Add over lists that a call owns: what it wants. -/
import Derived.Test.YtfoelnblnfcaiaaAddPlain
import Derived.Test.YtfoelnblnfcaiaaOwnIntL
import Derived.Deep.RegionHeld3
import Derived.WalkSpells
import Derived.WalkLawsBesides
namespace Go.Proofs.Ytfoelnblnfcaiaa
open Go.ChangeShapes Go.WideShapes Go.ChangeAt Go.RowKit
theorem low1 {w : World} {B : Nat} {v : Value} {l : List Int} (h : OwnI w B v l) : ∀ b, v.ownBlock = some b → B ≤ b := fun b hb => (h.low b hb).1
theorem bel_drew (w : World) : Below w.heap.size w w.drew := (Below.refl _ _).drew
theorem own0 (w : World) : OwnI (w.alloc (.cells #[] 3)) w.heap.size (.slice (some ⟨w.heap.size, 0, none⟩) 0 0) [] := own_lit w [] _ _ _ rfl rfl rfl (by simp)
theorem own1 (w : World) (n : Int) : OwnI (w.alloc (.cells #[.int .i64 n] 3)) w.heap.size (.slice (some ⟨w.heap.size, 0, none⟩) 1 1) [n] := own_lit w [n] _ _ _ rfl rfl rfl (by simp)
/-- The three orders in which the two literals may be laid ahead of the first append. -/
theorem own0a (w : World) : OwnI (w.alloc (.cells #[] 3)).drew w.heap.size (.slice (some ⟨w.heap.size, 0, none⟩) 0 0) [] := (own0 w).stays (bel_drew _)
theorem own0b (w : World) (n : Int) : OwnI ((w.alloc (.cells #[] 3)).alloc (.cells #[.int .i64 n] 3)).drew w.heap.size (.slice (some ⟨w.heap.size, 0, none⟩) 0 0) [] := ((own0 w).stays ((Below.refl _ _).alloc (Nat.le_refl _) _)).stays (bel_drew _)
theorem own0c (w : World) (n : Int) : OwnI ((w.alloc (.cells #[.int .i64 n] 3)).alloc (.cells #[] 3)).drew w.heap.size (.slice (some ⟨w.heap.size + 1, 0, none⟩) 0 0) [] := by
  have h := ((own0 (w.alloc (.cells #[.int .i64 n] 3))).stays (bel_drew _)).mono (B' := w.heap.size) (by simp)
  simpa using h
theorem own1b (w : World) (n : Int) : OwnI ((w.alloc (.cells #[] 3)).alloc (.cells #[.int .i64 n] 3)).drew w.heap.size (.slice (some ⟨w.heap.size + 1, 0, none⟩) 1 1) [n] := by
  have h := ((own1 (w.alloc (.cells #[] 3)) n).stays (bel_drew _)).mono (B' := w.heap.size) (by simp)
  simpa using h
theorem own1c (w : World) (n : Int) : OwnI ((w.alloc (.cells #[.int .i64 n] 3)).alloc (.cells #[] 3)).drew w.heap.size (.slice (some ⟨w.heap.size, 0, none⟩) 1 1) [n] := ((own1 w n).stays ((Below.refl _ _).alloc (Nat.le_refl _) _)).stays (bel_drew _)
theorem get_at {w X : World} {b o : Nat} {xs : List Int} (h : IntsGet w (some ⟨b, o, none⟩) xs) (bel : Below w.heap.size w X) : ∀ j (hj : j < xs.length), X.cell? ⟨b, o + j, none⟩ = some (.int .i64 xs[j]) := by
  intro j hj
  obtain ⟨b', o', he, hc⟩ := h.get j hj
  cases he
  exact (bel.cell (p := ⟨b, o + j, none⟩) (World.block_lt_of_cell? w _ hc)).trans hc
end Go.Proofs.Ytfoelnblnfcaiaa
