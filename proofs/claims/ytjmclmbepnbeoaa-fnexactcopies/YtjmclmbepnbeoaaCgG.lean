/- A change of a graph: what is kept where a change writes its own memory alone. -/
import Derived.Test.YtjmclmbepnbeoaaChAll
namespace Go.Proofs.Ytjmclmbepnbeoaa
open Go.ChangeShapes Go.WideShapes Go.ChangeAt Go.RowKit
theorem ChI.keepB {Wb W W' : World} {gb SB tot : Nat} {vs : Nat → Array Value} {news : List Blk} {i : Nat} {L : List Ins} {D : Nat} (h : ChI Wb gb SB tot vs news i L W) (b : Below D W W') (hw : Wb.heap.size ≤ D) (hs : SB < D) (hg : gb < Wb.heap.size) : ChI Wb gb SB tot vs news i L W' := by
  obtain ⟨g, h1, h2⟩ := h
  refine ⟨g, h1.move ⟨b.os.trans h1.kp.os, b.tape.trans h1.kp.tape, b.output.trans h1.kp.output, Nat.le_trans h1.kp.size b.size, fun k hk hne => (b.block k (by omega)).trans (h1.kp.block k hk hne)⟩ (b.block gb (by omega)) (h1.st.blk (fun k hk _ => b.block k ?_)), h2⟩
  have e : SB = k := by simpa [Value.ownBlock] using hk
  omega
theorem codeAll_mapIdx {g : Nat → Blk → Blk} (h : ∀ i b, (g i b).code.length = b.code.length) : ∀ bs : List Blk, (codeAll (bs.mapIdx g)).length = (codeAll bs).length := by
  intro bs
  induction bs generalizing g with
  | nil => rfl
  | cons b bs ih =>
    have := ih (g := fun i => g (i + 1)) (fun i b => h (i + 1) b)
    unfold codeAll at this ⊢
    rw [List.mapIdx_cons, List.flatMap_cons, List.flatMap_cons, List.length_append, List.length_append, h 0 b, this]
end Go.Proofs.Ytjmclmbepnbeoaa
