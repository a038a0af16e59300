/- Lists of texts in memory; worlds that differ in one block. -/
import Derived.Test.YtjgiohhfhncepaaDoorBelow0
namespace Go.Proofs.YtjgiohhfhncepaaDoor
open Go.RowKit
/-- The slice begins at the head of block b and holds the texts ss. -/
def StrsAt (w : World) (b : Nat) (ss : List ByteArray) : Prop := ∀ (i : Nat) (h : i < ss.length), w.cell? ⟨b, i, none⟩ = some (.string ss[i])
theorem StrsAt.below {w w' : World} {b : Nat} {ss : List ByteArray} (h : StrsAt w b ss) (hb : b < w.heap.size) (bel : Below w.heap.size w w') : StrsAt w' b ss :=
  fun i hi => (bel.cell (p := ⟨b, i, none⟩) hb).trans (h i hi)

/-- w' is w but for block b and for blocks that are new. -/
structure But (b : Nat) (w w' : World) : Prop where
  os : w'.os = w.os
  tape : w'.tape = w.tape
  output : w'.output = w.output
  size : w.heap.size ≤ w'.heap.size
  block : ∀ k, k < w.heap.size → k ≠ b → w'.heap[k]? = w.heap[k]?
theorem But.refl (b : Nat) (w : World) : But b w w := ⟨rfl, rfl, rfl, Nat.le_refl _, fun _ _ _ => rfl⟩
theorem But.on {b : Nat} {w w1 w2 : World} (h : But b w w1) (k : Below w1.heap.size w1 w2) : But b w w2 :=
  ⟨k.os.trans h.os, k.tape.trans h.tape, k.output.trans h.output, Nat.le_trans h.size k.size, fun i hi hne => (k.block i (Nat.lt_of_lt_of_le hi h.size)).trans (h.block i hi hne)⟩
theorem But.set {b : Nat} {w w1 : World} (h : But b w w1) (i : Nat) (v : Value) : But b w (w1.setCell ⟨b, i, none⟩ v) :=
  ⟨h.os, h.tape, h.output, by simp [World.setCell]; exact h.size, fun k hk hne => (Below.heap_setCell w1 ⟨b, i, none⟩ v k hne).trans (h.block k hk hne)⟩
theorem But.cell {b : Nat} {w w' : World} (h : But b w w') {c i : Nat} (hc : c < w.heap.size) (hne : c ≠ b) : w'.cell? ⟨c, i, none⟩ = w.cell? ⟨c, i, none⟩ := World.cell?_of_block (w := w) (a := ⟨c, i, none⟩) (h.block c hc hne)
/-- Block b lies below B only where B is beyond it: what the calls make stands from B on. -/
theorem But.below {b B : Nat} {w w' : World} (h : But b w w') (hB : B ≤ b) (hw : B ≤ w.heap.size) : Below B w w' :=
  ⟨h.os, h.tape, h.output, h.size, fun k hk => h.block k (by omega) (by omega)⟩
end Go.Proofs.YtjgiohhfhncepaaDoor
