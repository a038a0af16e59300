/- The contract of impl.InstrOk. -/
import Derived.Test.YtpkfbabgcinhhaaDoorInstrOk
namespace Go.Proofs.YtpkfbabgcinhhaaDoor
open Go.ChangeShapes Go.WideShapes Go.ChangeAt Go.RowKit
/-- A list of numbers written out. -/
theorem ints_lit (w : World) (zs : List Int) (cs : Array Value) (T : TypeId) (n : Nat) (hn : n = w.heap.size) (hcs : cs = (zs.map (Value.int .i64)).toArray) (hl : zs.length ≤ 1000) : IntsIs (w.alloc (.cells cs T)) 0 (some ⟨n, 0, none⟩) zs := by
  subst hcs hn
  have hm : 1000 ≤ maxLen := by unfold maxLen; decide
  refine ⟨by omega, Or.inr ⟨_, 0, rfl, Nat.zero_le _, by simp, fun h0 => absurd h0 (Nat.lt_irrefl _), fun i hi => ?_⟩⟩
  rw [Nat.zero_add, World.cell?_alloc_new]
  simp [hi]
end Go.Proofs.YtpkfbabgcinhhaaDoor
