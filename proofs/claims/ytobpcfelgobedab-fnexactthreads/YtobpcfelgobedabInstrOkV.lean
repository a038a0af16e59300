/- What spec.InstrOk asks: whether a slot is there. -/
import Derived.Test.YtobpcfelgobedabInstrOk
namespace Go.Proofs.Ytobpcfelgobedab
open Go.ChangeShapes Go.WideShapes Go.ChangeAt Go.RowKit
theorem plOk_eq (R V n b : Int) : plOk R V n b = (vOk R n && (decide (b = -1) || vOk V b)) := rfl
theorem l01In_v (V n x : Int) (hx : x = V - 1) (w : World) :
    Calls Try.prog 30 #[.int .i64 n, .int .i64 0, .int .i64 x] w fun e w' => e = .returned (.bool (vOk V n)) ∧ w' = w := by
  subst hx
  have h : inB n 0 (V - 1) = vOk V n := by simp only [inB, vOk]; rw [Bool.eq_iff_iff]; simp; omega
  rw [← h]
  exact l01In_any _ _ _ _
theorem dz (z : Int) : (z == 0) = decide (z = 0) := by rw [Bool.eq_iff_iff]; simp
end Go.Proofs.Ytobpcfelgobedab
