/- A list of numbers out of an argument's reading: all are of 64 bits. -/
import Derived.Test.YtobpcfelgobedaaROAll
namespace Go.Proofs.YtobpcfelgobedaaR
open Go.ChangeShapes Go.WideShapes Go.ChangeAt Go.RowKit
section
variable {H : Type} {enc : TypeId × Value → H} {P : Program} {W : World} {sp : Nat → Bool} {held : Bool}
theorem open_numsI {tI tZ : TypeId} {fuel : Nat} {cs : List Value} {x : DataW H × List MemPlace} (hz : P.underlying tZ = some (.slice tI)) (hi : P.underlying tI = some (.int .i64)) (hc : P.cellsOf tI = 1) (h : DataW.trod enc P W 0 sp held fuel tZ cs = some x) :
    ∃ a cap zs, cs = [.slice a zs.length cap] ∧ IntsIs W 0 a zs ∧ ∀ z ∈ zs, I64 z := by
  obtain ⟨a, len, cap, vs, e4, hl, hrow, hel⟩ := row_of hz hc (by omega) h
  obtain ⟨Z, hZ⟩ := Deep.choose_lt (α := Int) (n := len) (p := fun i z => vs i = #[.int .i64 z] ∧ I64 z) (fun i hi' => by
    obtain ⟨n', y, hn, hy⟩ := hel i hi'
    obtain ⟨z, hz', _, hw⟩ := DataW.trod_int hi hy
    have hw2 : I64 z := by
      have := hw
      simp [Lit.wf] at this
      exact this
    exact ⟨z, Array.ext' hz', hw2⟩)
  refine ⟨a, cap, (List.range len).map Z, by simpa using e4, ⟨by simpa using hl, ?_⟩, fun z hz2 => ?_⟩
  · rcases hrow with h0 | ⟨b, o, ha, hB, hb, _, hcell⟩
    · exact Or.inl (by simpa using h0)
    · refine Or.inr ⟨b, o, ha, hB, hb, fun h0 => absurd h0 (Nat.lt_irrefl _), fun i hi' => ?_⟩
      have hi2 : i < len := by simpa using hi'
      have := (hcell i hi2).2 0 (by omega)
      rw [(hZ i hi2).1] at this
      simpa using this
  · obtain ⟨i, hi2, rfl⟩ := List.mem_map.1 hz2
    exact (hZ i (List.mem_range.1 hi2)).2
end
end Go.Proofs.YtobpcfelgobedaaR
