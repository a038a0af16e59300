/- A Fact out of an argument's reading (written by wip/mkshape.py). -/
import Derived.Test.YtjmclmbepnbeoaaDoorFactD
import Derived.Test.YtjmclmbepnbeoaaDoorOpenTree
namespace Go.Proofs.YtjmclmbepnbeoaaDoor
open Go.ChangeShapes Go.WideShapes Go.ChangeAt Go.RowKit
structure FctTy (P : Program) (tI tFact : TypeId) : Prop where
  e : ∃ fs, P.underlying tFact = some (.struct fs) ∧ fs.toList.map (fun f => (f.type, f.offset)) = [(tI, 0), (tI, 1)]
  ce : P.cellsOf tFact = 2
  i : P.underlying tI = some (.int .i64)
  ci : P.cellsOf tI = 1
section
variable {H : Type} {enc : TypeId × Value → H} {P : Program} {W : World} {sp : Nat → Bool} {held : Bool}
theorem open_Fct {tI tFact : TypeId} (T : FctTy P tI tFact) {fuel : Nat} {cs : List Value} {x : DataW H × List MemPlace} (h : DataW.trod enc P W 0 sp held fuel tFact cs = some x) : ∃ p, FctIs W 0 cs.toArray p := by
  obtain ⟨fs, hfs, hmap⟩ := T.e
  obtain ⟨xs, n, rfl, _, hlen, hxl, hfld⟩ := DataW.trod_struct hfs h
  rw [T.ce] at hlen
  have hsize : fs.size = 2 := by have := congrArg List.length hmap; simpa using this
  have fld : ∀ i t o, ([(tI, 0), (tI, 1)] : List (TypeId × Nat))[i]? = some (t, o) → P.cellsOf t = 1 → ∃ y, DataW.trod enc P W 0 sp held n t ((cs.drop o).take 1) = some y := fun i t o hi hc => by
    obtain ⟨f, h1, rfl, rfl⟩ := field_at hmap i hi
    have hlt : i < 2 := by
      rcases Nat.lt_or_ge i 2 with h' | h'
      · exact h'
      · rw [Array.getElem?_eq_none (by omega)] at h1; cases h1
    have h2 := hfld i f h1
    rw [hc, List.getElem?_eq_getElem (by omega)] at h2
    exact ⟨_, h2⟩
  match cs, hlen with
  | [c0, c1], _ =>
    obtain ⟨y0, h0⟩ := fld 0 tI 0 rfl T.ci
    obtain ⟨y1, h1⟩ := fld 1 tI 1 rfl T.ci
    obtain ⟨slot, e0, _, z0⟩ := DataW.trod_int T.i h0
    obtain ⟨val, e1, _, z1⟩ := DataW.trod_int T.i h1
    simp at e0 e1
    subst e0 e1
    exact ⟨⟨slot, val⟩, rfl, ⟨i64_of z0, i64_of z1⟩⟩
theorem open_Fcts {tI tFact tFacts : TypeId} (T : FctTy P tI tFact) (hl : P.underlying tFacts = some (.slice tFact)) {fuel : Nat} {cs : List Value} {x : DataW H × List MemPlace} (h : DataW.trod enc P W 0 sp held fuel tFacts cs = some x) : ∃ a cap es, cs = [.slice a es.length cap] ∧ SlIs FctIs 2 W 0 a es := by
  obtain ⟨a, len, cap, vs, e4, hle, hrow, hel⟩ := row_of hl T.ce (by omega) h
  obtain ⟨E, hE⟩ := Deep.choose_lt (α := Fct) (n := len) (p := fun i e => FctIs W 0 (vs i) e) (fun i hi => by
    obtain ⟨n', y, hn, hy⟩ := hel i hi
    simpa using open_Fct T hy)
  refine ⟨a, cap, (List.range len).map E, by simpa using e4, by simpa using hle, vs, by simpa using hrow, fun i hi => ?_⟩
  have hi' : i < len := by simpa using hi
  simpa using hE i hi'
end
end Go.Proofs.YtjmclmbepnbeoaaDoor
