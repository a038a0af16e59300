/- A Word out of an argument's reading (written by wip/mkshape.py). -/
import Derived.Test.YtheholgdfmipbaaDoorWordD
import Derived.Test.YtheholgdfmipbaaDoorOpenTree
namespace Go.Proofs.YtheholgdfmipbaaDoor
open Go.ChangeShapes Go.WideShapes Go.ChangeAt Go.RowKit
structure WrdTy (P : Program) (tI tWord : TypeId) : Prop where
  e : ∃ fs, P.underlying tWord = some (.struct fs) ∧ fs.toList.map (fun f => (f.type, f.offset)) = [(tI, 0), (tI, 1), (tI, 2), (tI, 3), (tI, 4)]
  ce : P.cellsOf tWord = 5
  i : P.underlying tI = some (.int .i64)
  ci : P.cellsOf tI = 1
section
variable {H : Type} {enc : TypeId × Value → H} {P : Program} {W : World} {sp : Nat → Bool} {held : Bool}
theorem open_Wrd {tI tWord : TypeId} (T : WrdTy P tI tWord) {fuel : Nat} {cs : List Value} {x : DataW H × List MemPlace} (h : DataW.trod enc P W 0 sp held fuel tWord cs = some x) : ∃ p, WrdIs W 0 cs.toArray p := by
  obtain ⟨fs, hfs, hmap⟩ := T.e
  obtain ⟨xs, n, rfl, _, hlen, hxl, hfld⟩ := DataW.trod_struct hfs h
  rw [T.ce] at hlen
  have hsize : fs.size = 5 := by have := congrArg List.length hmap; simpa using this
  have fld : ∀ i t o, ([(tI, 0), (tI, 1), (tI, 2), (tI, 3), (tI, 4)] : List (TypeId × Nat))[i]? = some (t, o) → P.cellsOf t = 1 → ∃ y, DataW.trod enc P W 0 sp held n t ((cs.drop o).take 1) = some y := fun i t o hi hc => by
    obtain ⟨f, h1, rfl, rfl⟩ := field_at hmap i hi
    have hlt : i < 5 := by
      rcases Nat.lt_or_ge i 5 with h' | h'
      · exact h'
      · rw [Array.getElem?_eq_none (by omega)] at h1; cases h1
    have h2 := hfld i f h1
    rw [hc, List.getElem?_eq_getElem (by omega)] at h2
    exact ⟨_, h2⟩
  match cs, hlen with
  | [c0, c1, c2, c3, c4], _ =>
    obtain ⟨y0, h0⟩ := fld 0 tI 0 rfl T.ci
    obtain ⟨y1, h1⟩ := fld 1 tI 1 rfl T.ci
    obtain ⟨y2, h2⟩ := fld 2 tI 2 rfl T.ci
    obtain ⟨y3, h3⟩ := fld 3 tI 3 rfl T.ci
    obtain ⟨y4, h4⟩ := fld 4 tI 4 rfl T.ci
    obtain ⟨op, e0, _, z0⟩ := DataW.trod_int T.i h0
    obtain ⟨r, e1, _, z1⟩ := DataW.trod_int T.i h1
    obtain ⟨a, e2, _, z2⟩ := DataW.trod_int T.i h2
    obtain ⟨b, e3, _, z3⟩ := DataW.trod_int T.i h3
    obtain ⟨n, e4, _, z4⟩ := DataW.trod_int T.i h4
    simp at e0 e1 e2 e3 e4
    subst e0 e1 e2 e3 e4
    exact ⟨⟨op, r, a, b, n⟩, rfl, ⟨i64_of z0, i64_of z1, i64_of z2, i64_of z3, i64_of z4⟩⟩
theorem open_Wrds {tI tWord tWords : TypeId} (T : WrdTy P tI tWord) (hl : P.underlying tWords = some (.slice tWord)) {fuel : Nat} {cs : List Value} {x : DataW H × List MemPlace} (h : DataW.trod enc P W 0 sp held fuel tWords cs = some x) : ∃ a cap es, cs = [.slice a es.length cap] ∧ SlIs WrdIs 5 W 0 a es := by
  obtain ⟨a, len, cap, vs, e4, hle, hrow, hel⟩ := row_of hl T.ce (by omega) h
  obtain ⟨E, hE⟩ := Deep.choose_lt (α := Wrd) (n := len) (p := fun i e => WrdIs W 0 (vs i) e) (fun i hi => by
    obtain ⟨n', y, hn, hy⟩ := hel i hi
    simpa using open_Wrd T hy)
  refine ⟨a, cap, (List.range len).map E, by simpa using e4, by simpa using hle, vs, by simpa using hrow, fun i hi => ?_⟩
  have hi' : i < len := by simpa using hi
  simpa using hE i hi'
end
end Go.Proofs.YtheholgdfmipbaaDoor
