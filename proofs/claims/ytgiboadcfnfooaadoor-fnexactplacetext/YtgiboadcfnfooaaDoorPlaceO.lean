/- A Place out of an argument's reading, by itself. -/
import Derived.Test.YtgiboadcfnfooaaDoorOpenTree
import Derived.OpenShut
import Derived.WalkKit
import Derived.ProofKit
namespace Go.Proofs.YtgiboadcfnfooaaDoor
open Go.ChangeShapes Go.WideShapes Go.ChangeAt Go.RowKit
def I64 (n : Int) : Prop := -9223372036854775808 ≤ n ∧ n ≤ 9223372036854775807
theorem i64_of {n : Int} (h : (Lit.int .i64 n).wf = true) : I64 n := by
  have e1 : IntKind.i64.min = -9223372036854775808 := rfl
  have e2 : IntKind.i64.max = 9223372036854775807 := rfl
  simp only [Lit.wf, e1, e2] at h
  simpa [I64] using h
structure Plc where
  region : Int
  pi : Int
  pj : Int
  off : Int
def Plc.wf (x : Plc) : Prop := I64 x.region ∧ I64 x.pi ∧ I64 x.pj ∧ I64 x.off
def PlcIs (_w : World) (_B : Nat) (v : Array Value) (x : Plc) : Prop := v = #[.int .i64 x.region, .int .i64 x.pi, .int .i64 x.pj, .int .i64 x.off] ∧ x.wf
structure PlcTy (P : Program) (tI tPlace : TypeId) : Prop where
  e : ∃ fs, P.underlying tPlace = some (.struct fs) ∧ fs.toList.map (fun f => (f.type, f.offset)) = [(tI, 0), (tI, 1), (tI, 2), (tI, 3)]
  ce : P.cellsOf tPlace = 4
  i : P.underlying tI = some (.int .i64)
  ci : P.cellsOf tI = 1
section
variable {H : Type} {enc : TypeId × Value → H} {P : Program} {W : World} {sp : Nat → Bool} {held : Bool}
theorem open_Plc {tI tPlace : TypeId} (T : PlcTy P tI tPlace) {fuel : Nat} {cs : List Value} {x : DataW H × List MemPlace} (h : DataW.trod enc P W 0 sp held fuel tPlace cs = some x) : ∃ p, PlcIs W 0 cs.toArray p := by
  obtain ⟨fs, hfs, hmap⟩ := T.e
  obtain ⟨xs, n, rfl, _, hlen, hxl, hfld⟩ := DataW.trod_struct hfs h
  rw [T.ce] at hlen
  have hsize : fs.size = 4 := by have := congrArg List.length hmap; simpa using this
  have fld : ∀ i t o, ([(tI, 0), (tI, 1), (tI, 2), (tI, 3)] : List (TypeId × Nat))[i]? = some (t, o) → P.cellsOf t = 1 → ∃ y, DataW.trod enc P W 0 sp held n t ((cs.drop o).take 1) = some y := fun i t o hi hc => by
    obtain ⟨f, h1, rfl, rfl⟩ := field_at hmap i hi
    have hlt : i < 4 := by
      rcases Nat.lt_or_ge i 4 with h' | h'
      · exact h'
      · rw [Array.getElem?_eq_none (by omega)] at h1; cases h1
    have h2 := hfld i f h1
    rw [hc, List.getElem?_eq_getElem (by omega)] at h2
    exact ⟨_, h2⟩
  match cs, hlen with
  | [c0, c1, c2, c3], _ =>
    obtain ⟨y0, h0⟩ := fld 0 tI 0 rfl T.ci
    obtain ⟨y1, h1⟩ := fld 1 tI 1 rfl T.ci
    obtain ⟨y2, h2⟩ := fld 2 tI 2 rfl T.ci
    obtain ⟨y3, h3⟩ := fld 3 tI 3 rfl T.ci
    obtain ⟨region, e0, _, z0⟩ := DataW.trod_int T.i h0
    obtain ⟨pi, e1, _, z1⟩ := DataW.trod_int T.i h1
    obtain ⟨pj, e2, _, z2⟩ := DataW.trod_int T.i h2
    obtain ⟨off, e3, _, z3⟩ := DataW.trod_int T.i h3
    simp at e0 e1 e2 e3
    subst e0 e1 e2 e3
    exact ⟨⟨region, pi, pj, off⟩, rfl, ⟨i64_of z0, i64_of z1, i64_of z2, i64_of z3⟩⟩
end
end Go.Proofs.YtgiboadcfnfooaaDoor
