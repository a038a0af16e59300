/- A Graph out of an argument's reading (written by wip/mkshape.py). -/
import Derived.Test.YtdkdimklacblaakGraphD
import Derived.Test.YtdkdimklacblaakOpenTree
import Derived.Test.YtdkdimklacblaakBlockO
namespace Go.Proofs.Ytdkdimklacblaak
open Go.ChangeShapes Go.WideShapes Go.ChangeAt Go.RowKit
structure GrTy (P : Program) (tI tZ tS tInstr tInstrs tBlock tBlocks tGraph : TypeId) : Prop where
  e : ∃ fs, P.underlying tGraph = some (.struct fs) ∧ fs.toList.map (fun f => (f.type, f.offset)) = [(tZ, 0), (tI, 1), (tI, 2), (tI, 3), (tBlocks, 4)]
  ce : P.cellsOf tGraph = 5
  i : P.underlying tI = some (.int .i64)
  ci : P.cellsOf tI = 1
  z : P.underlying tZ = some (.slice tI)
  cz : P.cellsOf tZ = 1
  xBlock : BlkTy P tI tS tInstr tInstrs tBlock
  lBlock : P.underlying tBlocks = some (.slice tBlock)
  clBlock : P.cellsOf tBlocks = 1
section
variable {H : Type} {enc : TypeId × Value → H} {P : Program} {W : World} {sp : Nat → Bool} {held : Bool}
theorem open_Gr {tI tZ tS tInstr tInstrs tBlock tBlocks tGraph : TypeId} (T : GrTy P tI tZ tS tInstr tInstrs tBlock tBlocks tGraph) {fuel : Nat} {cs : List Value} {x : DataW H × List MemPlace} (h : DataW.trod enc P W 0 sp held fuel tGraph cs = some x) : ∃ p, GrIs W 0 cs.toArray p := by
  obtain ⟨fs, hfs, hmap⟩ := T.e
  obtain ⟨xs, n, rfl, _, hlen, hxl, hfld⟩ := DataW.trod_struct hfs h
  rw [T.ce] at hlen
  have hsize : fs.size = 5 := by have := congrArg List.length hmap; simpa using this
  have fld : ∀ i t o, ([(tZ, 0), (tI, 1), (tI, 2), (tI, 3), (tBlocks, 4)] : List (TypeId × Nat))[i]? = some (t, o) → P.cellsOf t = 1 → ∃ y, DataW.trod enc P W 0 sp held n t ((cs.drop o).take 1) = some y := fun i t o hi hc => by
    obtain ⟨f, h1, rfl, rfl⟩ := field_at hmap i hi
    have hlt : i < 5 := by
      rcases Nat.lt_or_ge i 5 with h' | h'
      · exact h'
      · rw [Array.getElem?_eq_none (by omega)] at h1; cases h1
    have h2 := hfld i f h1
    rw [hc, List.getElem?_eq_getElem (by omega)] at h2
    exact ⟨_, h2⟩
  match cs, hlen with
  | [c0, c1, c2, c3, c4], _ =>
    obtain ⟨y0, h0⟩ := fld 0 tZ 0 rfl T.cz
    obtain ⟨y1, h1⟩ := fld 1 tI 1 rfl T.ci
    obtain ⟨y2, h2⟩ := fld 2 tI 2 rfl T.ci
    obtain ⟨y3, h3⟩ := fld 3 tI 3 rfl T.ci
    obtain ⟨y4, h4⟩ := fld 4 tBlocks 4 rfl T.clBlock
    obtain ⟨usizes, ksizes, sizes, e0, z0⟩ := open_nums T.z T.i T.ci h0
    obtain ⟨params, e1, _, z1⟩ := DataW.trod_int T.i h1
    obtain ⟨vars, e2, _, z2⟩ := DataW.trod_int T.i h2
    obtain ⟨slots, e3, _, z3⟩ := DataW.trod_int T.i h3
    obtain ⟨ublocks, kblocks, blocks, e4, z4⟩ := open_Blks T.xBlock T.lBlock h4
    simp at e0 e1 e2 e3 e4
    subst e0 e1 e2 e3 e4
    exact ⟨⟨sizes, params, vars, slots, blocks⟩, _, _, _, _, rfl, ⟨i64_of z1, i64_of z2, i64_of z3⟩, z0, z4⟩
end
end Go.Proofs.Ytdkdimklacblaak
