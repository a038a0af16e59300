/- A Block out of an argument's reading (written by wip/mkshape.py). -/
import Derived.Test.YtdkdimklacblaakBlockD
import Derived.Test.YtdkdimklacblaakOpenTree
import Derived.Test.YtdkdimklacblaakInstrO
namespace Go.Proofs.Ytdkdimklacblaak
open Go.ChangeShapes Go.WideShapes Go.ChangeAt Go.RowKit
structure BlkTy (P : Program) (tI tS tInstr tInstrs tBlock : TypeId) : Prop where
  e : ∃ fs, P.underlying tBlock = some (.struct fs) ∧ fs.toList.map (fun f => (f.type, f.offset)) = [(tInstrs, 0), (tI, 1), (tI, 2), (tI, 3), (tI, 4)]
  ce : P.cellsOf tBlock = 5
  i : P.underlying tI = some (.int .i64)
  ci : P.cellsOf tI = 1
  xInstr : InsTy P tI tS tInstr
  lInstr : P.underlying tInstrs = some (.slice tInstr)
  clInstr : P.cellsOf tInstrs = 1
section
variable {H : Type} {enc : TypeId × Value → H} {P : Program} {W : World} {sp : Nat → Bool} {held : Bool}
theorem open_Blk {tI tS tInstr tInstrs tBlock : TypeId} (T : BlkTy P tI tS tInstr tInstrs tBlock) {fuel : Nat} {cs : List Value} {x : DataW H × List MemPlace} (h : DataW.trod enc P W 0 sp held fuel tBlock cs = some x) : ∃ p, BlkIs W 0 cs.toArray p := by
  obtain ⟨fs, hfs, hmap⟩ := T.e
  obtain ⟨xs, n, rfl, _, hlen, hxl, hfld⟩ := DataW.trod_struct hfs h
  rw [T.ce] at hlen
  have hsize : fs.size = 5 := by have := congrArg List.length hmap; simpa using this
  have fld : ∀ i t o, ([(tInstrs, 0), (tI, 1), (tI, 2), (tI, 3), (tI, 4)] : List (TypeId × Nat))[i]? = some (t, o) → P.cellsOf t = 1 → ∃ y, DataW.trod enc P W 0 sp held n t ((cs.drop o).take 1) = some y := fun i t o hi hc => by
    obtain ⟨f, h1, rfl, rfl⟩ := field_at hmap i hi
    have hlt : i < 5 := by
      rcases Nat.lt_or_ge i 5 with h' | h'
      · exact h'
      · rw [Array.getElem?_eq_none (by omega)] at h1; cases h1
    have h2 := hfld i f h1
    rw [hc, List.getElem?_eq_getElem (by omega)] at h2
    exact ⟨_, h2⟩
  match cs, hlen with
  | [c0, c1, c2, c3, c4], _ =>
    obtain ⟨y0, h0⟩ := fld 0 tInstrs 0 rfl T.clInstr
    obtain ⟨y1, h1⟩ := fld 1 tI 1 rfl T.ci
    obtain ⟨y2, h2⟩ := fld 2 tI 2 rfl T.ci
    obtain ⟨y3, h3⟩ := fld 3 tI 3 rfl T.ci
    obtain ⟨y4, h4⟩ := fld 4 tI 4 rfl T.ci
    obtain ⟨ucode, kcode, code, e0, z0⟩ := open_Inss T.xInstr T.lInstr h0
    obtain ⟨jump, e1, _, z1⟩ := DataW.trod_int T.i h1
    obtain ⟨a, e2, _, z2⟩ := DataW.trod_int T.i h2
    obtain ⟨to, e3, _, z3⟩ := DataW.trod_int T.i h3
    obtain ⟨els, e4, _, z4⟩ := DataW.trod_int T.i h4
    simp at e0 e1 e2 e3 e4
    subst e0 e1 e2 e3 e4
    exact ⟨⟨code, jump, a, to, els⟩, _, _, rfl, ⟨i64_of z1, i64_of z2, i64_of z3, i64_of z4⟩, z0⟩
theorem open_Blks {tI tS tInstr tInstrs tBlock tBlocks : TypeId} (T : BlkTy P tI tS tInstr tInstrs tBlock) (hl : P.underlying tBlocks = some (.slice tBlock)) {fuel : Nat} {cs : List Value} {x : DataW H × List MemPlace} (h : DataW.trod enc P W 0 sp held fuel tBlocks cs = some x) : ∃ a cap es, cs = [.slice a es.length cap] ∧ SlIs BlkIs 5 W 0 a es := by
  obtain ⟨a, len, cap, vs, e4, hle, hrow, hel⟩ := row_of hl T.ce (by omega) h
  obtain ⟨E, hE⟩ := Deep.choose_lt (α := Blk) (n := len) (p := fun i e => BlkIs W 0 (vs i) e) (fun i hi => by
    obtain ⟨n', y, hn, hy⟩ := hel i hi
    simpa using open_Blk T hy)
  refine ⟨a, cap, (List.range len).map E, by simpa using e4, by simpa using hle, vs, by simpa using hrow, fun i hi => ?_⟩
  have hi' : i < len := by simpa using hi
  simpa using hE i hi'
end
end Go.Proofs.Ytdkdimklacblaak
