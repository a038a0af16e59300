/- An Image out of an argument's reading (written by wip/mkshape.py). -/
import Derived.Test.YtheholgdfmipbaaDoorImageD
import Derived.Test.YtheholgdfmipbaaDoorOpenTree
import Derived.Test.YtheholgdfmipbaaDoorWordO
namespace Go.Proofs.YtheholgdfmipbaaDoor
open Go.ChangeShapes Go.WideShapes Go.ChangeAt Go.RowKit
structure ImgTy (P : Program) (tI tZ tWord tWords tImage : TypeId) : Prop where
  e : ∃ fs, P.underlying tImage = some (.struct fs) ∧ fs.toList.map (fun f => (f.type, f.offset)) = [(tZ, 0), (tI, 1), (tI, 2), (tWords, 3)]
  ce : P.cellsOf tImage = 4
  i : P.underlying tI = some (.int .i64)
  ci : P.cellsOf tI = 1
  z : P.underlying tZ = some (.slice tI)
  cz : P.cellsOf tZ = 1
  xWord : WrdTy P tI tWord
  lWord : P.underlying tWords = some (.slice tWord)
  clWord : P.cellsOf tWords = 1
section
variable {H : Type} {enc : TypeId × Value → H} {P : Program} {W : World} {sp : Nat → Bool} {held : Bool}
theorem open_Img {tI tZ tWord tWords tImage : TypeId} (T : ImgTy P tI tZ tWord tWords tImage) {fuel : Nat} {cs : List Value} {x : DataW H × List MemPlace} (h : DataW.trod enc P W 0 sp held fuel tImage cs = some x) : ∃ p, ImgIs W 0 cs.toArray p := by
  obtain ⟨fs, hfs, hmap⟩ := T.e
  obtain ⟨xs, n, rfl, _, hlen, hxl, hfld⟩ := DataW.trod_struct hfs h
  rw [T.ce] at hlen
  have hsize : fs.size = 4 := by have := congrArg List.length hmap; simpa using this
  have fld : ∀ i t o, ([(tZ, 0), (tI, 1), (tI, 2), (tWords, 3)] : List (TypeId × Nat))[i]? = some (t, o) → P.cellsOf t = 1 → ∃ y, DataW.trod enc P W 0 sp held n t ((cs.drop o).take 1) = some y := fun i t o hi hc => by
    obtain ⟨f, h1, rfl, rfl⟩ := field_at hmap i hi
    have hlt : i < 4 := by
      rcases Nat.lt_or_ge i 4 with h' | h'
      · exact h'
      · rw [Array.getElem?_eq_none (by omega)] at h1; cases h1
    have h2 := hfld i f h1
    rw [hc, List.getElem?_eq_getElem (by omega)] at h2
    exact ⟨_, h2⟩
  match cs, hlen with
  | [c0, c1, c2, c3], _ =>
    obtain ⟨y0, h0⟩ := fld 0 tZ 0 rfl T.cz
    obtain ⟨y1, h1⟩ := fld 1 tI 1 rfl T.ci
    obtain ⟨y2, h2⟩ := fld 2 tI 2 rfl T.ci
    obtain ⟨y3, h3⟩ := fld 3 tWords 3 rfl T.clWord
    obtain ⟨usizes, ksizes, sizes, e0, z0⟩ := open_nums T.z T.i T.ci h0
    obtain ⟨params, e1, _, z1⟩ := DataW.trod_int T.i h1
    obtain ⟨slots, e2, _, z2⟩ := DataW.trod_int T.i h2
    obtain ⟨ucode, kcode, code, e3, z3⟩ := open_Wrds T.xWord T.lWord h3
    simp at e0 e1 e2 e3
    subst e0 e1 e2 e3
    exact ⟨⟨sizes, params, slots, code⟩, _, _, _, _, rfl, ⟨i64_of z1, i64_of z2⟩, z0, z3⟩
end
end Go.Proofs.YtheholgdfmipbaaDoor
