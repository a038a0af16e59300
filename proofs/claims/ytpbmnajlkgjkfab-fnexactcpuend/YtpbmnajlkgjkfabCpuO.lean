/- A Cpu out of an argument's reading (written by wip/mkshape.py). -/
import Derived.Test.YtpbmnajlkgjkfabCpuD
import Derived.Test.YtpbmnajlkgjkfabOpenTree
import Derived.Test.YtpbmnajlkgjkfabIntSO
namespace Go.Proofs.Ytpbmnajlkgjkfab
open Go.ChangeShapes Go.WideShapes Go.ChangeAt Go.RowKit
structure CpTy (P : Program) (tI tB tZ tIntS tIntSs tCpu : TypeId) : Prop where
  e : ∃ fs, P.underlying tCpu = some (.struct fs) ∧ fs.toList.map (fun f => (f.type, f.offset)) = [(tI, 0), (tZ, 1), (tZ, 2), (tIntSs, 3), (tZ, 4), (tZ, 5), (tI, 6), (tB, 7), (tI, 8)]
  ce : P.cellsOf tCpu = 9
  i : P.underlying tI = some (.int .i64)
  ci : P.cellsOf tI = 1
  bo : P.underlying tB = some .bool
  cb : P.cellsOf tB = 1
  z : P.underlying tZ = some (.slice tI)
  cz : P.cellsOf tZ = 1
  xIntS : RwTy P tI tZ tIntS
  lIntS : P.underlying tIntSs = some (.slice tIntS)
  clIntS : P.cellsOf tIntSs = 1
section
variable {H : Type} {enc : TypeId × Value → H} {P : Program} {W : World} {sp : Nat → Bool} {held : Bool}
theorem open_Cp {tI tB tZ tIntS tIntSs tCpu : TypeId} (T : CpTy P tI tB tZ tIntS tIntSs tCpu) {fuel : Nat} {cs : List Value} {x : DataW H × List MemPlace} (h : DataW.trod enc P W 0 sp held fuel tCpu cs = some x) : ∃ p, CpIs W 0 cs.toArray p := by
  obtain ⟨fs, hfs, hmap⟩ := T.e
  obtain ⟨xs, n, rfl, _, hlen, hxl, hfld⟩ := DataW.trod_struct hfs h
  rw [T.ce] at hlen
  have hsize : fs.size = 9 := by have := congrArg List.length hmap; simpa using this
  have fld : ∀ i t o, ([(tI, 0), (tZ, 1), (tZ, 2), (tIntSs, 3), (tZ, 4), (tZ, 5), (tI, 6), (tB, 7), (tI, 8)] : List (TypeId × Nat))[i]? = some (t, o) → P.cellsOf t = 1 → ∃ y, DataW.trod enc P W 0 sp held n t ((cs.drop o).take 1) = some y := fun i t o hi hc => by
    obtain ⟨f, h1, rfl, rfl⟩ := field_at hmap i hi
    have hlt : i < 9 := by
      rcases Nat.lt_or_ge i 9 with h' | h'
      · exact h'
      · rw [Array.getElem?_eq_none (by omega)] at h1; cases h1
    have h2 := hfld i f h1
    rw [hc, List.getElem?_eq_getElem (by omega)] at h2
    exact ⟨_, h2⟩
  match cs, hlen with
  | [c0, c1, c2, c3, c4, c5, c6, c7, c8], _ =>
    obtain ⟨y0, h0⟩ := fld 0 tI 0 rfl T.ci
    obtain ⟨y1, h1⟩ := fld 1 tZ 1 rfl T.cz
    obtain ⟨y2, h2⟩ := fld 2 tZ 2 rfl T.cz
    obtain ⟨y3, h3⟩ := fld 3 tIntSs 3 rfl T.clIntS
    obtain ⟨y4, h4⟩ := fld 4 tZ 4 rfl T.cz
    obtain ⟨y5, h5⟩ := fld 5 tZ 5 rfl T.cz
    obtain ⟨y6, h6⟩ := fld 6 tI 6 rfl T.ci
    obtain ⟨y7, h7⟩ := fld 7 tB 7 rfl T.cb
    obtain ⟨y8, h8⟩ := fld 8 tI 8 rfl T.ci
    obtain ⟨pos, e0, _, z0⟩ := DataW.trod_int T.i h0
    obtain ⟨uregs, kregs, regs, e1, z1⟩ := open_nums T.z T.i T.ci h1
    obtain ⟨uslots, kslots, slots, e2, z2⟩ := open_nums T.z T.i T.ci h2
    obtain ⟨umem, kmem, mem, e3, z3⟩ := open_Rws T.xIntS T.lIntS h3
    obtain ⟨uinput, kinput, input, e4, z4⟩ := open_nums T.z T.i T.ci h4
    obtain ⟨uout, kout, out, e5, z5⟩ := open_nums T.z T.i T.ci h5
    obtain ⟨code, e6, _, z6⟩ := DataW.trod_int T.i h6
    obtain ⟨over, e7, _⟩ := DataW.trod_bool T.bo h7
    obtain ⟨val, e8, _, z8⟩ := DataW.trod_int T.i h8
    simp at e0 e1 e2 e3 e4 e5 e6 e7 e8
    subst e0 e1 e2 e3 e4 e5 e6 e7 e8
    exact ⟨⟨pos, regs, slots, mem, input, out, code, over, val⟩, _, _, _, _, _, _, _, _, _, _, rfl, ⟨i64_of z0, i64_of z6, i64_of z8⟩, z1, z2, z3, z4, z5⟩
end
end Go.Proofs.Ytpbmnajlkgjkfab
