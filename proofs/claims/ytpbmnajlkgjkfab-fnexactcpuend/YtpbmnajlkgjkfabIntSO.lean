/- A list of lists of numbers out of an argument's reading. -/
import Derived.Test.YtpbmnajlkgjkfabIntSD
import Derived.Test.YtpbmnajlkgjkfabOpenTree
namespace Go.Proofs.Ytpbmnajlkgjkfab
open Go.ChangeShapes Go.WideShapes Go.ChangeAt Go.RowKit
structure RwTy (P : Program) (tI tZ tIntS : TypeId) : Prop where
  i : P.underlying tI = some (.int .i64)
  ci : P.cellsOf tI = 1
  z : P.underlying tZ = some (.slice tI)
  r : P.underlying tIntS = some (.slice tI)
  cr : P.cellsOf tIntS = 1
section
variable {H : Type} {enc : TypeId × Value → H} {P : Program} {W : World} {sp : Nat → Bool} {held : Bool}
theorem open_Rws {tI tZ tIntS tIntSs : TypeId} (T : RwTy P tI tZ tIntS) (hl : P.underlying tIntSs = some (.slice tIntS)) {fuel : Nat} {cs : List Value} {x : DataW H × List MemPlace} (h : DataW.trod enc P W 0 sp held fuel tIntSs cs = some x) : ∃ a cap es, cs = [.slice a (List.length es) cap] ∧ SlIs RwIs 1 W 0 a es := by
  obtain ⟨a, len, cap, vs, e4, hle, hrow, hel⟩ := row_of hl T.cr (by omega) h
  obtain ⟨E, hE⟩ := Deep.choose_lt (α := Rw) (n := len) (p := fun i e => RwIs W 0 (vs i) e) (fun i hi => by
    obtain ⟨n', y, hn, hy⟩ := hel i hi
    obtain ⟨u, c, zs, e0, hz⟩ := open_nums T.r T.i T.ci hy
    exact ⟨zs, u, c, Array.ext' e0, hz⟩)
  refine ⟨a, cap, (List.range len).map E, by simpa using e4, by simpa using hle, vs, by simpa using hrow, fun i hi => ?_⟩
  have hi' : i < len := by simpa using hi
  simpa using hE i hi'
end
end Go.Proofs.Ytpbmnajlkgjkfab
