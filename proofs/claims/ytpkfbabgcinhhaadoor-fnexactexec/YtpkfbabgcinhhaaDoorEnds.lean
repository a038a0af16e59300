/- Ends (Code, Val, Out) as they lie in memory; the contracts of szEnd, toEnd, eqEnd. -/
import Derived.Test.YtpkfbabgcinhhaaDoorCkA
import Derived.Test.YtpkfbabgcinhhaaDoorCkP
namespace Go.Proofs.YtpkfbabgcinhhaaDoor
open Go.ChangeShapes Go.WideShapes Go.ChangeAt Go.RowKit

structure En where
  code : Int
  val : Int
  out : List Int
/-- These three cells are the end. -/
def EnIs (w : World) (B : Nat) (v : Array Value) (e : En) : Prop := ∃ a cap, v = #[.int .i64 e.code, .int .i64 e.val, .slice a e.out.length cap] ∧ IntsIs w B a e.out
theorem EnIs.stays {w w' : World} {B : Nat} {v : Array Value} {e : En} (h : EnIs w B v e) (bel : Below w.heap.size w w') : EnIs w' B v e :=
  let ⟨a, cap, hv, hi⟩ := h
  ⟨a, cap, hv, hi.stays bel⟩

structure EnTy (P : Program) (tI tZ tE : TypeId) : Prop where
  e : ∃ fs, P.underlying tE = some (.struct fs) ∧ fs.toList.map (fun f => (f.type, f.offset)) = [(tI, 0), (tI, 1), (tZ, 2)]
  i : P.underlying tI = some (.int .i64)
  z : P.underlying tZ = some (.slice tI)
  ce : P.cellsOf tE = 3
  ci : P.cellsOf tI = 1
  cz : P.cellsOf tZ = 1
section
variable {H : Type} {enc : TypeId × Value → H} {P : Program} {W : World} {sp : Nat → Bool} {held : Bool}
theorem open_end {tI tZ tE : TypeId} (T : EnTy P tI tZ tE) {fuel : Nat} {cs : List Value} {x : DataW H × List MemPlace} (h : DataW.trod enc P W 0 sp held fuel tE cs = some x) : ∃ e, EnIs W 0 cs.toArray e := by
  obtain ⟨fs, hfs, hmap⟩ := T.e
  obtain ⟨xs, n, rfl, _, hlen, hxl, hfld⟩ := DataW.trod_struct hfs h
  rw [T.ce] at hlen
  have hsize : fs.size = 3 := by have := congrArg List.length hmap; simpa using this
  have fld : ∀ i t o, ([(tI, 0), (tI, 1), (tZ, 2)] : List (TypeId × Nat))[i]? = some (t, o) → P.cellsOf t = 1 → ∃ y, DataW.trod enc P W 0 sp held n t ((cs.drop o).take 1) = some y := fun i t o hi hc => by
    obtain ⟨f, h1, rfl, rfl⟩ := field_at hmap i hi
    have hlt : i < 3 := by
      rcases Nat.lt_or_ge i 3 with h' | h'
      · exact h'
      · rw [Array.getElem?_eq_none (by omega)] at h1; cases h1
    have h2 := hfld i f h1
    rw [hc, List.getElem?_eq_getElem (by omega)] at h2
    exact ⟨_, h2⟩
  match cs, hlen with
  | [c0, c1, c2], _ =>
    obtain ⟨y0, h0⟩ := fld 0 tI 0 rfl T.ci
    obtain ⟨y1, h1⟩ := fld 1 tI 1 rfl T.ci
    obtain ⟨y2, h2⟩ := fld 2 tZ 2 rfl T.cz
    obtain ⟨m, e0, _⟩ := DataW.trod_int T.i h0
    obtain ⟨b, e1, _⟩ := DataW.trod_int T.i h1
    obtain ⟨a, cap, zs, e2, hz⟩ := open_nums T.z T.i T.ci h2
    simp at e0 e1 e2
    subst e0 e1 e2
    exact ⟨⟨m, b, zs⟩, a, cap, rfl, hz⟩
end

set_option maxHeartbeats 1000000 in
theorem eqEnd_any (e : En) (w : World) (B1 B2 : Nat) (v1 v2 : Array Value) (h1 : EnIs w B1 v1 e) (h2 : EnIs w B2 v2 e) :
    Calls Tryd.prog 10 #[.agg v1, .agg v2] w fun en w' => en = .returned (.bool true) ∧ Below w.heap.size w w' := by
  obtain ⟨a1, c1, rfl, z1⟩ := h1
  obtain ⟨a2, c2, rfl, z2⟩ := h2
  obtain ⟨code, val, out⟩ := e
  simp only at z1 z2 ⊢
  have Z1 := hideP z1
  have Z2 := hideP z2
  clear z1 z2
  go_enter Tryd.func10, Tryd.ntmps10
  go_wp2_with fail
  refine (eqIntS_same out _ B1 B2 a1 a2 c1 c2 (Z1.out.stays (below2 w _ _)) (Z2.out.stays (below2 w _ _))).mono ?_
  rintro e1 w1 ⟨rfl, bel1⟩
  have HW := hideP (two bel1).2.2.2
  clear bel1
  go_wp2
  go_ret
  exact ⟨rfl, HW.out⟩
end Go.Proofs.YtpkfbabgcinhhaaDoor
