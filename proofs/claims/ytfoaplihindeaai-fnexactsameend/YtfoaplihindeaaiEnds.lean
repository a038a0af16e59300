/- Ends (Code, Val, Out) as they lie in memory; the contracts of szEnd, toEnd, eqEnd. -/
import Derived.Test.YtfoaplihindeaaiInts
import Derived.Test.YtfoaplihindeaaiOpenTree
namespace Go.Proofs.Ytfoaplihindeaai
open Go.ChangeShapes Go.WideShapes Go.ChangeAt Go.RowKit

structure En where
  code : Int
  val : Int
  out : List Int
/-- These three cells are the end. -/
def EnIs (w : World) (B : Nat) (v : Array Value) (e : En) : Prop := ∃ a cap, v = #[.int .i64 e.code, .int .i64 e.val, .slice a e.out.length cap] ∧ IntsIs w B a e.out
theorem EnIs.stays {w w' : World} {B : Nat} {v : Array Value} {e : En} (h : EnIs w B v e) (bel : Below w.heap.size w w') : EnIs w' B v e :=
  let ⟨a, cap, hv, hi⟩ := h
  ⟨a, cap, hv, hi.stays bel⟩

structure EnTy (P : Program) (tI tZ tE : TypeId) : Prop where
  e : ∃ fs, P.underlying tE = some (.struct fs) ∧ fs.toList.map (fun f => (f.type, f.offset)) = [(tI, 0), (tI, 1), (tZ, 2)]
  i : P.underlying tI = some (.int .i64)
  z : P.underlying tZ = some (.slice tI)
  ce : P.cellsOf tE = 3
  ci : P.cellsOf tI = 1
  cz : P.cellsOf tZ = 1
section
variable {H : Type} {enc : TypeId × Value → H} {P : Program} {W : World} {sp : Nat → Bool} {held : Bool}
theorem open_end {tI tZ tE : TypeId} (T : EnTy P tI tZ tE) {fuel : Nat} {cs : List Value} {x : DataW H × List MemPlace} (h : DataW.trod enc P W 0 sp held fuel tE cs = some x) : ∃ e, EnIs W 0 cs.toArray e := by
  obtain ⟨fs, hfs, hmap⟩ := T.e
  obtain ⟨xs, n, rfl, _, hlen, hxl, hfld⟩ := DataW.trod_struct hfs h
  rw [T.ce] at hlen
  have hsize : fs.size = 3 := by have := congrArg List.length hmap; simpa using this
  have fld : ∀ i t o, ([(tI, 0), (tI, 1), (tZ, 2)] : List (TypeId × Nat))[i]? = some (t, o) → P.cellsOf t = 1 → ∃ y, DataW.trod enc P W 0 sp held n t ((cs.drop o).take 1) = some y := fun i t o hi hc => by
    obtain ⟨f, h1, rfl, rfl⟩ := field_at hmap i hi
    have hlt : i < 3 := by
      rcases Nat.lt_or_ge i 3 with h' | h'
      · exact h'
      · rw [Array.getElem?_eq_none (by omega)] at h1; cases h1
    have h2 := hfld i f h1
    rw [hc, List.getElem?_eq_getElem (by omega)] at h2
    exact ⟨_, h2⟩
  match cs, hlen with
  | [c0, c1, c2], _ =>
    obtain ⟨y0, h0⟩ := fld 0 tI 0 rfl T.ci
    obtain ⟨y1, h1⟩ := fld 1 tI 1 rfl T.ci
    obtain ⟨y2, h2⟩ := fld 2 tZ 2 rfl T.cz
    obtain ⟨m, e0, _⟩ := DataW.trod_int T.i h0
    obtain ⟨b, e1, _⟩ := DataW.trod_int T.i h1
    obtain ⟨a, cap, zs, e2, hz⟩ := open_nums T.z T.i T.ci h2
    simp at e0 e1 e2
    subst e0 e1 e2
    exact ⟨⟨m, b, zs⟩, a, cap, rfl, hz⟩
end

set_option maxHeartbeats 1000000 in
theorem szEnd_any (e : En) (w : World) (B : Nat) (v : Array Value) (L : Nat) (h : EnIs w B v e) (hL : L ≤ 1048576) :
    Calls Try.prog 5 #[.agg v, .int .i64 L] w fun en w' => en = .returned (.int .i64 (szR e.out.length L)) ∧ Below w.heap.size w w' := by
  obtain ⟨a, cap, rfl, hz⟩ := h
  have hzl := hz.1
  have hm := maxLen_lt
  clear hz
  go_enter Try.func5, Try.ntmps5
  go_wp2_with fail
  refine (szIntS_any _ a e.out.length cap L hzl hL).mono ?_
  rintro e1 w1 ⟨rfl, rfl⟩
  by_cases hs : e.out.length ≤ L
  · rw [szR_pos hs]
    have HS := hideP hs
    clear hs
    go_wp2
    go_ret
    exact ⟨ret_int (szR_pos HS.out).symm, (Below.refl _ _).alloc (Nat.le_refl _) _⟩
  · rw [szR_neg (by omega)]
    have HS := hideP (Nat.lt_of_not_le hs)
    clear hs
    go_wp2
    go_ret
    exact ⟨ret_int (szR_neg HS.out).symm, (Below.refl _ _).alloc (Nat.le_refl _) _⟩

set_option maxHeartbeats 1000000 in
theorem toEnd_any (e : En) (w : World) (B : Nat) (v : Array Value) (h : EnIs w B v e) (hs : e.out.length ≤ 1048576) :
    Calls Try.prog 7 #[.agg v] w fun en w' => ∃ g, en = .returned (.agg #[.int .i64 e.code, .int .i64 e.val, .slice (some ⟨g, 0, none⟩) e.out.length e.out.length]) ∧ IntsIs w' w.heap.size (some ⟨g, 0, none⟩) e.out ∧ Below w.heap.size w w' := by
  obtain ⟨code, val, out⟩ := e
  obtain ⟨a, cap, rfl, hz⟩ := h
  simp only at hz hs ⊢
  have HK := hideP hz
  clear hz
  go_enter Try.func7, Try.ntmps7
  go_wp2_with fail
  refine (toIntS_any out _ B a cap (HK.out.stays (below3 w _ _ _)) (by omega)).mono ?_
  rintro e1 w1 ⟨g, rfl, hx1, bel1⟩
  obtain ⟨_, q2, q3, hz, hw⟩ := three bel1
  obtain ⟨c2, f2⟩ := cells_of q2
  obtain ⟨c3, f3⟩ := cells_of q3
  have a0 := c2 0
  have a1 := c2 1
  have a2 := c2 2
  have b0 := c3 0
  have b1 := c3 1
  have b2 := c3 2
  simp at a0 a1 a2 b0 b1 b2
  have hB : (((w.alloc (.cells #[.int .i64 code, .int .i64 val, .slice a out.length cap] 24)).alloc (.cells #[.int .i64 0, .int .i64 0, .slice none 0 0] 27)).alloc (.cells #[.int .i64 code, .int .i64 val, .slice none 0 0] 27)).heap.size = w.heap.size + 3 := by simp
  rw [hB] at hx1
  have HX1 := hideP hx1
  have HW := hideP hw
  clear bel1 q2 q3 c2 c3 hx1 hw hB
  go_wp2
  try simp only [Exit.inBlock, Exit.then]
  refine bodyPost_ret (v := .agg #[.int .i64 code, .int .i64 val, .slice (some ⟨g, 0, none⟩) out.length out.length]) (by simp [results, Try.results7, go_sem, a0, a1, a2]) rfl ⟨g, rfl, ?_, ?_⟩
  · refine IntsIs.mono ?_ (show w.heap.size ≤ w.heap.size + 3 by omega)
    exact ((HX1.out.but (g := w.heap.size + 1 + 1) (by omega) ((But.refl _ _).set _ _))).but (g := w.heap.size + 1) (by omega) ((((But.refl _ _).set _ _).set _ _).set _ _)
  · exact (((HW.out.setCell (show w.heap.size ≤ w.heap.size + 1 + 1 by omega) _).setCell (show w.heap.size ≤ w.heap.size + 1 by omega) _).setCell (show w.heap.size ≤ w.heap.size + 1 by omega) _).setCell (show w.heap.size ≤ w.heap.size + 1 by omega) _

set_option maxHeartbeats 1000000 in
theorem eqEnd_any (e : En) (w : World) (B1 B2 : Nat) (v1 v2 : Array Value) (h1 : EnIs w B1 v1 e) (h2 : EnIs w B2 v2 e) :
    Calls Try.prog 9 #[.agg v1, .agg v2] w fun en w' => en = .returned (.bool true) ∧ Below w.heap.size w w' := by
  obtain ⟨a1, c1, rfl, z1⟩ := h1
  obtain ⟨a2, c2, rfl, z2⟩ := h2
  obtain ⟨code, val, out⟩ := e
  simp only at z1 z2 ⊢
  have Z1 := hideP z1
  have Z2 := hideP z2
  clear z1 z2
  go_enter Try.func9, Try.ntmps9
  go_wp2_with fail
  refine (eqIntS_same out _ B1 B2 a1 a2 c1 c2 (Z1.out.stays (below2 w _ _)) (Z2.out.stays (below2 w _ _))).mono ?_
  rintro e1 w1 ⟨rfl, bel1⟩
  have HW := hideP (two bel1).2.2.2
  clear bel1
  go_wp2
  go_ret
  exact ⟨rfl, HW.out⟩
end Go.Proofs.Ytfoaplihindeaai
