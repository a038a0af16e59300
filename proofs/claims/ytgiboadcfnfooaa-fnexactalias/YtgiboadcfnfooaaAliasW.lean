/- The walk of the law FnExactAlias. -/
import Derived.Test.YtgiboadcfnfooaaAliA
import Derived.Test.YtgiboadcfnfooaaPlaceD
import Derived.Test.YtgiboadcfnfooaaRows
import Derived.Deep.CutRange
import Derived.Deep.RegionHeld3
import Derived.Deep.RegionWith
namespace Go.Proofs.Ytgiboadcfnfooaa
open Go.ChangeShapes Go.WideShapes Go.ChangeAt Go.RowKit
namespace AliasLaw
set_option maxHeartbeats 1000000 in
theorem toPl (r i j o : Int) (w : World) :
    Calls Try.prog 21 #[.agg #[.int .i64 r, .int .i64 i, .int .i64 j, .int .i64 o]] w fun en w' => en = .returned (.agg #[.int .i64 r, .int .i64 i, .int .i64 j, .int .i64 o]) ∧ Below w.heap.size w w' := by
  go_enter Try.func21, Try.ntmps21
  go_wp2
  try simp only [Exit.inBlock, Exit.then]
  refine bodyPost_ret (v := .agg #[.int .i64 r, .int .i64 i, .int .i64 j, .int .i64 o]) (by simp [results, Try.results21, go_sem]) rfl ⟨rfl, ?_⟩
  exact below3 w _ _ _
set_option maxRecDepth 100000 in
set_option maxHeartbeats 16000000 in
theorem walk (x0 : Plc) (v0 : Array Value) (x1 : Plc) (v1 : Array Value) (w : World) (h0 : PlcIs w 0 v0 x0) (h1 : PlcIs w 0 v1 x1) :
    Calls Try.prog 5 #[.agg v0, .agg v1] w fun en w' => en = .returned (.bool true) ∧ Below w.heap.size w w' := by
  obtain ⟨r0, i0, j0, o0⟩ := x0
  obtain ⟨r1, i1, j1, o1⟩ := x1
  obtain ⟨rfl, _⟩ := h0
  obtain ⟨rfl, _⟩ := h1
  have SK : Hid (∀ W', Below ((w.alloc (.cells #[.int .i64 r0, .int .i64 i0, .int .i64 j0, .int .i64 o0] 42)).alloc (.cells #[.int .i64 r1, .int .i64 i1, .int .i64 j1, .int .i64 o1] 42)).heap.size ((w.alloc (.cells #[.int .i64 r0, .int .i64 i0, .int .i64 j0, .int .i64 o0] 42)).alloc (.cells #[.int .i64 r1, .int .i64 i1, .int .i64 j1, .int .i64 o1] 42)) W' → W'.cell? ⟨w.heap.size, 0, none⟩ = some (.int .i64 r0) ∧ W'.cell? ⟨w.heap.size, 1, none⟩ = some (.int .i64 i0) ∧ W'.cell? ⟨w.heap.size, 2, none⟩ = some (.int .i64 j0) ∧ W'.cell? ⟨w.heap.size, 3, none⟩ = some (.int .i64 o0) ∧ W'.cell? ⟨w.heap.size + 1, 0, none⟩ = some (.int .i64 r1) ∧ W'.cell? ⟨w.heap.size + 1, 1, none⟩ = some (.int .i64 i1) ∧ W'.cell? ⟨w.heap.size + 1, 2, none⟩ = some (.int .i64 j1) ∧ W'.cell? ⟨w.heap.size + 1, 3, none⟩ = some (.int .i64 o1)) := fun W' h => ⟨(cells_of (two h).1).1 0, (cells_of (two h).1).1 1, (cells_of (two h).1).1 2, (cells_of (two h).1).1 3, (cells_of (two h).2.1).1 0, (cells_of (two h).2.1).1 1, (cells_of (two h).2.1).1 2, (cells_of (two h).2.1).1 3⟩
  have BW := hideP (below2 w (.cells #[.int .i64 r0, .int .i64 i0, .int .i64 j0, .int .i64 o0] 42) (.cells #[.int .i64 r1, .int .i64 i1, .int .i64 j1, .int .i64 o1] 42))
  go_enter Try.func5, Try.ntmps5
  go_upto_region 1 with fail
  go_cut [5] from 5 to 11 (fun s5 wx => s5 = .int .i64 (aliasP ⟨r0, i0, j0, o0⟩ ⟨r1, i1, j1, o1⟩) ∧ Hid (Below ((w.alloc (.cells #[.int .i64 r0, .int .i64 i0, .int .i64 j0, .int .i64 o0] 42)).alloc (.cells #[.int .i64 r1, .int .i64 i1, .int .i64 j1, .int .i64 o1] 42)).heap.size ((w.alloc (.cells #[.int .i64 r0, .int .i64 i0, .int .i64 j0, .int .i64 o0] 42)).alloc (.cells #[.int .i64 r1, .int .i64 i1, .int .i64 j1, .int .i64 o1] 42)) wx))
  case first =>
    go_region_held3 (fun W' => W'.cell? ⟨w.heap.size, 0, none⟩ = some (.int .i64 r0) ∧ W'.cell? ⟨w.heap.size, 1, none⟩ = some (.int .i64 i0) ∧ W'.cell? ⟨w.heap.size, 2, none⟩ = some (.int .i64 j0) ∧ W'.cell? ⟨w.heap.size, 3, none⟩ = some (.int .i64 o0) ∧ W'.cell? ⟨w.heap.size + 1, 0, none⟩ = some (.int .i64 r1) ∧ W'.cell? ⟨w.heap.size + 1, 1, none⟩ = some (.int .i64 i1) ∧ W'.cell? ⟨w.heap.size + 1, 2, none⟩ = some (.int .i64 j1) ∧ W'.cell? ⟨w.heap.size + 1, 3, none⟩ = some (.int .i64 o1)) (first | exact SK.out _ (Below.refl _ _).drew | exact SK.out _ HBd.out | exact SK.out _ HBc.out | exact SK.out _ HBb.out | exact SK.out _ HBa.out) (first
      | (go_at_call 20; refine (specAlias_any ⟨r0, i0, j0, o0⟩ ⟨r1, i1, j1, o1⟩ _).mono ?_; rintro ed wd ⟨rfl, beld⟩; have HBd := hideP (HBb.out.trans (beld.mono HBb.out.size)); clear beld)
      | (go_at_call_of 21 (Value.agg #[.int .i64 r0, .int .i64 i0, .int .i64 j0, .int .i64 o0]); refine (toPl r0 i0 j0 o0 _).mono ?_; rintro ea wa ⟨rfl, bela⟩; first | have HBb := hideP (HBa.out.trans (bela.mono HBa.out.size)) | have HBa := hideP ((Below.refl _ _).drew.trans (bela.mono (Nat.le_refl _))); clear bela)
      | (go_at_call_of 21 (Value.agg #[.int .i64 r1, .int .i64 i1, .int .i64 j1, .int .i64 o1]); refine (toPl r1 i1 j1 o1 _).mono ?_; rintro eb wb ⟨rfl, belb⟩; first | have HBb := hideP (HBa.out.trans (belb.mono HBa.out.size)) | have HBa := hideP ((Below.refl _ _).drew.trans (belb.mono (Nat.le_refl _))); clear belb))
    all_goals (go_wp2_with fail; go_meet; exact ⟨rfl, HBd⟩)
  case rest =>
  obtain ⟨rfl, HC⟩ := hcut
  go_upto_region 2 with fail
  go_cut [5, 6] from 5 to 16 (fun s5 s6 wx => s5 = .int .i64 (aliasP ⟨r0, i0, j0, o0⟩ ⟨r1, i1, j1, o1⟩) ∧ s6 = .int .i64 (aliasP ⟨r0, i0, j0, o0⟩ ⟨r1, i1, j1, o1⟩) ∧ Hid (Below ((w.alloc (.cells #[.int .i64 r0, .int .i64 i0, .int .i64 j0, .int .i64 o0] 42)).alloc (.cells #[.int .i64 r1, .int .i64 i1, .int .i64 j1, .int .i64 o1] 42)).heap.size ((w.alloc (.cells #[.int .i64 r0, .int .i64 i0, .int .i64 j0, .int .i64 o0] 42)).alloc (.cells #[.int .i64 r1, .int .i64 i1, .int .i64 j1, .int .i64 o1] 42)) wx))
  case first =>
    go_region_held3 (fun W' => W'.cell? ⟨w.heap.size, 0, none⟩ = some (.int .i64 r0) ∧ W'.cell? ⟨w.heap.size, 1, none⟩ = some (.int .i64 i0) ∧ W'.cell? ⟨w.heap.size, 2, none⟩ = some (.int .i64 j0) ∧ W'.cell? ⟨w.heap.size, 3, none⟩ = some (.int .i64 o0) ∧ W'.cell? ⟨w.heap.size + 1, 0, none⟩ = some (.int .i64 r1) ∧ W'.cell? ⟨w.heap.size + 1, 1, none⟩ = some (.int .i64 i1) ∧ W'.cell? ⟨w.heap.size + 1, 2, none⟩ = some (.int .i64 j1) ∧ W'.cell? ⟨w.heap.size + 1, 3, none⟩ = some (.int .i64 o1)) (first | exact SK.out _ HC.out.drew | exact SK.out _ HBd.out | exact SK.out _ HBc.out | exact SK.out _ HBb.out | exact SK.out _ HBa.out) (first
      | (go_at_call 22; refine (implAlias_any ⟨r0, i0, j0, o0⟩ ⟨r1, i1, j1, o1⟩ _).mono ?_; rintro ed wd ⟨rfl, beld⟩; have HBd := hideP (HBb.out.trans (beld.mono HBb.out.size)); clear beld)
      | (go_at_call_of 21 (Value.agg #[.int .i64 r0, .int .i64 i0, .int .i64 j0, .int .i64 o0]); refine (toPl r0 i0 j0 o0 _).mono ?_; rintro ea wa ⟨rfl, bela⟩; first | have HBb := hideP (HBa.out.trans (bela.mono HBa.out.size)) | have HBa := hideP (HC.out.drew.trans (bela.mono HC.out.size)); clear bela)
      | (go_at_call_of 21 (Value.agg #[.int .i64 r1, .int .i64 i1, .int .i64 j1, .int .i64 o1]); refine (toPl r1 i1 j1 o1 _).mono ?_; rintro eb wb ⟨rfl, belb⟩; first | have HBb := hideP (HBa.out.trans (belb.mono HBa.out.size)) | have HBa := hideP (HC.out.drew.trans (belb.mono HC.out.size)); clear belb))
    all_goals (go_wp2_with fail; go_meet; exact ⟨rfl, rfl, HBd⟩)
  case rest =>
  obtain ⟨rfl, rfl, HD⟩ := hcut
  go_wp2
  go_ret
  exact ⟨rfl, below_trans BW.out HD.out⟩
end AliasLaw
end Go.Proofs.Ytgiboadcfnfooaa
