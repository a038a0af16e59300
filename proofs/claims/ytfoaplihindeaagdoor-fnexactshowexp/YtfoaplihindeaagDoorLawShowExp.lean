/- For every program and every expression the law FnExactShowExp returns true; the card ties the library's three tables to their text (over the pruned copy of the project that the seat was turned from). -/
import Derived.Test.YtfoaplihindeaagDoorShowExpW
import Derived.Test.YtfoaplihindeaagDoorOpenTree
import Derived.Test.YtfoaplihindeaagDoorTie
import Derived.Test.YtfoaplihindeaagDoorCards
import Derived.LaidMore
import Derived.Stop.LaidErr
import Derived.Stop.Joined
import Derived.Carry
import Derived.OpenShut
import Derived.ShutString
import Derived.Lib.LaidTab
import Derived.SevenTiedAt
namespace Go.Proofs.YtfoaplihindeaagDoor
open Go.ChangeShapes Go.WideShapes Go.ChangeAt Go.RowKit
theorem in64_of {n : Int} (h : (Lit.int .i64 n).wf = true) : In64 n := by
  have e1 : IntKind.i64.min = -9223372036854775808 := rfl
  have e2 : IntKind.i64.max = 9223372036854775807 := rfl
  simp only [Lit.wf, e1, e2] at h
  simpa [In64] using h
section
variable {H : Type} {enc : TypeId × Value → H} {P : Program} {W : World} {sp : Nat → Bool} {held : Bool}
theorem open_pr64 {tE tL tI tS tT tM tZ tP : TypeId} (T : PrTy P tE tL tI tS tT tM tZ tP) {fuel : Nat} {cs : List Value} {x : DataW H × List MemPlace} (h : DataW.trod enc P W 0 sp held fuel tP cs = some x) : ∃ p, PrIs W 0 cs.toArray p ∧ In64 p.vars := by
  obtain ⟨fs, hfs, hmap⟩ := T.e
  obtain ⟨xs, n, rfl, _, hlen, hxl, hfld⟩ := DataW.trod_struct hfs h
  rw [T.ce] at hlen
  have hsize : fs.size = 4 := by have := congrArg List.length hmap; simpa using this
  have fld : ∀ i t o, ([(tZ, 0), (tI, 1), (tI, 2), (tM, 3)] : List (TypeId × Nat))[i]? = some (t, o) → P.cellsOf t = 1 → ∃ y, DataW.trod enc P W 0 sp held n t ((cs.drop o).take 1) = some y := fun i t o hi hc => by
    obtain ⟨f, h1, rfl, rfl⟩ := field_at hmap i hi
    have hlt : i < 4 := by
      rcases Nat.lt_or_ge i 4 with h' | h'
      · exact h'
      · rw [Array.getElem?_eq_none (by omega)] at h1; cases h1
    have h2 := hfld i f h1
    rw [hc, List.getElem?_eq_getElem (by omega)] at h2
    exact ⟨_, h2⟩
  match cs, hlen with
  | [c0, c1, c2, c3], _ =>
    obtain ⟨y0, h0⟩ := fld 0 tZ 0 rfl T.cz
    obtain ⟨y1, h1⟩ := fld 1 tI 1 rfl T.s.x.ci
    obtain ⟨y2, h2⟩ := fld 2 tI 2 rfl T.s.x.ci
    obtain ⟨y3, h3⟩ := fld 3 tM 3 rfl T.s.cl
    obtain ⟨a, cap, zs, e0, hz⟩ := open_nums T.z T.s.x.i T.s.x.ci h0
    obtain ⟨m, e1, _⟩ := DataW.trod_int T.s.x.i h1
    obtain ⟨b, e2, _, w2⟩ := DataW.trod_int T.s.x.i h2
    obtain ⟨ab, cb, ss, e3, hs⟩ := open_sts T.s h3
    simp at e0 e1 e2 e3
    subst e0 e1 e2 e3
    exact ⟨⟨zs, m, b, ss⟩, ⟨a, cap, ab, cb, rfl, hz, hs⟩, in64_of w2⟩
end
namespace ShowExpLaw

theorem exTy : ExTy Tryd.prog 36 34 3 9 :=
  ⟨⟨_, Tryd.underlying36, by rfl⟩, Tryd.underlying34, Tryd.underlying3, Tryd.underlying9, by kernel_rfl, by kernel_rfl, by kernel_rfl, by kernel_rfl⟩
theorem stTy : StTy Tryd.prog 36 34 3 9 64 23 :=
  ⟨exTy, ⟨_, Tryd.underlying64, by rfl⟩, Tryd.underlying23, by kernel_rfl, by kernel_rfl⟩
theorem prTy : PrTy Tryd.prog 36 34 3 9 64 23 22 25 :=
  ⟨stTy, ⟨_, Tryd.underlying25, by rfl⟩, Tryd.underlying22, by kernel_rfl, by kernel_rfl⟩
theorem laidOut : laidOutB Tryd.prog = true := by kernel_rfl
theorem own : ownKnob Tryd.prog.godebug = none := by kernel_rfl
def laidL : List (String × DataW Unit) := Rows.fnExactShowExpRow.laid
theorem door_met (os : Os) (args : Array Value) : laidMetH Tryd.prog laidL ((World.doorLaid Tryd.prog 400 os).forCall (fun _ _ => 0) ⟨#[], args, []⟩).memory :=
  laidMetH_of_parts3 (fuel := 8) (laidMet_of_run' 8 (by kernel_rfl) (by kernel_rfl)) (by kernel_rfl) (by kernel_rfl)
theorem pow10_data : (Lib.tabData .u64 Lib.pow10Tab : DataW Unit) = Rows.laid_internal_strconv_uint64pow10 := by
  unfold Lib.tabData Rows.laid_internal_strconv_uint64pow10 Lib.pow10Tab; rfl
theorem of_laid {W : World} (h : laidMetH Tryd.prog laidL W) : Lib.TabIs Tryd.prog W "internal/strconv.uint64pow10" .u64 Lib.pow10Tab := by
  rw [MakeChecks.laidMetH_plain _ _ _ (by kernel_rfl)] at h
  have h2 : laidMet Tryd.prog [("internal/strconv.uint64pow10", Rows.laid_internal_strconv_uint64pow10)] W := h.tail.tail
  rw [← pow10_data] at h2
  exact Lib.tabIs_of_head (g := 1) (t := 113) (e := 106) (n := 20) (by kernel_rfl) (by kernel_rfl) Tryd.underlying113 Tryd.underlying106 (by kernel_rfl) (by kernel_rfl) h2

set_option maxRecDepth 100000 in
theorem lifted (os : Os) (started : os.Started) (H : Type) (enc : TypeId × Value → H) :
    ReturnsInHanded {} Tryd.checked os 4 .any (fun w args => (Rows.fnExactShowExpSpec.pre enc Tryd.prog Tryd.f4 Rows.fnExactShowExpRow.domain false w args ∧ laidMetH Tryd.prog laidL w) ∧ sizedMet enc Tryd.prog Tryd.f4 (OpenSpec.ofChange Rows.fnExactShowExpSpec) false w args)
      (Rows.fnExactShowExpSpec.post enc Tryd.prog Tryd.f4 false true false false) := by
  refine returnsInHanded_of_change_and (C := Tryd.checked) (X := fun w _ => laidMetH Tryd.prog laidL w) (fun _ _ _ hh h => h.of_heap hh) own started (by kernel_rfl) Tryd.func4
    (ChangeSpec.witness_shaped (enc := enc) (C := Tryd.checked) (os := os) (X := fun w _ => laidMetH Tryd.prog laidL w) false (World.doorLaid Tryd.prog 400 os) #[.agg #[.slice none 0 0, .int .i64 0, .int .i64 0, .slice none 0 0], .agg #[.int .i64 0, .int .i64 0, .int .i64 0, .string ByteArray.empty, .slice none 0 0]] 8 rfl (World.shaped_of_RefB (by kernel_rfl) (by kernel_rfl)) (by kernel_rfl) (by kernel_rfl) (by kernel_rfl) (door_met os _)) ?_
  intro W base args ds gs before hval0 hW _ _ hL _
  have hval : ∀ (j : Nat) t v, Tryd.f4.params[j]? = some t → args[j]? = some v → Value.okWide Tryd.prog W .any base t v := hval0
  have hW' := hW
  obtain ⟨p, q, hA0, hV, rfl, hfz, hnd⟩ := hW
  have hA : DataW.TrodAll enc Tryd.prog W 0 (fun _ => true) true Tryd.f4.params.toList args.toList ds p := hA0
  rw [Tryd.params4] at hA hval
  obtain ⟨v0, vs0, d0, ds0, p0, q0, hargs, rfl, rfl, h0, r0⟩ := trodAll_cons hA
  obtain ⟨v1, vs1, d1, ds1, p1, q1, rfl, rfl, rfl, h1, r1⟩ := trodAll_cons r0
  obtain ⟨rfl, rfl, rfl⟩ := trodAll_nil r1
  obtain rfl : args = #[v0, v1] := by cases args; simp_all
  obtain ⟨rfl, rfl⟩ := trodVars_none hV
  obtain ⟨c0, rfl, _⟩ := okWide_struct Tryd.underlying25 (hval 0 25 v0 rfl rfl)
  obtain ⟨c1, rfl, _⟩ := okWide_struct Tryd.underlying36 (hval 1 36 v1 rfl rfl)
  have lt0 : ∀ x ∈ p0, x.block < W.heap.size := by obtain ⟨m, hm⟩ := h0; exact DataW.trod_lt m _ _ _ hm
  have lt1 : ∀ x ∈ p1, x.block < W.heap.size := by obtain ⟨m, hm⟩ := h1; exact DataW.trod_lt m _ _ _ hm
  obtain ⟨pr, hpr, hv⟩ : ∃ pr, PrIs W 0 c0 pr ∧ In64 pr.vars := by
    obtain ⟨m, hm⟩ := h0
    simpa [Value.cells] using open_pr64 prTy hm
  obtain ⟨ex, hex⟩ : ∃ ex, ExIs W 0 c1 ex := by
    obtain ⟨m, hm⟩ := h1
    simpa [Value.cells] using open_ex exTy m _ _ hm
  clear hA0 hval0
  refine (walk pr ex c0 c1 W hpr hex hv (of_laid hL)).mono fun e W' ⟨he, bel⟩ => ?_
  subst he
  exact ⟨_, rfl, _, _, _, [], _, [], hW', trodAll_mk1 (shut_bool Tryd.underlying4 _), (trodAll_cons_mk (Below.trod laidOut (by kernel_rfl) (of_decide_eq_true (by kernel_rfl)) h0 bel lt0) (trodAll_cons_mk (Below.trod laidOut (by kernel_rfl) (of_decide_eq_true (by kernel_rfl)) h1 bel lt1) trodAll_mk0)), rfl, bel.frame _, fun h => by cases h⟩

theorem row_holds : Rows.FnExactShowExpSaid :=
  OpenClaim.holds_of_wide 4 Tryd.f4 rfl rfl rfl rfl rfl rfl rfl ⟨rfl, rfl, rfl, rfl, rfl⟩ rfl rfl rfl rfl rfl (by kernel_rfl) Tryd.func4 (by kernel_rfl)
    (of_decide_eq_true (by kernel_rfl)) (by unfold Func.isWrapper; first | (rw [if_pos (by decide +kernel)]; kernel_rfl) | (rw [if_neg (by decide +kernel)]; exact ⟨rfl, rfl⟩))
    (fun os started H enc _ => lifted os started H enc)
end ShowExpLaw

theorem fnExactShowExp_holds : Rows.FnExactShowExpCardSaid :=
  Claim7.holds_tied_plain_at .later [] [.data, .data, .data] true (true, Rows.fnExactShowExpCard.stood.harness.2) Rows.fnExactShowExpCard.stood.looks
    ShowExpLaw.row_holds (fun _ h => by cases h) (by kernel_rfl) (fun _ h => by cases h) fnExactShowExp_row_tie rfl ⟨rfl, rfl⟩ (by kernel_rfl) rfl
    (fun f fn hf hfn => by
      obtain rfl : f = 4 := Option.some.inj ((show Tryd.prog.funcNamed Rows.fnExactShowExpRow.func = some 4 by kernel_rfl).symm.trans hf) |>.symm
      obtain rfl : fn = Tryd.f4 := (Option.some.inj (Tryd.func4.symm.trans hfn)).symm
      exact ⟨by kernel_rfl, fun j t ht => by
        rw [Tryd.params4] at ht
        have hm : t ∈ [25, 36] := by simpa using Array.mem_of_getElem? ht
        have hall : ([25, 36].all fun u => !Tryd.prog.wantsStandIn u) = true := by kernel_rfl
        exact (show Tryd.prog.wantsStandIn t = false by simpa using List.all_eq_true.1 hall t hm)⟩)
    (by kernel_rfl)
#print axioms fnExactShowExp_holds
end Go.Proofs.YtfoaplihindeaagDoor
