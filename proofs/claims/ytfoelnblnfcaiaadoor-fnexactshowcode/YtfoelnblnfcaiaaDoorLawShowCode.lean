/- For every image the law FnExactShowCode returns true (and the image reads as before); the card ties the tables of the library and the names of the words to their text (over the pruned copy of the project that the seat was turned from). -/
import Derived.Test.YtfoelnblnfcaiaaDoorShowCodeW
import Derived.Test.YtfoelnblnfcaiaaDoorOpenTree
import Derived.Test.YtfoelnblnfcaiaaDoorImageO
import Derived.Test.YtfoelnblnfcaiaaDoorTie
import Derived.Test.YtfoelnblnfcaiaaDoorCards
import Derived.LaidMore
import Derived.Stop.LaidErr
import Derived.Lib.LaidTab
import Derived.SevenTiedAt
import Derived.OpenShut
import Derived.ShutString
import Derived.Stop.Joined
import Derived.Carry
namespace Go.Proofs.YtfoelnblnfcaiaaDoor
open Go.ChangeShapes Go.WideShapes Go.ChangeAt Go.RowKit
open Go.ChangeMaps (open_string shut_string)
namespace ShowCodeLaw
theorem Wrd_ty : WrdTy Tryd.prog 3 50 :=
  ⟨⟨_, Tryd.underlying50, by rfl⟩, by kernel_rfl, Tryd.underlying3, by kernel_rfl⟩
theorem Img_ty : ImgTy Tryd.prog 3 22 50 23 25 :=
  ⟨⟨_, Tryd.underlying25, by rfl⟩, by kernel_rfl, Tryd.underlying3, by kernel_rfl, Tryd.underlying22, by kernel_rfl, Wrd_ty, Tryd.underlying23, by kernel_rfl⟩
theorem own : ownKnob Tryd.prog.godebug = none := by kernel_rfl
theorem laidOut : laidOutB Tryd.prog = true := by kernel_rfl

def laidL : List (String × DataW Unit) := Rows.fnExactShowCodeRow.laid
theorem door_met (os : Os) (args : Array Value) : laidMetH Tryd.prog laidL ((World.doorLaid Tryd.prog 400 os).forCall (fun _ _ => 0) ⟨#[], args, []⟩).memory :=
  laidMetH_of_parts3 (fuel := 8) (laidMet_of_run' 8 (by kernel_rfl) (by kernel_rfl)) (by kernel_rfl) (by kernel_rfl)
theorem pow10_data : (Lib.tabData .u64 Lib.pow10Tab : DataW Unit) = Rows.laid_internal_strconv_uint64pow10 := by
  unfold Lib.tabData Rows.laid_internal_strconv_uint64pow10 Lib.pow10Tab; rfl
theorem tN : (Tryd.prog.globals[0]?).map (·.type) = some 43 := by kernel_rfl
theorem c12 : Tryd.prog.cellsOf 43 = 12 := by kernel_rfl
theorem cS : Tryd.prog.cellsOf 9 = 1 := by kernel_rfl
/-- The data of the names. -/
def namD (H : Type) : DataW H := .agg (opA.map fun s => .lit (.string s.data.toList))
theorem nam_data : (namD Unit : DataW Unit) = Rows.laid_loop_example_g00385_impl_opNames := by unfold namD Rows.laid_loop_example_g00385_impl_opNames; rfl
/-- An array of texts that reads as these texts holds them, cell for cell. -/
theorem nam_of_trod {H : Type} {enc : TypeId × Value → H} {w : World} {base : Nat} {sp : Nat → Bool} {held : Bool} {fuel : Nat} {cs : List Value} {p : List MemPlace}
    (h : DataW.trod enc Tryd.prog w base sp held fuel 43 cs = some (namD H, p)) : cs = opA.map Value.string := by
  obtain ⟨xs, m, rfl, hx, hl, hn, he⟩ := DataW.trod_array Tryd.underlying43 h
  rw [c12] at hl
  have hxs : xs.map (·.1) = opA.map fun s => (DataW.lit (.string s.data.toList) : DataW H) := by
    have := congrArg Prod.fst hx
    simpa [namD] using this.symm
  apply List.ext_getElem?
  intro i
  by_cases hi : i < 12
  · have h1 := he i hi
    rw [cS, Nat.mul_one, List.getElem?_eq_getElem (by omega)] at h1
    obtain ⟨s, e1, e2, _⟩ := DataW.trod_string Tryd.underlying9 h1
    have h2 : (xs.map (·.1))[i]? = some (.lit (.string s.data.toList)) := by rw [List.getElem?_map, List.getElem?_eq_getElem (by omega), e2]; rfl
    rw [hxs, List.getElem?_map] at h2
    have hsl : i < opA.length := hi
    rw [List.getElem?_eq_getElem hsl] at h2
    simp only [Option.map_some, Option.some.injEq, DataW.lit.injEq, Lit.string.injEq] at h2
    have h3 : opA[i] = s := ByteArray.ext (Array.ext' h2)
    have h4 : cs[i]? = some (.string s) := by
      have := congrArg (·[0]?) e1
      simpa [List.getElem?_take, List.getElem?_drop] using this
    rw [h4, List.getElem?_map, List.getElem?_eq_getElem hsl, h3]; rfl
  · rw [List.getElem?_eq_none (by omega), List.getElem?_eq_none (by rw [List.length_map]; show 12 ≤ i; omega)]
theorem of_laid {W : World} (h : laidMetH Tryd.prog laidL W) : TabW W := by
  rw [MakeChecks.laidMetH_plain _ _ _ (by kernel_rfl)] at h
  have h2 : laidMet Tryd.prog [("internal/strconv.uint64pow10", Rows.laid_internal_strconv_uint64pow10), ("loop.example/g00385/impl.opNames", Rows.laid_loop_example_g00385_impl_opNames)] W := h.tail.tail
  have h3 : laidMet Tryd.prog [("loop.example/g00385/impl.opNames", Rows.laid_loop_example_g00385_impl_opNames)] W := h2.tail
  rw [← pow10_data] at h2
  rw [← nam_data] at h3
  refine ⟨Lib.tabIs_of_head (g := 2) (t := 77) (e := 70) (n := 20) (by kernel_rfl) (by kernel_rfl) Tryd.underlying77 Tryd.underlying70 (by kernel_rfl) (by kernel_rfl) h2, ?_⟩
  obtain ⟨ps, ⟨g', t', cs, fuel, p, q, hg', ht', hvar, hd, _, _⟩, _⟩ := h3
  obtain rfl := Option.some.inj (gN.symm.trans hg')
  obtain rfl := Option.some.inj (tN.symm.trans ht')
  rw [hvar]
  have := nam_of_trod hd
  show some cs = some _
  congr 1
  apply Array.ext'
  rw [this]; rfl

theorem reads_nam {H : Type} (enc : TypeId × Value → H) (W : World) (sp : Nat → Bool) : DataW.trod enc Tryd.prog W 0 sp true 3 43 opV.toList = some (namD H, []) := by kernel_rfl

set_option maxRecDepth 100000 in
theorem lifted (os : Os) (started : os.Started) (H : Type) (enc : TypeId × Value → H) :
    ReturnsInHanded {} Tryd.checked os 3 .any (fun w args => (Rows.fnExactShowCodeSpec.pre enc Tryd.prog Tryd.f3 Rows.fnExactShowCodeRow.domain false w args ∧ laidMetH Tryd.prog laidL w) ∧ sizedMet enc Tryd.prog Tryd.f3 (OpenSpec.ofChange Rows.fnExactShowCodeSpec) false w args)
      (Rows.fnExactShowCodeSpec.post enc Tryd.prog Tryd.f3 false true false false) := by
  refine returnsInHanded_of_change_and (C := Tryd.checked) (X := fun w _ => laidMetH Tryd.prog laidL w) (fun _ _ _ hh h => h.of_heap hh) own started (by kernel_rfl) Tryd.func3
    (ChangeSpec.witness_shaped (enc := enc) (C := Tryd.checked) (os := os) (X := fun w _ => laidMetH Tryd.prog laidL w) false (World.doorLaid Tryd.prog 400 os) #[.agg #[.slice none 0 0, .int .i64 0, .int .i64 0, .slice none 0 0]] 8 rfl (World.shaped_of_RefB (by kernel_rfl) (by kernel_rfl)) (by kernel_rfl) (by kernel_rfl) (by kernel_rfl) (door_met os _)) ?_
  intro W base args ds gs before hval0 hW _ _ hL _
  have hval : ∀ (j : Nat) t v, Tryd.f3.params[j]? = some t → args[j]? = some v → Value.okWide Tryd.prog W .any base t v := hval0
  have hW' := hW
  obtain ⟨p, q, hA0, hV, rfl, hfz, hnd⟩ := hW
  have hA : DataW.TrodAll enc Tryd.prog W 0 (fun _ => true) true Tryd.f3.params.toList args.toList ds p := hA0
  rw [Tryd.params3] at hA hval
  obtain ⟨v0, vs0, d0, ds0, p0, q0, hargs, rfl, rfl, h0, r0⟩ := trodAll_cons hA
  obtain ⟨rfl, rfl, rfl⟩ := trodAll_nil r0
  obtain rfl : args = #[v0] := by cases args; simp_all
  have hV1 : DataW.TrodVars enc Tryd.prog W (fun _ => true) ["loop.example/g00385/impl.opNames"] gs q := hV
  obtain ⟨g0, u0, cs0, f0, e0, p9, rfl, hg0, hu0, hv0, hd0, rfl⟩ := trodVars_one hV1
  obtain rfl := Option.some.inj (gN.symm.trans hg0)
  obtain rfl := Option.some.inj (tN.symm.trans hu0)
  obtain rfl : cs0 = opV := Option.some.inj (hv0.symm.trans (of_laid hL).2)
  obtain ⟨rfl, rfl⟩ := DataW.Trod.unique (v := .agg opV) ⟨f0, hd0⟩ ⟨3, reads_nam enc W _⟩
  have lt0 : ∀ x ∈ p0, x.block < W.heap.size := by obtain ⟨m, hm⟩ := h0; exact DataW.trod_lt m _ _ _ hm
  obtain ⟨c0, rfl, _⟩ := okWide_struct Tryd.underlying25 (hval 0 25 v0 rfl rfl)
  obtain ⟨x0, hx0⟩ : ∃ x, ImgIs W 0 c0 x := by
    obtain ⟨m, hm⟩ := h0
    simpa [Value.cells] using open_Img Img_ty hm
  clear hA0 hval0
  refine (walk x0 c0 W hx0 (of_laid hL)).mono fun e W' ⟨he, bel⟩ => ?_
  subst he
  have hvars : ∀ sp : Nat → Bool, DataW.TrodVars enc Tryd.prog W' sp ["loop.example/g00385/impl.opNames"] [namD H] (MemPlace.row ⟨0, 0, none⟩ opV.size ++ [] ++ []) := fun sp =>
    ⟨0, 43, opV, 3, [], [], gN, tN, var_below (of_laid hL).2 bel, reads_nam enc W' sp, rfl, rfl⟩
  exact ⟨_, rfl, _, _, _, [], _, _, hW', trodAll_mk1 (shut_bool Tryd.underlying4 _), (trodAll_cons_mk (Below.trod laidOut (by kernel_rfl) (of_decide_eq_true (by kernel_rfl)) h0 bel lt0) trodAll_mk0), hvars _, bel.frame _, fun h => by cases h⟩

theorem over : Rows.FnExactShowCodeSaid :=
  OpenClaim.holds_of_wide 3 Tryd.f3 rfl rfl rfl rfl rfl rfl rfl ⟨rfl, rfl, rfl, rfl, rfl⟩ rfl rfl rfl rfl rfl (by kernel_rfl) Tryd.func3 (by kernel_rfl)
    (of_decide_eq_true (by kernel_rfl)) (by unfold Func.isWrapper; first | (rw [if_pos (by decide +kernel)]; kernel_rfl) | (rw [if_neg (by decide +kernel)]; exact ⟨rfl, rfl⟩))
    (fun os started H enc _ => lifted os started H enc)
end ShowCodeLaw

theorem fnExactShowCode_holds : Rows.FnExactShowCodeCardSaid :=
  Claim7.holds_tied_plain_at .later [] [.data, .data, .data, .data] true (true, Rows.fnExactShowCodeCard.stood.harness.2) Rows.fnExactShowCodeCard.stood.looks
    ShowCodeLaw.over (fun _ h => by cases h) (by kernel_rfl) (fun _ h => by cases h) fnExactShowCode_row_tie rfl ⟨rfl, rfl⟩ (by kernel_rfl) rfl
    (fun f fn hf hfn => by
      obtain rfl : f = 3 := Option.some.inj ((show Tryd.prog.funcNamed Rows.fnExactShowCodeRow.func = some 3 by kernel_rfl).symm.trans hf) |>.symm
      obtain rfl : fn = Tryd.f3 := (Option.some.inj (Tryd.func3.symm.trans hfn)).symm
      exact ⟨by kernel_rfl, fun j t ht => by
        rw [Tryd.params3] at ht
        have hm : t ∈ [25] := by simpa using Array.mem_of_getElem? ht
        have hall : ([25].all fun u => !Tryd.prog.wantsStandIn u) = true := by kernel_rfl
        exact (show Tryd.prog.wantsStandIn t = false by simpa using List.all_eq_true.1 hall t hm)⟩)
    (by kernel_rfl)
#print axioms fnExactShowCode_holds
end Go.Proofs.YtfoelnblnfcaiaaDoor
