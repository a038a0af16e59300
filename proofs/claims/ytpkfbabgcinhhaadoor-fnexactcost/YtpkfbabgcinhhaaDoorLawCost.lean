/- For every image and every two lists of numbers the law FnExactCost returns true (and all read as before); the card ties what the package variables hold to their text (over the pruned copy of the project that the seat was turned from). Written by wip/mklcost.py. -/
import Derived.Test.YtpkfbabgcinhhaaDoorCostW
import Derived.Test.YtpkfbabgcinhhaaDoorCkP
import Derived.Test.YtpkfbabgcinhhaaDoorTie
import Derived.Test.YtpkfbabgcinhhaaDoorCards
import Derived.LaidMore
import Derived.LaidHandle
import Derived.LaidLaws
import Derived.Stop.LaidErr
import Derived.Lib.LaidTab
import Derived.SevenTiedAt
import Derived.OpenShut
import Derived.ShutString
import Derived.Stop.Joined
import Derived.Carry
namespace Go.Proofs.YtpkfbabgcinhhaaDoor
open Go.ChangeShapes Go.WideShapes Go.ChangeAt Go.RowKit
open Go.ChangeMaps (open_string shut_string)
namespace CostLaw
theorem Wrd_ty : WrdTy Tryd.prog 3 79 :=
  ⟨⟨_, Tryd.underlying79, by rfl⟩, by kernel_rfl, Tryd.underlying3, by kernel_rfl⟩
theorem Img_ty : ImgTy Tryd.prog 3 22 79 23 25 :=
  ⟨⟨_, Tryd.underlying25, by rfl⟩, by kernel_rfl, Tryd.underlying3, by kernel_rfl, Tryd.underlying22, by kernel_rfl, Wrd_ty, Tryd.underlying23, by kernel_rfl⟩
theorem own : ownKnob Tryd.prog.godebug = none := by kernel_rfl
theorem laidOut : laidOutB Tryd.prog = true := by kernel_rfl
theorem gE : Tryd.prog.globalNamed "loop.example/g00385/impl.errNoImage" = some 0 := by kernel_rfl
theorem tE : (Tryd.prog.globals[0]?).map (·.type) = some 50 := by kernel_rfl
theorem gA : Tryd.prog.globalNamed "loop.example/g00385/impl.aluSigns" = some 1 := by kernel_rfl
theorem tA : (Tryd.prog.globals[1]?).map (·.type) = some 114 := by kernel_rfl
theorem gT : Tryd.prog.globalNamed "errors.errorType" = some 2 := by kernel_rfl
theorem rt : (Tryd.prog.cutTypes.find? (·.1 == "internal/reflectlite.rtype")).map (·.2) = some 100 := by kernel_rfl
theorem oneRow : ((List.range 169).filter fun t => Tryd.prog.rowNamed t [101, 114, 114, 111, 114]) = [50] := by kernel_rfl
theorem size : Tryd.prog.types.size = 169 := by kernel_rfl
theorem star : ("*" ++ "errors.errorString" : String) = "*errors.errorString" := by decide
theorem rowE (u : TypeId) (h : Tryd.prog.typeName? 3 u = some "*errors.errorString") : u = 136 :=
  typeName_ptr_named (nm := "errors.errorString") (by rw [star]; kernel_rfl) (by kernel_rfl) (by decide) u (by rw [star]; exact h)
theorem c6 : Tryd.prog.cellsOf 114 = 6 := by kernel_rfl
theorem cS : Tryd.prog.cellsOf 9 = 1 := by kernel_rfl
def sgA : List ByteArray := [⟨#[43]⟩, ⟨#[45]⟩, ⟨#[42]⟩, ⟨#[38]⟩, ⟨#[61, 61]⟩, ⟨#[60]⟩]
def sgV : Array Value := (sgA.map Value.string).toArray
def sgD (H : Type) : DataW H := .agg (sgA.map fun s => .lit (.string s.data.toList))
theorem sg_data : (sgD Unit : DataW Unit) = Rows.laid_loop_example_g00385_impl_aluSigns := by unfold sgD Rows.laid_loop_example_g00385_impl_aluSigns; rfl
/-- An array of texts that reads as these texts holds them, cell for cell. -/
theorem sg_of_trod {H : Type} {enc : TypeId × Value → H} {w : World} {base : Nat} {sp : Nat → Bool} {held : Bool} {fuel : Nat} {cs : List Value} {p : List MemPlace}
    (h : DataW.trod enc Tryd.prog w base sp held fuel 114 cs = some (sgD H, p)) : cs = sgA.map Value.string := by
  obtain ⟨xs, m, rfl, hx, hl, hn, he⟩ := DataW.trod_array Tryd.underlying114 h
  rw [c6] at hl
  have hxs : xs.map (·.1) = sgA.map fun s => (DataW.lit (.string s.data.toList) : DataW H) := by
    have := congrArg Prod.fst hx
    simpa [sgD] using this.symm
  apply List.ext_getElem?
  intro i
  by_cases hi : i < 6
  · have h1 := he i hi
    rw [cS, Nat.mul_one, List.getElem?_eq_getElem (by omega)] at h1
    obtain ⟨s, e1, e2, _⟩ := DataW.trod_string Tryd.underlying9 h1
    have h2 : (xs.map (·.1))[i]? = some (.lit (.string s.data.toList)) := by rw [List.getElem?_map, List.getElem?_eq_getElem (by omega), e2]; rfl
    rw [hxs, List.getElem?_map] at h2
    have hsl : i < sgA.length := hi
    rw [List.getElem?_eq_getElem hsl] at h2
    simp only [Option.map_some, Option.some.injEq, DataW.lit.injEq, Lit.string.injEq] at h2
    have h3 : sgA[i] = s := ByteArray.ext (Array.ext' h2)
    have h4 : cs[i]? = some (.string s) := by
      have := congrArg (·[0]?) e1
      simpa [List.getElem?_take, List.getElem?_drop] using this
    rw [h4, List.getElem?_map, List.getElem?_eq_getElem hsl, h3]; rfl
  · rw [List.getElem?_eq_none (by omega), List.getElem?_eq_none (by rw [List.length_map]; show 6 ≤ i; omega)]
def laidL : List (String × DataW Unit) := Rows.fnExactCostRow.laid
theorem door_met (os : Os) (args : Array Value) : laidMetH Tryd.prog laidL ((World.doorLaid Tryd.prog 400 os).forCall (fun _ _ => 0) ⟨#[], args, []⟩).memory :=
  laidMetH_of_parts3 (fuel := 8) (laidMet_of_run' 8 (by kernel_rfl) (by kernel_rfl)) (by kernel_rfl) (by kernel_rfl)
theorem of_laid {W : World} (h : laidMetH Tryd.prog laidL W) : ∃ a : Addr, W.var? Tryd.prog "loop.example/g00385/impl.errNoImage" = some #[.iface 136 (.pointer (some a))] ∧ W.var? Tryd.prog "loop.example/g00385/impl.aluSigns" = some sgV ∧ W.cell? ⟨2, 0, none⟩ = some (.iface 100 (.agg #[hT 50])) := by
  have h' : laidMet Tryd.prog [("loop.example/g00385/impl.aluSigns", Rows.laid_loop_example_g00385_impl_aluSigns), ("loop.example/g00385/impl.errNoImage", Rows.laid_loop_example_g00385_impl_errNoImage)] W ∧ handlesMet Tryd.prog [("errors.errorType", Rows.laid_errors_errorType)] W := h
  obtain ⟨h2, h4⟩ := h'
  have h1 : laidMet Tryd.prog [("loop.example/g00385/impl.errNoImage", Rows.laid_loop_example_g00385_impl_errNoImage)] W := h2.tail
  unfold Rows.laid_loop_example_g00385_impl_errNoImage at h1
  obtain ⟨a, s, hv, _⟩ := laid_sentinel h1 gE tE Tryd.underlying50 rowE Tryd.underlying136 Tryd.underlying157 rfl rfl Tryd.underlying9 (by kernel_rfl) (by kernel_rfl)
  refine ⟨a, hv, ?_, ?_⟩
  · rw [← sg_data] at h2
    obtain ⟨ps, ⟨g', t', cs, fuel, p, q, hg', ht', hvar, hd, _, _⟩, _⟩ := h2
    obtain rfl := Option.some.inj (gA.symm.trans hg')
    obtain rfl := Option.some.inj (tA.symm.trans ht')
    rw [hvar]
    have := sg_of_trod hd
    show some cs = some _
    congr 1
    apply Array.ext'
    rw [this]; rfl
  · obtain ⟨name, u, ty, e1, e2, e3, e4, e5⟩ := h4 _ (List.mem_singleton.2 rfl)
    have en : name = [101, 114, 114, 111, 114] := (Option.some.inj e1).symm
    subst en
    obtain rfl := Option.some.inj (rt.symm.trans e2)
    have hm : ty ∈ (List.range 169).filter fun t => Tryd.prog.rowNamed t [101, 114, 114, 111, 114] := List.mem_filter.2 ⟨List.mem_range.2 (by rw [← size]; exact e3), e4⟩
    rw [oneRow] at hm
    obtain rfl := List.mem_singleton.1 hm
    have hh : typeHandle Tryd.prog 50 = hT 50 := by kernel_rfl
    rw [hh] at e5
    simpa using World.var?_cell gT e5 0
theorem vars_of {W : World} (h : laidMetH Tryd.prog laidL W) : VarsC W := by
  obtain ⟨a, h1, h2, h3⟩ := of_laid h
  refine ⟨fun q hq => ?_, ⟨a, by have := World.var?_cell gE h1 0; exact this⟩, h3⟩
  have h4 := World.var?_cell gA h2 q
  rw [h4]
  match q, hq with
  | 0, _ => rfl
  | 1, _ => rfl
  | 2, _ => rfl
  | 3, _ => rfl
  | 4, _ => rfl
  | 5, _ => rfl
theorem reads_sg {H : Type} (enc : TypeId × Value → H) (W : World) (sp : Nat → Bool) : DataW.trod enc Tryd.prog W 0 sp true 3 114 sgV.toList = some (sgD H, []) := by kernel_rfl
theorem vars_both {H : Type} (enc : TypeId × Value → H) {W : World} {a : Addr} (h1 : W.var? Tryd.prog "loop.example/g00385/impl.errNoImage" = some #[.iface 136 (.pointer (some a))]) (h2 : W.var? Tryd.prog "loop.example/g00385/impl.aluSigns" = some sgV) (sp : Nat → Bool) :
    DataW.TrodVars enc Tryd.prog W sp ["loop.example/g00385/impl.errNoImage", "loop.example/g00385/impl.aluSigns"] [tok enc (.iface 136 (.pointer (some a))), sgD H] (MemPlace.row ⟨0, 0, none⟩ 1 ++ [] ++ (MemPlace.row ⟨1, 0, none⟩ sgV.size ++ [] ++ [])) :=
  ⟨0, 50, #[.iface 136 (.pointer (some a))], 1, [], _, gE, tE, h1, trod_held (v := .iface 136 (.pointer (some a))) Tryd.underlying50 trivial 0, ⟨1, 114, sgV, 3, [], [], gA, tA, h2, reads_sg enc W sp, rfl, rfl⟩, rfl⟩

set_option maxRecDepth 100000 in
theorem lifted (os : Os) (started : os.Started) (H : Type) (enc : TypeId × Value → H) :
    ReturnsInHanded {} Tryd.checked os 4 .any (fun w args => (Rows.fnExactCostSpec.pre enc Tryd.prog Tryd.f4 Rows.fnExactCostRow.domain false w args ∧ laidMetH Tryd.prog laidL w) ∧ sizedMet enc Tryd.prog Tryd.f4 (OpenSpec.ofChange Rows.fnExactCostSpec) false w args)
      (Rows.fnExactCostSpec.post enc Tryd.prog Tryd.f4 false true false false) := by
  refine returnsInHanded_of_change_and (C := Tryd.checked) (X := fun w _ => laidMetH Tryd.prog laidL w) (fun _ _ _ hh h => h.of_heap hh) own started (by kernel_rfl) Tryd.func4
    (ChangeSpec.witness_shaped (enc := enc) (C := Tryd.checked) (os := os) (X := fun w _ => laidMetH Tryd.prog laidL w) false (World.doorLaid Tryd.prog 400 os) #[.agg #[.slice none 0 0, .int .i64 0, .int .i64 0, .slice none 0 0], .slice none 0 0, .slice none 0 0] 8 rfl (World.shaped_of_RefB (by kernel_rfl) (by kernel_rfl)) (by kernel_rfl) (by kernel_rfl) (by kernel_rfl) (door_met os _)) ?_
  intro W base args ds gs before hval0 hW _ _ hL _
  have hval : ∀ (j : Nat) t v, Tryd.f4.params[j]? = some t → args[j]? = some v → Value.okWide Tryd.prog W .any base t v := hval0
  have hW' := hW
  obtain ⟨p, q, hA0, hV0, rfl, hfz, hnd⟩ := hW
  have hA : DataW.TrodAll enc Tryd.prog W 0 (fun _ => true) true Tryd.f4.params.toList args.toList ds p := hA0
  rw [Tryd.params4] at hA hval
  obtain ⟨v0, vs0, d0, ds0, p0, q0, hargs, rfl, rfl, h0, r0⟩ := trodAll_cons hA
  obtain ⟨v1, vs1, d1, ds1, p1, q1, rfl, rfl, rfl, h1, r1⟩ := trodAll_cons r0
  obtain ⟨v2, vs2, d2, ds2, p2, q2, rfl, rfl, rfl, h2, r2⟩ := trodAll_cons r1
  obtain ⟨rfl, rfl, rfl⟩ := trodAll_nil r2
  obtain rfl : args = #[v0, v1, v2] := by cases args; simp_all
  have hV : DataW.TrodVars enc Tryd.prog W (fun _ => true) ["loop.example/g00385/impl.errNoImage", "loop.example/g00385/impl.aluSigns"] gs q := hV0
  obtain ⟨a, hv1, hv2, _⟩ := of_laid hL
  obtain ⟨rfl, rfl⟩ := hV.unique (vars_both enc hv1 hv2 _)
  have lt0 : ∀ x ∈ p0, x.block < W.heap.size := by obtain ⟨m, hm⟩ := h0; exact DataW.trod_lt m _ _ _ hm
  obtain ⟨c0, rfl, _⟩ := okWide_struct Tryd.underlying25 (hval 0 25 v0 rfl rfl)
  obtain ⟨x0, hx0⟩ : ∃ x, ImgIs W 0 c0 x := by
    obtain ⟨m, hm⟩ := h0
    simpa [Value.cells] using open_Img Img_ty hm
  have lt1 : ∀ x ∈ p1, x.block < W.heap.size := by obtain ⟨m, hm⟩ := h1; exact DataW.trod_lt m _ _ _ hm
  obtain ⟨u1, k1, z1, e1, o1, _⟩ : ∃ a cap zs, v1 = .slice a (List.length zs) cap ∧ IntsIs W 0 a zs ∧ ∀ x ∈ zs, I64 x := by
    obtain ⟨m, hm⟩ := h1
    obtain ⟨a, cap, zs, hc, hz, hb⟩ := open_numsI Tryd.underlying22 Tryd.underlying3 (by kernel_rfl) hm
    obtain ⟨a', l, c, rfl⟩ := okWide_slice Tryd.underlying22 (hval 1 22 v1 rfl rfl)
    simp [Value.cells] at hc
    exact ⟨a, cap, zs, by simp [hc], hz, hb⟩
  subst e1
  have lt2 : ∀ x ∈ p2, x.block < W.heap.size := by obtain ⟨m, hm⟩ := h2; exact DataW.trod_lt m _ _ _ hm
  obtain ⟨u2, k2, z2, e2, o2, _⟩ : ∃ a cap zs, v2 = .slice a (List.length zs) cap ∧ IntsIs W 0 a zs ∧ ∀ x ∈ zs, I64 x := by
    obtain ⟨m, hm⟩ := h2
    obtain ⟨a, cap, zs, hc, hz, hb⟩ := open_numsI Tryd.underlying22 Tryd.underlying3 (by kernel_rfl) hm
    obtain ⟨a', l, c, rfl⟩ := okWide_slice Tryd.underlying22 (hval 2 22 v2 rfl rfl)
    simp [Value.cells] at hc
    exact ⟨a, cap, zs, by simp [hc], hz, hb⟩
  subst e2
  clear hA0 hval0 hV hV0
  refine (walk x0 c0 z1 u1 k1 z2 u2 k2 W hx0 o1 o2 (vars_of hL)).mono fun e W' ⟨he, bel⟩ => ?_
  subst he
  exact ⟨_, rfl, _, _, _, [], _, _, hW', trodAll_mk1 (shut_bool Tryd.underlying4 _), (trodAll_cons_mk (Below.trod laidOut (by kernel_rfl) (of_decide_eq_true (by kernel_rfl)) h0 bel lt0) (trodAll_cons_mk (Below.trod laidOut (by kernel_rfl) (of_decide_eq_true (by kernel_rfl)) h1 bel lt1) (trodAll_cons_mk (Below.trod laidOut (by kernel_rfl) (of_decide_eq_true (by kernel_rfl)) h2 bel lt2) trodAll_mk0))), vars_both enc (var_below hv1 bel) (var_below hv2 bel) _, bel.frame _, fun h => by cases h⟩

theorem over : Rows.FnExactCostSaid :=
  OpenClaim.holds_of_wide 4 Tryd.f4 rfl rfl rfl rfl rfl rfl rfl ⟨rfl, rfl, rfl, rfl, rfl⟩ rfl rfl rfl rfl rfl (by kernel_rfl) Tryd.func4 (by kernel_rfl)
    (of_decide_eq_true (by kernel_rfl)) (by unfold Func.isWrapper; first | (rw [if_pos (by decide +kernel)]; kernel_rfl) | (rw [if_neg (by decide +kernel)]; exact ⟨rfl, rfl⟩))
    (fun os started H enc _ => lifted os started H enc)
end CostLaw

theorem fnExactCost_holds : Rows.FnExactCostCardSaid :=
  Claim7.holds_tied_plain_at .later [] [.handle, .data, .sentinel] true (true, Rows.fnExactCostCard.stood.harness.2) Rows.fnExactCostCard.stood.looks
    CostLaw.over (fun _ h => by cases h) (by kernel_rfl) (fun _ h => by cases h) fnExactCost_row_tie rfl ⟨rfl, rfl⟩ (by kernel_rfl) rfl
    (fun f fn hf hfn => by
      obtain rfl : f = 4 := Option.some.inj ((show Tryd.prog.funcNamed Rows.fnExactCostRow.func = some 4 by kernel_rfl).symm.trans hf) |>.symm
      obtain rfl : fn = Tryd.f4 := (Option.some.inj (Tryd.func4.symm.trans hfn)).symm
      exact ⟨by kernel_rfl, fun j t ht => by
        rw [Tryd.params4] at ht
        have hm : t ∈ [25, 22] := by simpa using Array.mem_of_getElem? ht
        have hall : ([25, 22].all fun u => !Tryd.prog.wantsStandIn u) = true := by kernel_rfl
        exact (show Tryd.prog.wantsStandIn t = false by simpa using List.all_eq_true.1 hall t hm)⟩)
    (by kernel_rfl)
#print axioms fnExactCost_holds
end Go.Proofs.YtpkfbabgcinhhaaDoor
