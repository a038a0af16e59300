/- For every image the law FnExactAsm returns true (and the image reads as before); the card ties the tables of the library and of the program to their text (over the pruned copy of the project that the seat was turned from). Written by wip/mklasm.py. -/
import Derived.Test.YtheholgdfmipbaaDoorAsmW
import Derived.Test.YtheholgdfmipbaaDoorOpenTree
import Derived.Test.YtheholgdfmipbaaDoorImageO
import Derived.Test.YtheholgdfmipbaaDoorTie
import Derived.Test.YtheholgdfmipbaaDoorCards
import Derived.LaidMore
import Derived.Stop.LaidErr
import Derived.Lib.LaidTab
import Derived.SevenTiedAt
import Derived.OpenShut
import Derived.ShutString
import Derived.Stop.Joined
import Derived.Lay
import Derived.Shelf.Vars
import Derived.Carry
namespace Go.Proofs.YtheholgdfmipbaaDoor
open Go.ChangeShapes Go.WideShapes Go.ChangeAt Go.RowKit
open Go.ChangeMaps (open_string shut_string)
namespace AsmLaw
theorem Wrd_ty : WrdTy Tryd.prog 3 68 :=
  ⟨⟨_, Tryd.underlying68, by rfl⟩, by kernel_rfl, Tryd.underlying3, by kernel_rfl⟩
theorem Img_ty : ImgTy Tryd.prog 3 25 68 26 28 :=
  ⟨⟨_, Tryd.underlying28, by rfl⟩, by kernel_rfl, Tryd.underlying3, by kernel_rfl, Tryd.underlying25, by kernel_rfl, Wrd_ty, Tryd.underlying26, by kernel_rfl⟩
theorem own : ownKnob Tryd.prog.godebug = none := by kernel_rfl
theorem laidOut : laidOutB Tryd.prog = true := by kernel_rfl
def laidL : List (String × DataW Unit) := Rows.fnExactAsmRow.laid
theorem lay_met (os : Os) (args : Array Value) : laidMetH Tryd.prog laidL ((World.laidAll Tryd.prog os laidL).forCall (fun _ _ => 0) ⟨#[], args, []⟩).memory := by
  rw [MakeChecks.laidMetH_plain _ _ _ (by kernel_rfl)]
  exact laidMet_laidAll _ (by kernel_rfl) (by kernel_rfl)
theorem max_len {W : World} (h : W.ShapedOpen Tryd.prog) : ∃ m, W.cell? ⟨4, 0, none⟩ = some (.int .i64 m) :=
  cell_of_shapedOpen_int (t := 3) (zero := #[.int .i64 0]) h (of_decide_eq_true (by kernel_rfl)) (by kernel_rfl) rfl (by kernel_rfl) (by kernel_rfl) Tryd.underlying3
theorem pow10_data : (Lib.tabData .u64 Lib.pow10Tab : DataW Unit) = Rows.laid_internal_strconv_uint64pow10 := by
  unfold Lib.tabData Rows.laid_internal_strconv_uint64pow10 Lib.pow10Tab; rfl
theorem tN : (Tryd.prog.globals[0]?).map (·.type) = some 77 := by kernel_rfl
theorem tA : (Tryd.prog.globals[1]?).map (·.type) = some 78 := by kernel_rfl
theorem c12 : Tryd.prog.cellsOf 77 = 12 := by kernel_rfl
theorem c6 : Tryd.prog.cellsOf 78 = 6 := by kernel_rfl
theorem cS : Tryd.prog.cellsOf 9 = 1 := by kernel_rfl
/-- The data of the names and of the signs. -/
def namD (H : Type) : DataW H := .agg (opA.map fun s => .lit (.string s.data.toList))
def sgD (H : Type) : DataW H := .agg (aluT.map fun s => .lit (.string s.data.toList))
theorem nam_data : (namD Unit : DataW Unit) = Rows.laid_loop_example_g00385_impl_opNames := by unfold namD Rows.laid_loop_example_g00385_impl_opNames; rfl
theorem sg_data : (sgD Unit : DataW Unit) = Rows.laid_loop_example_g00385_impl_aluSigns := by unfold sgD Rows.laid_loop_example_g00385_impl_aluSigns; rfl
/-- An array of texts that reads as these texts holds them, cell for cell. -/
theorem nam_of_trod {H : Type} {enc : TypeId × Value → H} {w : World} {base : Nat} {sp : Nat → Bool} {held : Bool} {fuel : Nat} {cs : List Value} {p : List MemPlace}
    (h : DataW.trod enc Tryd.prog w base sp held fuel 77 cs = some (namD H, p)) : cs = opA.map Value.string := by
  obtain ⟨xs, m, rfl, hx, hl, hn, he⟩ := DataW.trod_array Tryd.underlying77 h
  rw [c12] at hl
  have hxs : xs.map (·.1) = opA.map fun s => (DataW.lit (.string s.data.toList) : DataW H) := by
    have := congrArg Prod.fst hx
    simpa [namD] using this.symm
  apply List.ext_getElem?
  intro i
  by_cases hi : i < 12
  · have h1 := he i hi
    rw [cS, Nat.mul_one, List.getElem?_eq_getElem (by omega)] at h1
    obtain ⟨s, e1, e2, _⟩ := DataW.trod_string Tryd.underlying9 h1
    have h2 : (xs.map (·.1))[i]? = some (.lit (.string s.data.toList)) := by rw [List.getElem?_map, List.getElem?_eq_getElem (by omega), e2]; rfl
    rw [hxs, List.getElem?_map] at h2
    have hsl : i < opA.length := hi
    rw [List.getElem?_eq_getElem hsl] at h2
    simp only [Option.map_some, Option.some.injEq, DataW.lit.injEq, Lit.string.injEq] at h2
    have h3 : opA[i] = s := ByteArray.ext (Array.ext' h2)
    have h4 : cs[i]? = some (.string s) := by
      have := congrArg (·[0]?) e1
      simpa [List.getElem?_take, List.getElem?_drop] using this
    rw [h4, List.getElem?_map, List.getElem?_eq_getElem hsl, h3]; rfl
  · rw [List.getElem?_eq_none (by omega), List.getElem?_eq_none (by rw [List.length_map]; show 12 ≤ i; omega)]
/-- An array of texts that reads as these texts holds them, cell for cell. -/
theorem sg_of_trod {H : Type} {enc : TypeId × Value → H} {w : World} {base : Nat} {sp : Nat → Bool} {held : Bool} {fuel : Nat} {cs : List Value} {p : List MemPlace}
    (h : DataW.trod enc Tryd.prog w base sp held fuel 78 cs = some (sgD H, p)) : cs = aluT.map Value.string := by
  obtain ⟨xs, m, rfl, hx, hl, hn, he⟩ := DataW.trod_array Tryd.underlying78 h
  rw [c6] at hl
  have hxs : xs.map (·.1) = aluT.map fun s => (DataW.lit (.string s.data.toList) : DataW H) := by
    have := congrArg Prod.fst hx
    simpa [sgD] using this.symm
  apply List.ext_getElem?
  intro i
  by_cases hi : i < 6
  · have h1 := he i hi
    rw [cS, Nat.mul_one, List.getElem?_eq_getElem (by omega)] at h1
    obtain ⟨s, e1, e2, _⟩ := DataW.trod_string Tryd.underlying9 h1
    have h2 : (xs.map (·.1))[i]? = some (.lit (.string s.data.toList)) := by rw [List.getElem?_map, List.getElem?_eq_getElem (by omega), e2]; rfl
    rw [hxs, List.getElem?_map] at h2
    have hsl : i < aluT.length := hi
    rw [List.getElem?_eq_getElem hsl] at h2
    simp only [Option.map_some, Option.some.injEq, DataW.lit.injEq, Lit.string.injEq] at h2
    have h3 : aluT[i] = s := ByteArray.ext (Array.ext' h2)
    have h4 : cs[i]? = some (.string s) := by
      have := congrArg (·[0]?) e1
      simpa [List.getElem?_take, List.getElem?_drop] using this
    rw [h4, List.getElem?_map, List.getElem?_eq_getElem hsl, h3]; rfl
  · rw [List.getElem?_eq_none (by omega), List.getElem?_eq_none (by rw [List.length_map]; show 6 ≤ i; omega)]
theorem of_laid {W : World} (h : laidMetH Tryd.prog laidL W) : TabA W := by
  rw [MakeChecks.laidMetH_plain _ _ _ (by kernel_rfl)] at h
  have h2 : laidMet Tryd.prog [("internal/strconv.uint64pow10", Rows.laid_internal_strconv_uint64pow10), ("unicode/utf8.acceptRanges", Rows.laid_unicode_utf8_acceptRanges), ("loop.example/g00385/impl.opNames", Rows.laid_loop_example_g00385_impl_opNames), ("loop.example/g00385/impl.aluSigns", Rows.laid_loop_example_g00385_impl_aluSigns), ("unicode/utf8.first", Rows.laid_unicode_utf8_first)] W := h.tail.tail
  have h3 : laidMet Tryd.prog [("loop.example/g00385/impl.opNames", Rows.laid_loop_example_g00385_impl_opNames), ("loop.example/g00385/impl.aluSigns", Rows.laid_loop_example_g00385_impl_aluSigns), ("unicode/utf8.first", Rows.laid_unicode_utf8_first)] W := h2.tail.tail
  have h4 : laidMet Tryd.prog [("loop.example/g00385/impl.aluSigns", Rows.laid_loop_example_g00385_impl_aluSigns), ("unicode/utf8.first", Rows.laid_unicode_utf8_first)] W := h3.tail
  rw [← pow10_data] at h2
  rw [← nam_data] at h3
  rw [← sg_data] at h4
  refine ⟨Lib.tabIs_of_head (g := 5) (t := 119) (e := 99) (n := 20) (by kernel_rfl) (by kernel_rfl) Tryd.underlying119 Tryd.underlying99 (by kernel_rfl) (by kernel_rfl) h2, ?_, ?_⟩
  · obtain ⟨ps, ⟨g', t', cs, fuel, p, q, hg', ht', hvar, hd, _, _⟩, _⟩ := h3
    obtain rfl := Option.some.inj (gNA.symm.trans hg')
    obtain rfl := Option.some.inj (tN.symm.trans ht')
    rw [hvar]
    have := nam_of_trod hd
    show some cs = some _
    congr 1
    apply Array.ext'
    rw [this]; rfl
  · obtain ⟨ps, ⟨g', t', cs, fuel, p, q, hg', ht', hvar, hd, _, _⟩, _⟩ := h4
    obtain rfl := Option.some.inj (gAA.symm.trans hg')
    obtain rfl := Option.some.inj (tA.symm.trans ht')
    rw [hvar]
    have := sg_of_trod hd
    show some cs = some _
    congr 1
    apply Array.ext'
    rw [this]; rfl
theorem reads_nam {H : Type} (enc : TypeId × Value → H) (W : World) (sp : Nat → Bool) : DataW.trod enc Tryd.prog W 0 sp true 3 77 opV.toList = some (namD H, []) := by kernel_rfl
theorem reads_sg {H : Type} (enc : TypeId × Value → H) (W : World) (sp : Nat → Bool) : DataW.trod enc Tryd.prog W 0 sp true 3 78 aluV.toList = some (sgD H, []) := by kernel_rfl
theorem vars_both {H : Type} (enc : TypeId × Value → H) {W : World} (h1 : W.var? Tryd.prog "loop.example/g00385/impl.opNames" = some opV) (h2 : W.var? Tryd.prog "loop.example/g00385/impl.aluSigns" = some aluV) (sp : Nat → Bool) :
    DataW.TrodVars enc Tryd.prog W sp ["loop.example/g00385/impl.opNames", "loop.example/g00385/impl.aluSigns"] [namD H, sgD H] (MemPlace.row ⟨0, 0, none⟩ opV.size ++ [] ++ (MemPlace.row ⟨1, 0, none⟩ aluV.size ++ [] ++ [])) :=
  ⟨0, 77, opV, 3, [], _, gNA, tN, h1, reads_nam enc W sp, ⟨1, 78, aluV, 3, [], [], gAA, tA, h2, reads_sg enc W sp, rfl, rfl⟩, rfl⟩
set_option maxRecDepth 100000 in
theorem contract (H : Type) (enc : TypeId × Value → H) (W : World) (base : Nat) (args : Array Value) (ds gs : List (DataW H)) (before : List MemPlace)
    (hval0 : ∀ (j : Nat) t v, Tryd.f4.params[j]? = some t → args[j]? = some v → Value.okWide Tryd.prog W .any base t v)
    (hW : DataW.Whole enc Tryd.prog Tryd.f4.params.toList Rows.fnExactAsmSpec.vars false W args.toList ds gs before) (hsh : W.ShapedOpen Tryd.prog) (hL : laidMetH Tryd.prog laidL W) :
    Calls Tryd.prog 4 args W fun e W' => ∃ v, e = .returned v ∧ Rows.fnExactAsmSpec.post enc Tryd.prog Tryd.f4 false true false false W args v W' := by
  have hval : ∀ (j : Nat) t v, Tryd.f4.params[j]? = some t → args[j]? = some v → Value.okWide Tryd.prog W .any base t v := hval0
  have hW' := hW
  obtain ⟨p, q, hA0, hV0, rfl, hfz, hnd⟩ := hW
  have hA : DataW.TrodAll enc Tryd.prog W 0 (fun _ => true) true Tryd.f4.params.toList args.toList ds p := hA0
  rw [Tryd.params4] at hA hval
  obtain ⟨v0, vs0, d0, ds0, p0, q0, hargs, rfl, rfl, h0, r0⟩ := trodAll_cons hA
  obtain ⟨rfl, rfl, rfl⟩ := trodAll_nil r0
  obtain rfl : args = #[v0] := by cases args; simp_all
  have hV : DataW.TrodVars enc Tryd.prog W (fun _ => true) ["loop.example/g00385/impl.opNames", "loop.example/g00385/impl.aluSigns"] gs q := hV0
  have TA := of_laid hL
  obtain ⟨rfl, rfl⟩ := hV.unique (vars_both enc TA.nam TA.alu _)
  have lt0 : ∀ x ∈ p0, x.block < W.heap.size := by obtain ⟨m, hm⟩ := h0; exact DataW.trod_lt m _ _ _ hm
  obtain ⟨c0, rfl, _⟩ := okWide_struct Tryd.underlying28 (hval 0 28 v0 rfl rfl)
  obtain ⟨x0, hx0⟩ : ∃ x, ImgIs W 0 c0 x := by
    obtain ⟨m, hm⟩ := h0
    simpa [Value.cells] using open_Img Img_ty hm
  clear hA0 hval0 hV hV0
  obtain ⟨ml, hml⟩ := max_len hsh
  refine (walk x0 c0 W hx0 ⟨TA, ml, hml⟩).mono fun e W' ⟨he, bel⟩ => ?_
  subst he
  exact ⟨_, rfl, _, _, _, [], _, _, hW', trodAll_mk1 (shut_bool Tryd.underlying4 _), (trodAll_cons_mk (Below.trod laidOut (by kernel_rfl) (of_decide_eq_true (by kernel_rfl)) h0 bel lt0) trodAll_mk0), vars_both enc (var_below TA.nam bel) (var_below TA.alu bel) _, bel.frame _, fun h => by cases h⟩

set_option maxRecDepth 100000 in
theorem lifted (os : Os) (started : os.Started) (H : Type) (enc : TypeId × Value → H) :
    ReturnsInHanded {} Tryd.checked os 4 .any (fun w args => (Rows.fnExactAsmSpec.pre enc Tryd.prog Tryd.f4 Rows.fnExactAsmRow.domain false w args ∧ laidMetH Tryd.prog laidL w) ∧ sizedMet enc Tryd.prog Tryd.f4 (OpenSpec.ofChange Rows.fnExactAsmSpec) false w args)
      (Rows.fnExactAsmSpec.post enc Tryd.prog Tryd.f4 false true false false) := by
  refine returnsInHanded_of_calls own started (by kernel_rfl)
    (ChangeSpec.witness_shaped (enc := enc) (C := Tryd.checked) (os := os) (X := fun w _ => laidMetH Tryd.prog laidL w) false (World.laidAll Tryd.prog os laidL) #[.agg #[.slice none 0 0, .int .i64 0, .int .i64 0, .slice none 0 0]] 8 (World.laidAll_os _ _ _) (World.shaped_of_ZipB (by kernel_rfl) (by kernel_rfl)) (by kernel_rfl) (by kernel_rfl) (by kernel_rfl) (lay_met os _)) ?_
  intro w tape i _ hsh _ hok hpre hholds
  obtain ⟨_, _, _, fn', hfn', _, _, _, _, hval0⟩ := hok
  obtain rfl : fn' = Tryd.f4 := Option.some.inj (hfn'.symm.trans Tryd.func4)
  obtain ⟨⟨⟨ds, gs, before, hw, _⟩, hLd⟩, _⟩ := hpre
  have hW := DataW.Whole.of_heap (w' := w.forCall tape i) (by rfl) hw
  refine (contract H enc (w.forCall tape i) w.heap.size i.args ds gs before hval0 hW hsh (hLd.of_heap (by rfl))).mono fun e W' ⟨v, he, hp⟩ => ?_
  subst he
  exact ChangeSpec.post_blind hp

theorem row_holds : Rows.FnExactAsmSaid :=
  OpenClaim.holds_of_wide 4 Tryd.f4 rfl rfl rfl rfl rfl rfl rfl ⟨rfl, rfl, rfl, rfl, rfl⟩ rfl rfl rfl rfl rfl (by kernel_rfl) Tryd.func4 (by kernel_rfl)
    (of_decide_eq_true (by kernel_rfl)) (by unfold Func.isWrapper; first | (rw [if_pos (by decide +kernel)]; kernel_rfl) | (rw [if_neg (by decide +kernel)]; exact ⟨rfl, rfl⟩))
    (fun os started H enc _ => lifted os started H enc)
end AsmLaw

theorem fnExactAsm_holds : Rows.FnExactAsmCardSaid :=
  Claim7.holds_tied_plain_at .later [] [.data, .data, .data, .data, .data, .data, .pinned] true (true, Rows.fnExactAsmCard.stood.harness.2) Rows.fnExactAsmCard.stood.looks
    AsmLaw.row_holds (fun _ h => by cases h) (by kernel_rfl) (fun _ h => by cases h) fnExactAsm_row_tie rfl ⟨rfl, rfl⟩ (by kernel_rfl) rfl
    (fun f fn hf hfn => by
      obtain rfl : f = 4 := Option.some.inj ((show Tryd.prog.funcNamed Rows.fnExactAsmRow.func = some 4 by kernel_rfl).symm.trans hf) |>.symm
      obtain rfl : fn = Tryd.f4 := (Option.some.inj (Tryd.func4.symm.trans hfn)).symm
      exact ⟨by kernel_rfl, fun j t ht => by
        rw [Tryd.params4] at ht
        have hm : t ∈ [28] := by simpa using Array.mem_of_getElem? ht
        have hall : ([28].all fun u => !Tryd.prog.wantsStandIn u) = true := by kernel_rfl
        exact (show Tryd.prog.wantsStandIn t = false by simpa using List.all_eq_true.1 hall t hm)⟩)
    (by kernel_rfl)
#print axioms fnExactAsm_holds
end Go.Proofs.YtheholgdfmipbaaDoor
