/- For every text the law FnExactLex returns true (and the text and the project's two arrays of signs read as before); the card ties these two arrays to their text (over the pruned copy of the project that the seat was turned from). -/
import Derived.Test.YtjojcdjbplbdaafDoorLexWalk
import Derived.Test.YtjojcdjbplbdaafDoorTie
import Derived.Test.YtjojcdjbplbdaafDoorCards
import Derived.OpenShut
import Derived.ShutString
import Derived.LaidMore
import Derived.Stop.LaidErr
import Derived.Stop.Joined
import Derived.Lib.LaidTab
import Derived.SevenTiedAt
namespace Go.Proofs.YtjojcdjbplbdaafDoor
open Go.ChangeShapes Go.WideShapes Go.ChangeAt Go.RowKit
open Go.ChangeMaps (open_string shut_string)
namespace LexLaw

theorem own : ownKnob Tryd.prog.godebug = none := by kernel_rfl
def laidL : List (String × DataW Unit) := Rows.fnExactLexRow.laid
theorem door_met (os : Os) (args : Array Value) : laidMetH Tryd.prog laidL ((World.doorLaid Tryd.prog 400 os).forCall (fun _ _ => 0) ⟨#[], args, []⟩).memory :=
  laidMetH_of_parts3 (fuel := 8) (laidMet_of_run' 8 (by kernel_rfl) (by kernel_rfl)) (by kernel_rfl) (by kernel_rfl)
theorem gL : Tryd.prog.globalNamed "loop.example/g00385/impl.signLengths" = some 0 := by kernel_rfl
theorem gS : Tryd.prog.globalNamed "loop.example/g00385/impl.signs" = some 1 := by kernel_rfl
theorem tL : (Tryd.prog.globals[0]?).map (·.type) = some 56 := by kernel_rfl
theorem tS : (Tryd.prog.globals[1]?).map (·.type) = some 57 := by kernel_rfl
theorem c15 : Tryd.prog.cellsOf 57 = 15 := by kernel_rfl
theorem c9 : Tryd.prog.cellsOf 9 = 1 := by kernel_rfl
/-- The data of the two arrays. -/
def lensD (H : Type) : DataW H := .agg [.lit (.int .i64 2), .lit (.int .i64 1)]
def signsD (H : Type) : DataW H := .agg (signsA.map fun s => .lit (.string s.data.toList))
theorem reads_lens {H : Type} (enc : TypeId × Value → H) (W : World) (sp : Nat → Bool) : DataW.trod enc Tryd.prog W 0 sp true 3 56 lensV.toList = some (lensD H, []) := by kernel_rfl
theorem reads_signs {H : Type} (enc : TypeId × Value → H) (W : World) (sp : Nat → Bool) : DataW.trod enc Tryd.prog W 0 sp true 3 57 signsV.toList = some (signsD H, []) := by kernel_rfl
/-- An array of texts that reads as these texts holds them, cell for cell. -/
theorem strs_of_trod {H : Type} {enc : TypeId × Value → H} {w : World} {base : Nat} {sp : Nat → Bool} {held : Bool} {fuel : Nat} {cs : List Value} {p : List MemPlace}
    (h : DataW.trod enc Tryd.prog w base sp held fuel 57 cs = some (signsD H, p)) : cs = signsA.map Value.string := by
  obtain ⟨xs, m, rfl, hx, hl, hn, he⟩ := DataW.trod_array Tryd.underlying57 h
  rw [c15] at hl
  have hxs : xs.map (·.1) = signsA.map fun s => (DataW.lit (.string s.data.toList) : DataW H) := by
    have := congrArg Prod.fst hx
    simpa [signsD] using this.symm
  apply List.ext_getElem?
  intro i
  by_cases hi : i < 15
  · have h1 := he i hi
    rw [c9, Nat.mul_one, List.getElem?_eq_getElem (by omega)] at h1
    obtain ⟨s, e1, e2, _⟩ := DataW.trod_string Tryd.underlying9 h1
    have h2 : (xs.map (·.1))[i]? = some (.lit (.string s.data.toList)) := by rw [List.getElem?_map, List.getElem?_eq_getElem (by omega), e2]; rfl
    rw [hxs, List.getElem?_map] at h2
    have hsl : i < signsA.length := hi
    rw [List.getElem?_eq_getElem hsl] at h2
    simp only [Option.map_some, Option.some.injEq, DataW.lit.injEq, Lit.string.injEq] at h2
    have h3 : signsA[i] = s := ByteArray.ext (Array.ext' h2)
    have h4 : cs[i]? = some (.string s) := by
      have := congrArg (·[0]?) e1
      simpa [List.getElem?_take, List.getElem?_drop] using this
    rw [h4, List.getElem?_map, List.getElem?_eq_getElem hsl, h3]; rfl
  · rw [List.getElem?_eq_none (by omega), List.getElem?_eq_none (by rw [List.length_map]; show 15 ≤ i; omega)]
theorem of_laid {W : World} (h : laidMetH Tryd.prog laidL W) : W.var? Tryd.prog "loop.example/g00385/impl.signLengths" = some lensV ∧ W.var? Tryd.prog "loop.example/g00385/impl.signs" = some signsV := by
  rw [MakeChecks.laidMetH_plain _ _ _ (by kernel_rfl)] at h
  have h0 : laidMet Tryd.prog [("loop.example/g00385/impl.signLengths", Lib.tabData .i64 [2, 1]), ("loop.example/g00385/impl.signs", signsD Unit)] W := h
  have h1 : laidMet Tryd.prog [("loop.example/g00385/impl.signs", signsD Unit)] W := h0.tail
  refine ⟨Lib.tabIs_of_head (g := 0) (t := 56) (e := 3) (n := 2) gL tL Tryd.underlying56 Tryd.underlying3 (by kernel_rfl) (by kernel_rfl) h0, ?_⟩
  obtain ⟨ps, ⟨g', t', cs, fuel, p, q, hg', ht', hvar, hd, _, _⟩, _⟩ := h1
  obtain rfl := Option.some.inj (gS.symm.trans hg')
  obtain rfl := Option.some.inj (tS.symm.trans ht')
  rw [hvar]
  have := strs_of_trod hd
  show some cs = some _
  congr 1
  apply Array.ext'
  rw [this]; rfl
theorem heap_of_var {P : Program} {w : World} {n : String} {g : Nat} {cs : Array Value} (hg : P.globalNamed n = some g) (h : w.var? P n = some cs) : ∃ t fr, w.heap[g]? = some (.cells cs t fr) := by
  unfold World.var? at h
  rw [hg] at h
  simp only [Option.bind_some] at h
  split at h
  · rename_i cs' t fr hh; cases h; exact ⟨t, fr, hh⟩
  · cases h

theorem contract (H : Type) (enc : TypeId × Value → H) (W : World) (base : Nat) (args : Array Value) (ds gs : List (DataW H)) (before : List MemPlace)
    (hval0 : ∀ (j : Nat) t v, Tryd.f3.params[j]? = some t → args[j]? = some v → Value.okWide Tryd.prog W .any base t v)
    (hW : DataW.Whole enc Tryd.prog Tryd.f3.params.toList Rows.fnExactLexSpec.vars false W args.toList ds gs before) (hL : laidMetH Tryd.prog laidL W) :
    Calls Tryd.prog 3 args W fun e W' => ∃ v, e = .returned v ∧ Rows.fnExactLexSpec.post enc Tryd.prog Tryd.f3 false true false false W args v W' := by
  have hval : ∀ (j : Nat) t v, Tryd.f3.params[j]? = some t → args[j]? = some v → Value.okWide Tryd.prog W .any base t v := hval0
  have hW' := hW
  obtain ⟨p, q, hA0, hV0, rfl, hfz, hnd⟩ := hW
  have hA : DataW.TrodAll enc Tryd.prog W 0 (fun _ => true) true Tryd.f3.params.toList args.toList ds p := hA0
  have hV : DataW.TrodVars enc Tryd.prog W (fun _ => true) ["loop.example/g00385/impl.signLengths", "loop.example/g00385/impl.signs"] gs q := hV0
  rw [Tryd.params3] at hA hval
  obtain ⟨v0, d0, rfl, rfl, h0⟩ := trodAll_one hA
  obtain ⟨s, rfl, rfl, rfl, w0⟩ := open_string Tryd.underlying9 (hval 0 9 v0 rfl rfl) h0
  obtain ⟨vL, vS⟩ := of_laid hL
  obtain ⟨g0, u0, cs0, f0, e0, p0, g1, u1, cs1, f1, e1, p1, rfl, hg0, hu0, hv0, hd0, hg1, hu1, hv1, hd1, rfl⟩ := trodVars_two hV
  obtain rfl := Option.some.inj (gL.symm.trans hg0)
  obtain rfl := Option.some.inj (gS.symm.trans hg1)
  obtain rfl := Option.some.inj (tL.symm.trans hu0)
  obtain rfl := Option.some.inj (tS.symm.trans hu1)
  obtain rfl : cs0 = lensV := Option.some.inj (hv0.symm.trans vL)
  obtain rfl : cs1 = signsV := Option.some.inj (hv1.symm.trans vS)
  obtain ⟨rfl, rfl⟩ := DataW.Trod.unique (v := .agg lensV) ⟨f0, hd0⟩ ⟨3, reads_lens enc W _⟩
  obtain ⟨rfl, rfl⟩ := DataW.Trod.unique (v := .agg signsV) ⟨f1, hd1⟩ ⟨3, reads_signs enc W _⟩
  obtain ⟨t1, fr1, hh0⟩ := heap_of_var gL vL
  obtain ⟨t2, fr2, hh1⟩ := heap_of_var gS vS
  clear hA0 hV0 hval0
  refine (walk s W fr1 fr2 t1 t2 w0 hh0 hh1).mono fun e W' ⟨he, bel⟩ => ?_
  subst he
  have hvars : ∀ sp : Nat → Bool, DataW.TrodVars enc Tryd.prog W' sp ["loop.example/g00385/impl.signLengths", "loop.example/g00385/impl.signs"] [lensD H, signsD H] (MemPlace.row ⟨0, 0, none⟩ lensV.size ++ [] ++ (MemPlace.row ⟨1, 0, none⟩ signsV.size ++ [] ++ [])) := fun sp =>
    ⟨0, 56, lensV, 3, [], _, gL, tL, var_below vL bel, reads_lens enc W' sp, ⟨1, 57, signsV, 3, [], [], gS, tS, var_below vS bel, reads_signs enc W' sp, rfl, rfl⟩, rfl⟩
  exact ⟨_, rfl, _, _, _, [], [], _, hW', trodAll_mk1 (shut_bool Tryd.underlying4 _), trodAll_mk1 (shut_string Tryd.underlying9 w0), hvars _, bel.frame _, fun h => by cases h⟩

set_option maxRecDepth 100000 in
theorem lifted (os : Os) (started : os.Started) (H : Type) (enc : TypeId × Value → H) :
    ReturnsInHanded {} Tryd.checked os 3 .any (fun w args => (Rows.fnExactLexSpec.pre enc Tryd.prog Tryd.f3 Rows.fnExactLexRow.domain false w args ∧ laidMetH Tryd.prog laidL w) ∧ sizedMet enc Tryd.prog Tryd.f3 (OpenSpec.ofChange Rows.fnExactLexSpec) false w args)
      (Rows.fnExactLexSpec.post enc Tryd.prog Tryd.f3 false true false false) := by
  refine returnsInHanded_of_change_and (C := Tryd.checked) (X := fun w _ => laidMetH Tryd.prog laidL w) (fun _ _ _ hh h => h.of_heap hh) own started (by kernel_rfl) Tryd.func3
    (ChangeSpec.witness_shaped (enc := enc) (C := Tryd.checked) (os := os) (X := fun w _ => laidMetH Tryd.prog laidL w) false (World.doorLaid Tryd.prog 400 os) #[.string ByteArray.empty] 8 rfl (World.shaped_of_RefB (by kernel_rfl) (by kernel_rfl)) (by kernel_rfl) (by kernel_rfl) (by kernel_rfl) (door_met os _)) ?_
  intro W base args ds gs before hval0 hW _ _ hL _
  exact contract H enc W base args ds gs before hval0 hW hL

theorem row_holds : Rows.FnExactLexSaid :=
  OpenClaim.holds_of_wide 3 Tryd.f3 rfl rfl rfl rfl rfl rfl rfl ⟨rfl, rfl, rfl, rfl, rfl⟩ rfl rfl rfl rfl rfl (by kernel_rfl) Tryd.func3 (by kernel_rfl)
    (of_decide_eq_true (by kernel_rfl)) (by unfold Func.isWrapper; first | (rw [if_pos (by decide +kernel)]; kernel_rfl) | (rw [if_neg (by decide +kernel)]; exact ⟨rfl, rfl⟩))
    (fun os started H enc _ => lifted os started H enc)
end LexLaw

theorem fnExactLex_holds : Rows.FnExactLexCardSaid :=
  Claim7.holds_tied_plain_at .later [] [.data, .data] true (true, Rows.fnExactLexCard.stood.harness.2) true
    LexLaw.row_holds (fun _ h => by cases h) (by kernel_rfl) (fun _ h => by cases h) fnExactLex_row_tie rfl ⟨rfl, rfl⟩ (by kernel_rfl) rfl
    (fun f fn hf hfn => by
      obtain rfl : f = 3 := Option.some.inj ((show Tryd.prog.funcNamed Rows.fnExactLexRow.func = some 3 by kernel_rfl).symm.trans hf) |>.symm
      obtain rfl : fn = Tryd.f3 := (Option.some.inj (Tryd.func3.symm.trans hfn)).symm
      exact ⟨by kernel_rfl, fun j t ht => by
        rw [Tryd.params3] at ht
        have hm : t ∈ [9] := by simpa using Array.mem_of_getElem? ht
        have hall : ([9].all fun u => !Tryd.prog.wantsStandIn u) = true := by kernel_rfl
        exact (show Tryd.prog.wantsStandIn t = false by simpa using List.all_eq_true.1 hall t hm)⟩)
    (by kernel_rfl)
#print axioms fnExactLex_holds
end Go.Proofs.YtjojcdjbplbdaafDoor
