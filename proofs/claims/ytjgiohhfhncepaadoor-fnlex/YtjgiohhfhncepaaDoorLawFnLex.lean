/- For every draw the law FnLex returns true (and the draw and the project's two arrays of signs read as before); the card ties the listed variables of the project and of the library to their text (over the pruned copy of the project that the seat was turned from). -/
import Derived.Test.YtjgiohhfhncepaaDoorFnLexWalk
import Derived.Test.YtjgiohhfhncepaaDoorTie
import Derived.Test.YtjgiohhfhncepaaDoorCards
import Derived.OpenShut
import Derived.ShutString
import Derived.ChangeOld
import Derived.Stop.LaidErr
import Derived.Stop.Joined
import Derived.Lib.LaidTab
import Derived.Lay
import Derived.Shelf.Vars
import Derived.SevenTiedAt
namespace Go.Proofs.YtjgiohhfhncepaaDoor
open Go.ChangeShapes Go.WideShapes Go.ChangeAt Go.RowKit
namespace FnLexLaw

theorem own : ownKnob Tryd.prog.godebug = none := by kernel_rfl
theorem laidOut : laidOutB Tryd.prog = true := by kernel_rfl
def laidL : List (String × DataW Unit) := Rows.fnLexRow.laid
theorem lay_met (os : Os) (args : Array Value) : laidMetH Tryd.prog laidL ((World.laidAll Tryd.prog os laidL).forCall (fun _ _ => 0) ⟨#[], args, []⟩).memory := by
  rw [MakeChecks.laidMetH_plain _ _ _ (by kernel_rfl)]
  exact laidMet_laidAll _ (by kernel_rfl) (by kernel_rfl)
theorem max_len {W : World} (h : W.ShapedOpen Tryd.prog) : ∃ m, W.cell? ⟨5, 0, none⟩ = some (.int .i64 m) :=
  cell_of_shapedOpen_int (t := 3) (zero := #[.int .i64 0]) h (of_decide_eq_true (by kernel_rfl)) (by kernel_rfl) rfl (by kernel_rfl) (by kernel_rfl) Tryd.underlying3
theorem gL : Tryd.prog.globalNamed "loop.example/g00385/impl.signLengths" = some 0 := by kernel_rfl
theorem gS : Tryd.prog.globalNamed "loop.example/g00385/impl.signs" = some 1 := by kernel_rfl
theorem tL : (Tryd.prog.globals[0]?).map (·.type) = some 67 := by kernel_rfl
theorem tS : (Tryd.prog.globals[1]?).map (·.type) = some 68 := by kernel_rfl
theorem c15 : Tryd.prog.cellsOf 68 = 15 := by kernel_rfl
theorem c9 : Tryd.prog.cellsOf 9 = 1 := by kernel_rfl
/-- The data of the two arrays. -/
def lensD (H : Type) : DataW H := .agg [.lit (.int .i64 2), .lit (.int .i64 1)]
def signsD (H : Type) : DataW H := .agg (signsA.map fun s => .lit (.string s.data.toList))
theorem reads_lens {H : Type} (enc : TypeId × Value → H) (W : World) (sp : Nat → Bool) : DataW.trod enc Tryd.prog W 0 sp true 3 67 lensV.toList = some (lensD H, []) := by kernel_rfl
theorem reads_signs {H : Type} (enc : TypeId × Value → H) (W : World) (sp : Nat → Bool) : DataW.trod enc Tryd.prog W 0 sp true 3 68 signsV.toList = some (signsD H, []) := by kernel_rfl
/-- An array of texts that reads as these texts holds them, cell for cell. -/
theorem strs_of_trod {H : Type} {enc : TypeId × Value → H} {w : World} {base : Nat} {sp : Nat → Bool} {held : Bool} {fuel : Nat} {cs : List Value} {p : List MemPlace}
    (h : DataW.trod enc Tryd.prog w base sp held fuel 68 cs = some (signsD H, p)) : cs = signsA.map Value.string := by
  obtain ⟨xs, m, rfl, hx, hl, hn, he⟩ := DataW.trod_array Tryd.underlying68 h
  rw [c15] at hl
  have hxs : xs.map (·.1) = signsA.map fun s => (DataW.lit (.string s.data.toList) : DataW H) := by
    have := congrArg Prod.fst hx
    simpa [signsD] using this.symm
  apply List.ext_getElem?
  intro i
  by_cases hi : i < 15
  · have h1 := he i hi
    rw [c9, Nat.mul_one, List.getElem?_eq_getElem (by omega)] at h1
    obtain ⟨s, e1, e2, _⟩ := DataW.trod_string Tryd.underlying9 h1
    have h2 : (xs.map (·.1))[i]? = some (.lit (.string s.data.toList)) := by rw [List.getElem?_map, List.getElem?_eq_getElem (by omega), e2]; rfl
    rw [hxs, List.getElem?_map] at h2
    have hsl : i < signsA.length := hi
    rw [List.getElem?_eq_getElem hsl] at h2
    simp only [Option.map_some, Option.some.injEq, DataW.lit.injEq, Lit.string.injEq] at h2
    have h3 : signsA[i] = s := ByteArray.ext (Array.ext' h2)
    have h4 : cs[i]? = some (.string s) := by
      have := congrArg (·[0]?) e1
      simpa [List.getElem?_take, List.getElem?_drop] using this
    rw [h4, List.getElem?_map, List.getElem?_eq_getElem hsl, h3]; rfl
  · rw [List.getElem?_eq_none (by omega), List.getElem?_eq_none (by rw [List.length_map]; show 15 ≤ i; omega)]
theorem heap_of_var {P : Program} {w : World} {n : String} {g : Nat} {cs : Array Value} (hg : P.globalNamed n = some g) (h : w.var? P n = some cs) : ∃ t fr, w.heap[g]? = some (.cells cs t fr) := by
  unfold World.var? at h
  rw [hg] at h
  simp only [Option.bind_some] at h
  split at h
  · rename_i cs' t fr hh; cases h; exact ⟨t, fr, hh⟩
  · cases h

theorem pow10_data : (Lib.tabData .u64 Lib.pow10Tab : DataW Unit) = Rows.laid_internal_strconv_uint64pow10 := by
  unfold Lib.tabData Rows.laid_internal_strconv_uint64pow10 Lib.pow10Tab; rfl
theorem star : "*" ++ "errors.errorString" = "*errors.errorString" := by decide
theorem row_err (u : TypeId) (h : Tryd.prog.typeName? 3 u = some "*errors.errorString") : u = 101 :=
  typeName_ptr_named (nm := "errors.errorString") (by rw [star]; kernel_rfl) (by kernel_rfl) (by decide) u (by rw [star]; exact h)
theorem of_laid {W : World} (h : laidMetH Tryd.prog laidL W) : Lib.TabIs Tryd.prog W "internal/strconv.uint64pow10" .u64 Lib.pow10Tab ∧ (∃ tp p, W.var? Tryd.prog "strconv.ErrSyntax" = some #[.iface tp p]) ∧ (∃ tp p, W.var? Tryd.prog "strconv.ErrRange" = some #[.iface tp p]) ∧ W.var? Tryd.prog "loop.example/g00385/impl.signLengths" = some lensV ∧ W.var? Tryd.prog "loop.example/g00385/impl.signs" = some signsV := by
  rw [MakeChecks.laidMetH_plain _ _ _ (by kernel_rfl)] at h
  have h2 : laidMet Tryd.prog (("internal/strconv.uint64pow10", Rows.laid_internal_strconv_uint64pow10) :: laidL.drop 3) W := h.tail.tail
  have h3 : laidMet Tryd.prog (("strconv.ErrRange", Rows.laid_strconv_ErrRange) :: laidL.drop 5) W := h2.tail.tail
  have h4 : laidMet Tryd.prog (("strconv.ErrSyntax", Rows.laid_strconv_ErrSyntax) :: laidL.drop 6) W := h3.tail
  have h5 : laidMet Tryd.prog (("loop.example/g00385/impl.signLengths", Lib.tabData .i64 [2, 1]) :: laidL.drop 7) W := h4.tail
  have h6 : laidMet Tryd.prog (("loop.example/g00385/impl.signs", signsD Unit) :: laidL.drop 8) W := h5.tail
  rw [← pow10_data] at h2
  obtain ⟨a0, s0, hv0, -, -, -⟩ := laid_sentinel h3 (g := 3) (by kernel_rfl) (by kernel_rfl) Tryd.underlying61 row_err Tryd.underlying101 Tryd.underlying103 rfl rfl Tryd.underlying9 (by kernel_rfl) (by kernel_rfl)
  obtain ⟨a1, s1, hv1, -, -, -⟩ := laid_sentinel h4 (g := 2) (by kernel_rfl) (by kernel_rfl) Tryd.underlying61 row_err Tryd.underlying101 Tryd.underlying103 rfl rfl Tryd.underlying9 (by kernel_rfl) (by kernel_rfl)
  refine ⟨Lib.tabIs_of_head (g := 4) (t := 95) (e := 80) (n := 20) (by kernel_rfl) (by kernel_rfl) Tryd.underlying95 Tryd.underlying80 (by kernel_rfl) (by kernel_rfl) h2, ⟨_, _, hv1⟩, ⟨_, _, hv0⟩, Lib.tabIs_of_head (g := 0) (t := 67) (e := 3) (n := 2) gL tL Tryd.underlying67 Tryd.underlying3 (by kernel_rfl) (by kernel_rfl) h5, ?_⟩
  obtain ⟨ps, ⟨g', t', cs, fuel, p, q, hg', ht', hvar, hd, _, _⟩, _⟩ := h6
  obtain rfl := Option.some.inj (gS.symm.trans hg')
  obtain rfl := Option.some.inj (tS.symm.trans ht')
  rw [hvar]
  have := strs_of_trod hd
  show some cs = some _
  congr 1
  apply Array.ext'
  rw [this]; rfl

set_option maxRecDepth 100000 in
theorem contract (H : Type) (enc : TypeId × Value → H) (W : World) (base : Nat) (args : Array Value) (ds gs : List (DataW H)) (before : List MemPlace)
    (hval0 : ∀ (j : Nat) t v, Tryd.f3.params[j]? = some t → args[j]? = some v → Value.okWide Tryd.prog W .any base t v)
    (hW : DataW.Whole enc Tryd.prog Tryd.f3.params.toList Rows.fnLexSpec.vars false W args.toList ds gs before) (hL : laidMetH Tryd.prog laidL W) (hsh : W.ShapedOpen Tryd.prog) :
    Calls Tryd.prog 3 args W fun e W' => ∃ v, e = .returned v ∧ Rows.fnLexSpec.post enc Tryd.prog Tryd.f3 false true false false W args v W' := by
  have hval : ∀ (j : Nat) t v, Tryd.f3.params[j]? = some t → args[j]? = some v → Value.okWide Tryd.prog W .any base t v := hval0
  have hW' := hW
  obtain ⟨p, q, hA0, hV0, rfl, hfz, hnd⟩ := hW
  have hA : DataW.TrodAll enc Tryd.prog W 0 (fun _ => true) true Tryd.f3.params.toList args.toList ds p := hA0
  have hV : DataW.TrodVars enc Tryd.prog W (fun _ => true) ["loop.example/g00385/impl.signLengths", "loop.example/g00385/impl.signs"] gs q := hV0
  rw [Tryd.params3] at hA hval
  obtain ⟨v0, vs0, d0, ds0, p0, q0, hargs, rfl, rfl, h0, r0⟩ := trodAll_cons hA
  obtain ⟨rfl, rfl, rfl⟩ := trodAll_nil r0
  obtain rfl : args = #[v0] := by cases args; simp_all
  obtain ⟨a0, len0, cap0, rfl⟩ := okWide_slice Tryd.underlying22 (hval 0 22 v0 rfl rfl)
  have k0 := h0
  have lt0 : ∀ x ∈ p0, x.block < W.heap.size := by obtain ⟨m, hm⟩ := k0; exact DataW.trod_lt m _ _ _ hm
  have hcode : CodeIn W a0 len0 := by
    obtain ⟨fuel, hf⟩ := h0
    rcases open_ints Tryd.underlying22 Tryd.underlying5 (by kernel_rfl) hf with ⟨hcs, _⟩ | ⟨x, l, c, zs, hcs, _, hl, hm, hz, _, hcell, hwz⟩
    · simp [Value.cells] at hcs
      obtain ⟨rfl, rfl, rfl⟩ := hcs
      intro j hj; omega
    · simp [Value.cells] at hcs
      obtain ⟨rfl, rfl, rfl⟩ := hcs
      intro j hj
      have hz' : zs.length = cap0 := by simpa using hz
      have hc := hcell j (by omega)
      obtain ⟨b, off, spot⟩ := x
      have hspot : spot = none := by simpa [Addr.add] using World.cell?_spot (hcell 0 (by omega))
      subst hspot
      have hc2 : W.cell? ⟨b, off + j, none⟩ = some (.int .u8 (zs.getD j 0)) := by
        by_cases hj0 : j = 0
        · subst hj0; simpa [Addr.add] using hc
        · simpa [Addr.add, hj0] using hc
      have hmem : zs.getD j 0 ∈ zs := by
        rw [List.getD_eq_getElem?_getD, List.getElem?_eq_getElem (by omega)]; exact List.getElem_mem (by omega)
      have hw := hwz _ hmem
      have e1 : IntKind.u8.min = 0 := rfl
      have e2 : IntKind.u8.max = 255 := rfl
      simp only [Lit.wf, e1, e2] at hw
      have hw2 : 0 ≤ zs.getD j 0 ∧ zs.getD j 0 ≤ 255 := by simpa using hw
      exact ⟨b, off, zs.getD j 0, rfl, World.block_lt_of_cell? _ _ hc2, hw2.1, hw2.2, hc2⟩
  obtain ⟨htab, ⟨tp1, p1, hv1⟩, ⟨tp2, p2, hv2⟩, vL, vS⟩ := of_laid hL
  obtain ⟨m, hm⟩ := max_len hsh
  obtain ⟨g0, u0, cs0, f0, e0, pp0, g1, u1, cs1, f1, e1, pp1, rfl, hg0, hu0, hx0, hd0, hg1, hu1, hx1, hd1, rfl⟩ := trodVars_two hV
  obtain rfl := Option.some.inj (gL.symm.trans hg0)
  obtain rfl := Option.some.inj (gS.symm.trans hg1)
  obtain rfl := Option.some.inj (tL.symm.trans hu0)
  obtain rfl := Option.some.inj (tS.symm.trans hu1)
  obtain rfl : cs0 = lensV := Option.some.inj (hx0.symm.trans vL)
  obtain rfl : cs1 = signsV := Option.some.inj (hx1.symm.trans vS)
  obtain ⟨rfl, rfl⟩ := DataW.Trod.unique (v := .agg lensV) ⟨f0, hd0⟩ ⟨3, reads_lens enc W _⟩
  obtain ⟨rfl, rfl⟩ := DataW.Trod.unique (v := .agg signsV) ⟨f1, hd1⟩ ⟨3, reads_signs enc W _⟩
  obtain ⟨t1, fr1, hh0⟩ := heap_of_var gL vL
  obtain ⟨t2, fr2, hh1⟩ := heap_of_var gS vS
  clear hA0 hV0 hval0
  refine (walk a0 len0 cap0 W fr1 fr2 t1 t2 tp1 tp2 p1 p2 m ⟨hh0, hh1, htab, hv1, hv2, hm, hcode⟩).mono fun e W' ⟨he, bel⟩ => ?_
  subst he
  have hvars : ∀ sp : Nat → Bool, DataW.TrodVars enc Tryd.prog W' sp ["loop.example/g00385/impl.signLengths", "loop.example/g00385/impl.signs"] [lensD H, signsD H] (MemPlace.row ⟨0, 0, none⟩ lensV.size ++ [] ++ (MemPlace.row ⟨1, 0, none⟩ signsV.size ++ [] ++ [])) := fun sp =>
    ⟨0, 67, lensV, 3, [], _, gL, tL, var_below vL bel, reads_lens enc W' sp, ⟨1, 68, signsV, 3, [], [], gS, tS, var_below vS bel, reads_signs enc W' sp, rfl, rfl⟩, rfl⟩
  exact ⟨_, rfl, _, _, _, [], _, _, hW', trodAll_mk1 (shut_bool Tryd.underlying4 _), (trodAll_cons_mk (Below.trod laidOut (by kernel_rfl) (of_decide_eq_true (by kernel_rfl)) k0 bel lt0) trodAll_mk0), hvars _, bel.frame _, fun h => by cases h⟩

set_option maxRecDepth 100000 in
theorem lifted (os : Os) (started : os.Started) (H : Type) (enc : TypeId × Value → H) :
    ReturnsInHanded {} Tryd.checked os 3 .any (fun w args => (Rows.fnLexSpec.pre enc Tryd.prog Tryd.f3 Rows.fnLexRow.domain false w args ∧ laidMetH Tryd.prog laidL w) ∧ sizedMet enc Tryd.prog Tryd.f3 (OpenSpec.ofChange Rows.fnLexSpec) false w args)
      (Rows.fnLexSpec.post enc Tryd.prog Tryd.f3 false true false false) := by
  refine returnsInHanded_of_calls own started (by kernel_rfl)
    (ChangeSpec.witness_shaped (enc := enc) (C := Tryd.checked) (os := os) (X := fun w _ => laidMetH Tryd.prog laidL w) false (World.laidAll Tryd.prog os laidL) #[.slice none 0 0] 8 (World.laidAll_os _ _ _) (World.shaped_of_ZipB (by kernel_rfl) (by kernel_rfl)) (by kernel_rfl) (by kernel_rfl) (by kernel_rfl) (lay_met os _)) ?_
  intro w tape i _ hsh _ hok hpre hholds
  obtain ⟨_, _, _, fn', hfn', _, _, _, _, hval0⟩ := hok
  obtain rfl : fn' = Tryd.f3 := Option.some.inj (hfn'.symm.trans Tryd.func3)
  obtain ⟨⟨⟨ds, gs, before, hw, _⟩, hx⟩, _⟩ := hpre
  have hW := DataW.Whole.of_heap (w' := w.forCall tape i) (by rfl) hw
  have hX : laidMetH Tryd.prog laidL (w.forCall tape i) := hx.of_heap (by rfl)
  refine (contract H enc (w.forCall tape i) w.heap.size i.args ds gs before hval0 hW hX hsh).mono fun e W' ⟨v, he, hp⟩ => ?_
  subst he
  exact ChangeSpec.post_blind hp

theorem row_holds : Rows.FnLexSaid :=
  OpenClaim.holds_of_wide 3 Tryd.f3 rfl rfl rfl rfl rfl rfl rfl ⟨rfl, rfl, rfl, rfl, rfl⟩ rfl rfl rfl rfl rfl (by kernel_rfl) Tryd.func3 (by kernel_rfl)
    (of_decide_eq_true (by kernel_rfl)) (by unfold Func.isWrapper; first | (rw [if_pos (by decide +kernel)]; kernel_rfl) | (rw [if_neg (by decide +kernel)]; exact ⟨rfl, rfl⟩))
    (fun os started H enc _ => lifted os started H enc)
end FnLexLaw

theorem fnLex_holds : Rows.FnLexCardSaid :=
  Claim7.holds_tied_plain_at .later [] [.data, .data, .data, .data, .sentinel, .sentinel, .data, .data, .pinned] true (true, Rows.fnLexCard.stood.harness.2) true
    FnLexLaw.row_holds (fun _ h => by cases h) (by kernel_rfl) (fun _ h => by cases h) fnLex_row_tie rfl ⟨rfl, rfl⟩ (by kernel_rfl) rfl
    (fun f fn hf hfn => by
      obtain rfl : f = 3 := Option.some.inj ((show Tryd.prog.funcNamed Rows.fnLexRow.func = some 3 by kernel_rfl).symm.trans hf) |>.symm
      obtain rfl : fn = Tryd.f3 := (Option.some.inj (Tryd.func3.symm.trans hfn)).symm
      exact ⟨by kernel_rfl, fun j t ht => by
        rw [Tryd.params3] at ht
        have hm : t ∈ [22] := by simpa using Array.mem_of_getElem? ht
        have hall : ([22].all fun u => !Tryd.prog.wantsStandIn u) = true := by kernel_rfl
        exact (show Tryd.prog.wantsStandIn t = false by simpa using List.all_eq_true.1 hall t hm)⟩)
    (by kernel_rfl)
#print axioms fnLex_holds
end Go.Proofs.YtjgiohhfhncepaaDoor
