/- The contract of impl.PlaceText (written by wip/mkpti.py). -/
import Derived.Test.YtgiboadcfnfooaaDoorPtS
import Derived.Test.YtgiboadcfnfooaaDoorImplDec
import Derived.Test.YtgiboadcfnfooaaDoorOwnSt
import Derived.Test.YtgiboadcfnfooaaDoorShelfJ
import Derived.Deep.LoopGhost
import Derived.Deep.CutRange
namespace Go.Proofs.YtgiboadcfnfooaaDoor
open Go.ChangeShapes Go.WideShapes Go.ChangeAt Go.RowKit
theorem ix0 (i j : Int) (w : World) : (Instr.index 30 (.agg #[.int .i64 i, .int .i64 j]) (.int .i64 0)).run Tryd.prog w = .ok (.int .i64 i) w := by kernel_rfl
theorem ix1 (i j : Int) (w : World) : (Instr.index 30 (.agg #[.int .i64 i, .int .i64 j]) (.int .i64 1)).run Tryd.prog w = .ok (.int .i64 j) w := by kernel_rfl
attribute [local go_sem] ix0 ix1
theorem cellsT {w : World} {b : Nat} {cs : Array Value} {T : TypeId} (h : w.heap[b]? = some (.cells cs T (0, 0))) : (∀ o, w.cell? ⟨b, o, none⟩ = cs[o]?) ∧ ∀ o, w.frozen? ⟨b, o, none⟩ = false :=
  ⟨fun o => by simp [World.cell?, h], fun o => by simp [World.frozen?, h]⟩
abbrev TabT (w : World) : Prop := Lib.TabIs Tryd.prog w "internal/strconv.uint64pow10" .u64 Lib.pow10Tab
theorem impl_decO (n : Int) (w : World) (h : I64 n) (ht : TabT w) :
    Calls Tryd.prog 8 #[.int .i64 n] w fun e w' => ∃ s : ByteArray, e = .returned (.string s) ∧ Hid (s.data.toList = Lib.itoa n) ∧ s.size ≤ 21 ∧ Below w.heap.size w w' :=
  (impl_dec n w h.1 h.2 ht).mono fun e w' ⟨he, hw⟩ => ⟨_, he, by show _ = _; simp, by have := itoa_len h.1 h.2; simpa [ByteArray.size] using this, hw⟩
theorem regionTextO (n : Int) (w : World) (h : I64 n) (ht : TabT w) :
    Calls Tryd.prog 9 #[.int .i64 n] w fun e w' => ∃ s : ByteArray, e = .returned (.string s) ∧ Hid (s.data.toList = 114 :: Lib.itoa n) ∧ s.size ≤ 22 ∧ Below w.heap.size w w' := by
  go_enter Tryd.func9, Tryd.ntmps9
  go_wp2_with fail
  refine (impl_decO n _ h ht).mono ?_
  rintro e1 w1 ⟨s, rfl, S, z, bel⟩
  have BL := hideP bel
  clear bel
  go_wp2
  go_ret
  exact ⟨_, rfl, by show _ = _; simp [S.out], by rw [ByteArray.size_append]; show 1 + s.size ≤ 22; omega, BL.out⟩
theorem own_noS (w : World) (n : Nat) (hn : n = w.heap.size) : OwnS (w.alloc (.cells #[] 9)) w.heap.size (.slice (some ⟨n, 0, none⟩) 0 0) [] := by
  subst hn
  exact ⟨rfl, Or.inr ⟨w.heap.size, 0, #[], rfl, Nat.le_refl _, by show (w.heap.push _)[w.heap.size]? = _; exact Array.getElem?_push_size, Nat.le_refl _, Nat.zero_le _, rfl, rfl⟩⟩
theorem OwnS.shape {w : World} {B : Nat} {v : Value} {ps : List ByteArray} (h : OwnS w B v ps) : ∃ a n c, v = .slice a n c := by
  obtain ⟨_, ⟨h0, _⟩ | ⟨g, cap, _, hv, _⟩⟩ := h
  · exact ⟨_, _, _, h0⟩
  · exact ⟨_, _, _, hv⟩
def partL (b : Int) : List (List UInt8) := if b = -1 then [] else [98 :: Lib.itoa b]
def partsUp (i j : Int) : Nat → List (List UInt8)
  | 0 => []
  | 1 => partL i
  | _ => partL i ++ partL j
theorem join_pt (i j : Int) (x : List UInt8) : Lib.join (partL i ++ partL j ++ [x]) [43] = baseL i ++ (baseL j ++ x) := by
  unfold partL baseL
  split <;> split <;> simp [Lib.join_cons, Lib.joinTail]
/-- Between two rounds. -/
structure PtInv (w : World) (r i j o : Int) (k : Nat) (ps : List ByteArray) (wr : World) (v : Value) : Prop where
  tx : ps.map (fun b : ByteArray => b.data.toList) = partsUp i j k
  own : OwnS wr (w.heap.size + 1) v ps
  bel : Below w.heap.size w wr
  box : wr.heap[w.heap.size]? = some (.cells #[.int .i64 r, .int .i64 i, .int .i64 j, .int .i64 o] 25 (0, 0))
theorem PtInv.few {w : World} {r i j o : Int} {k : Nat} {ps : List ByteArray} {wr : World} {v : Value} (h : PtInv w r i j o k ps wr v) : ps.length ≤ 2 := by
  have := congrArg List.length h.tx
  rw [List.length_map] at this
  rw [this]
  have h1 : ∀ b, (partL b).length ≤ 1 := fun b => by unfold partL; split <;> simp
  match k with
  | 0 => simp [partsUp]
  | 1 => exact Nat.le_trans (h1 i) (by omega)
  | k + 2 =>
    show (partL i ++ partL j).length ≤ 2
    rw [List.length_append]
    have := h1 i
    have := h1 j
    omega
set_option maxRecDepth 100000 in
set_option maxHeartbeats 8000000 in
theorem impl_placeText (p : Plc) (hp : p.wf) (w : World) (ht : TabT w) :
    Calls Tryd.prog 6 #[.agg #[.int .i64 p.region, .int .i64 p.pi, .int .i64 p.pj, .int .i64 p.off]] w fun e w' => e = .returned (.string ⟨(ptL p).toArray⟩) ∧ Below w.heap.size w w' := by
  obtain ⟨r, i, j, o⟩ := p
  obtain ⟨hr, hi, hj, ho⟩ := hp
  simp only at *
  have DI := hideP (fun W (hW : Below w.heap.size w W) => impl_decO i W hi (tab_below ht hW))
  have DJ := hideP (fun W (hW : Below w.heap.size w W) => impl_decO j W hj (tab_below ht hW))
  have DO := hideP (fun W (hW : Below w.heap.size w W) => impl_decO o W ho (tab_below ht hW))
  have DR := hideP (fun W (hW : Below w.heap.size w W) => regionTextO r W hr (tab_below ht hW))
  have JLN : Hid ((baseL i ++ (baseL j ++ Lib.itoa o)).length ≤ 1000) := by
    have l1 := itoa_len hi.1 hi.2
    have l2 := itoa_len hj.1 hj.2
    have l3 := itoa_len ho.1 ho.2
    show _ ≤ _
    unfold baseL
    split <;> split <;> simp <;> omega
  clear hr hi hj ho ht
  by_cases h0 : r = -1
  · subst h0
    have BW := hideP ((Below.refl w.heap.size w).alloc (Nat.le_refl _) (.cells #[.int .i64 (-1), .int .i64 i, .int .i64 j, .int .i64 o] 25))
    go_enter Tryd.func6, Tryd.ntmps6
    go_wp2
    go_ret
    exact ⟨ret_str (by simp [ptL]), BW.out⟩
  · have E : Hid (ptL ⟨r, i, j, o⟩ = 114 :: (Lib.itoa r ++ (91 :: (baseL i ++ (baseL j ++ (Lib.itoa o ++ [93])))))) := if_neg h0
    have hr0 : (r == -1) = false := by simpa using h0
    have IV : Hid (PtInv w r i j o 0 [] ((w.alloc (.cells #[.int .i64 r, .int .i64 i, .int .i64 j, .int .i64 o] 25)).alloc (.cells #[] 9)) (.slice (some ⟨w.heap.size + 1, 0, none⟩) 0 0)) := by
      have o1 := own_noS (w.alloc (.cells #[.int .i64 r, .int .i64 i, .int .i64 j, .int .i64 o] 25)) (w.heap.size + 1) (by simp)
      exact ⟨rfl, by simpa using o1, ((Below.refl _ _).alloc (Nat.le_refl _) _).alloc (by simp) _, heap_alloc2_old w _ _⟩
    go_enter Tryd.func6, Tryd.ntmps6
    go_wp2
    go_loopg [3, 15] 2 (fun gk v ix wr => ∃ (k : Nat) (ps : List ByteArray), gk + k = 2 ∧ ix = .int .i64 k ∧ Hid (PtInv w r i j o k ps wr v))
    case atStart => exact ⟨0, [], rfl, rfl, IV.out⟩
    case round =>
      obtain ⟨k, ps, hk, rfl, hv⟩ := hrel
      clear IV
      by_cases hlt : k < 2
      · rcases (by omega : k = 0 ∨ k = 1) with rfl | rfl
        · by_cases hz : i = -1
          · have IV : Hid (PtInv w r i j o 1 ps wr _) := ⟨by rw [hv.out.tx]; simp [partsUp, partL, hz], hv.out.own, hv.out.bel, hv.out.box⟩
            obtain ⟨aV, nV, cV, rfl⟩ := hv.out.own.shape
            go_wp2
            go_roundg (2 - 1)
            case rel => exact ⟨1, ps, by omega, by go_num, IV.out⟩
            case measure => omega
          · obtain ⟨aV, nV, cV, rfl⟩ := hv.out.own.shape
            go_wp2_with fail
            refine (DI.out _ hv.out.bel).mono ?_
            rintro e4 w4 ⟨s4, rfl, S4, z4, bel4⟩
            have O4 := hideP (hv.out.own.stays bel4)
            have B4 := hideP (below_trans hv.out.bel bel4)
            have X4 := hideP ((bel4.block w.heap.size (Array.getElem?_eq_some_iff.1 hv.out.box).1).trans hv.out.box)
            have AL := hideP ((Below.refl w4.heap.size w4).alloc (Nat.le_refl _) (.cells #[.string (⟨#[98]⟩ ++ s4)] 9))
            have C4 : Hid ((w4.alloc (.cells #[.string (⟨#[98]⟩ ++ s4)] 9)).cell? ⟨w4.heap.size, 0, none⟩ = some (.string (⟨#[98]⟩ ++ s4))) := by
              show _ = _
              simp
            have few := hv.out.few
            have hsz : w.heap.size < w4.heap.size := (Array.getElem?_eq_some_iff.1 X4.out).1
            clear bel4
            go_upto_region 9 with (at_builtin; refine list_appS _ rfl _ _ rfl (w.heap.size + 1) _ ps (⟨#[98]⟩ ++ s4) w4.heap.size rfl rfl (O4.out.stays AL.out) C4.out (by omega) (Nat.le_trans hsz AL.out.size) ?_; intro v5 w5 o5 grow5)
            replace grow5 : World.grownBy _ w5 ((Value.slice aV nV cV).ownBlock) := grow5
            have IV : Hid (PtInv w r i j o 1 (ps ++ [⟨#[98]⟩ ++ s4]) w5 v5) := by
              refine ⟨?_, o5, (below_trans B4.out AL.out).grown grow5 (Nat.le_trans B4.out.size AL.out.size) (fun b' hb' => by have := (O4.out.low b' hb').1; omega), (O4.out.stays AL.out).box (by decide) ((AL.out.block _ hsz).trans X4.out) grow5⟩
              rw [List.map_append, hv.out.tx]
              simp [partsUp, partL, hz, S4.out]
            obtain ⟨aW, nW, cW, rfl⟩ := o5.shape
            clear o5 grow5 O4 B4 X4 AL C4
            go_wp2
            go_roundg (2 - 1)
            case rel => exact ⟨1, _, by omega, by go_num, IV.out⟩
            case measure => omega
        · by_cases hz : j = -1
          · have IV : Hid (PtInv w r i j o 2 ps wr _) := ⟨by rw [hv.out.tx]; simp [partsUp, partL, hz], hv.out.own, hv.out.bel, hv.out.box⟩
            obtain ⟨aV, nV, cV, rfl⟩ := hv.out.own.shape
            go_wp2
            go_roundg (2 - 2)
            case rel => exact ⟨2, ps, by omega, by go_num, IV.out⟩
            case measure => omega
          · obtain ⟨aV, nV, cV, rfl⟩ := hv.out.own.shape
            go_wp2_with fail
            refine (DJ.out _ hv.out.bel).mono ?_
            rintro e4 w4 ⟨s4, rfl, S4, z4, bel4⟩
            have O4 := hideP (hv.out.own.stays bel4)
            have B4 := hideP (below_trans hv.out.bel bel4)
            have X4 := hideP ((bel4.block w.heap.size (Array.getElem?_eq_some_iff.1 hv.out.box).1).trans hv.out.box)
            have AL := hideP ((Below.refl w4.heap.size w4).alloc (Nat.le_refl _) (.cells #[.string (⟨#[98]⟩ ++ s4)] 9))
            have C4 : Hid ((w4.alloc (.cells #[.string (⟨#[98]⟩ ++ s4)] 9)).cell? ⟨w4.heap.size, 0, none⟩ = some (.string (⟨#[98]⟩ ++ s4))) := by
              show _ = _
              simp
            have few := hv.out.few
            have hsz : w.heap.size < w4.heap.size := (Array.getElem?_eq_some_iff.1 X4.out).1
            clear bel4
            go_upto_region 9 with (at_builtin; refine list_appS _ rfl _ _ rfl (w.heap.size + 1) _ ps (⟨#[98]⟩ ++ s4) w4.heap.size rfl rfl (O4.out.stays AL.out) C4.out (by omega) (Nat.le_trans hsz AL.out.size) ?_; intro v5 w5 o5 grow5)
            replace grow5 : World.grownBy _ w5 ((Value.slice aV nV cV).ownBlock) := grow5
            have IV : Hid (PtInv w r i j o 2 (ps ++ [⟨#[98]⟩ ++ s4]) w5 v5) := by
              refine ⟨?_, o5, (below_trans B4.out AL.out).grown grow5 (Nat.le_trans B4.out.size AL.out.size) (fun b' hb' => by have := (O4.out.low b' hb').1; omega), (O4.out.stays AL.out).box (by decide) ((AL.out.block _ hsz).trans X4.out) grow5⟩
              rw [List.map_append, hv.out.tx]
              simp [partsUp, partL, hz, S4.out]
            obtain ⟨aW, nW, cW, rfl⟩ := o5.shape
            clear o5 grow5 O4 B4 X4 AL C4
            go_wp2
            go_roundg (2 - 2)
            case rel => exact ⟨2, _, by omega, by go_num, IV.out⟩
            case measure => omega
      · obtain rfl : k = 2 := by omega
        have b3 := (cellsT hv.out.box).1 3
        simp at b3
        obtain ⟨aV, nV, cV, rfl⟩ := hv.out.own.shape
        go_wp2_with fail
        refine (DO.out _ hv.out.bel).mono ?_
        rintro e4 w4 ⟨s4, rfl, S4, z4, bel4⟩
        have O4 := hideP (hv.out.own.stays bel4)
        have B4 := hideP (below_trans hv.out.bel bel4)
        have X4 := hideP ((bel4.block w.heap.size (Array.getElem?_eq_some_iff.1 hv.out.box).1).trans hv.out.box)
        have AL := hideP ((Below.refl w4.heap.size w4).alloc (Nat.le_refl _) (.cells #[.string s4] 9))
        have C4 : Hid ((w4.alloc (.cells #[.string s4] 9)).cell? ⟨w4.heap.size, 0, none⟩ = some (.string s4)) := by
          show _ = _
          simp
        have few := hv.out.few
        have hsz : w.heap.size < w4.heap.size := (Array.getElem?_eq_some_iff.1 X4.out).1
        clear bel4 b3
        go_upto_region 11 with (at_builtin; refine list_appS _ rfl _ _ rfl (w.heap.size + 1) _ ps s4 w4.heap.size rfl rfl (O4.out.stays AL.out) C4.out (by omega) (Nat.le_trans hsz AL.out.size) ?_; intro v5 w5 o5 grow5)
        replace grow5 : World.grownBy _ w5 ((Value.slice aV nV cV).ownBlock) := grow5
        have X5 := hideP ((O4.out.stays AL.out).box (by decide) ((AL.out.block _ hsz).trans X4.out) grow5)
        have B5 := hideP ((below_trans B4.out AL.out).grown grow5 (Nat.le_trans B4.out.size AL.out.size) (fun b' hb' => by have := (O4.out.low b' hb').1; omega))
        have JJ : Hid (Lib.join ((ps ++ [s4]).map (fun b : ByteArray => b.data.toList)) [43] = baseL i ++ (baseL j ++ Lib.itoa o)) := by
          show _ = _
          rw [List.map_append, hv.out.tx]
          show Lib.join (partL i ++ partL j ++ [s4.data.toList]) [43] = _
          rw [S4.out, join_pt]
        obtain ⟨qs, hqs⟩ : ∃ qs, ps ++ [s4] = qs := ⟨_, rfl⟩
        have hq1 : 0 < qs.length := by rw [← hqs]; simp
        have hq2 : qs.length ≤ 3 := by rw [← hqs, List.length_append]; simp; omega
        rw [hqs] at JJ o5
        clear hqs
        obtain ⟨gq, capv, rfl, hcap, hg, hcells⟩ := o5.at hq1
        have JLn : (baseL i ++ (baseL j ++ Lib.itoa o)).length ≤ 1000 := JLN.out
        have b0 := (cellsT X5.out).1 0
        simp at b0
        have HC := hideP hcells
        have HG := hideP hg
        have HCP := hideP hcap
        clear o5 grow5 hcells hg hcap O4 B4 X4 AL C4
        go_wp2_with fail
        refine (DR.out _ B5.out).mono ?_
        rintro e6 w6 ⟨s6, rfl, S6, z6, bel6⟩
        have B6 := hideP (below_trans B5.out bel6)
        have HC6 : ∀ (jj : Nat) x, qs[jj]? = some x → w6.cell? ⟨gq, 0 + jj, none⟩ = some (.string x) := fun jj x hx => (bel6.cell (p := ⟨gq, 0 + jj, none⟩) HG.out).trans (HC.out jj x hx)
        have JC := hideP (Tryd.strings_Join gq 0 capv qs ⟨#[43]⟩ w6 HC6 (Nat.lt_of_lt_of_le HG.out bel6.size) (by omega) HCP.out (by have := JJ.out; show (Lib.join _ [43]).length ≤ _; rw [this]; omega))
        clear HC6 bel6 HC HG b0
        go_wp2_with fail
        refine JC.out.mono ?_
        rintro e7 w7 ⟨rfl, bel7⟩
        have B7 := hideP (below_trans B6.out bel7)
        obtain ⟨s7, hs7⟩ : ∃ s7 : ByteArray, ⟨(Lib.join (qs.map (fun b : ByteArray => b.data.toList)) (⟨#[43]⟩ : ByteArray).data.toList).toArray⟩ = s7 := ⟨_, rfl⟩
        rw [hs7]
        have S7 : Hid (s7.data.toList = baseL i ++ (baseL j ++ Lib.itoa o)) := by rw [← hs7]; exact JJ.out
        have z7 : s7.size ≤ 1000 := by rw [size_of S7.out]; exact JLn
        clear hs7 bel7 JC
        go_wp2
        go_ret
        exact ⟨ret_str (mk_of (by rw [E.out]; simp [S6.out, S7.out])), B7.out⟩
end Go.Proofs.YtgiboadcfnfooaaDoor
