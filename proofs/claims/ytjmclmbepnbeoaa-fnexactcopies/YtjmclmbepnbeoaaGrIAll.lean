/- The program's iterator over the steps of blocks: its contract, for every loop body that keeps what lay there when the graph did. -/
import Derived.Test.YtjmclmbepnbeoaaGrOkP
import Derived.RangeFuncNested
import Derived.RangeFuncBound
import Derived.RangeFuncCalls
import Derived.RangeFuncLeaves
import Derived.Shelf.Abstract
import Derived.Shelf.RegionOpen
import Derived.WalkKit
import Derived.OwnWalkIn
import Derived.TacticsInMore
import Derived.LoopNIn
import Derived.LoopIn
namespace Go.Proofs.Ytjmclmbepnbeoaa
open Go.ChangeShapes Go.WideShapes Go.ChangeAt Go.RowKit Go.Shelf
attribute [local go_sem] Oper.semAt_some
theorem codeAll_take (bs : List Blk) (i : Nat) (h : i < bs.length) : codeAll (bs.take (i + 1)) = codeAll (bs.take i) ++ bs[i].code := by
  unfold codeAll
  rw [List.take_succ_eq_append_getElem h, List.flatMap_append, List.flatMap_cons, List.flatMap_nil, List.append_nil]
theorem codeAll_pre (bs : List Blk) (i : Nat) : codeAll (bs.take i) <+: codeAll bs := by
  unfold codeAll
  conv => rhs; rw [← List.take_append_drop i bs, List.flatMap_append]
  exact List.prefix_append _ _
theorem take_snoc {α : Type} (l : List α) (k : Nat) (h : k < l.length) : l.take (k + 1) = l.take k ++ [l[k]] := List.take_succ_eq_append_getElem h
def insCells (x : Ins) : Array Value := #[.int .i64 x.op, .int .i64 x.d, .int .i64 x.a, .int .i64 x.b, .int .i64 x.c, .int .i64 x.n, .string x.t]
set_option maxRecDepth 100000 in
set_option maxHeartbeats 4000000 in
theorem steps_in (F : Fence) (n : Nat) (hF : F.fn 103) (hro : F.round = none) (hn : 1 ≤ n) (l : Nat) (w0 : World) (B : Nat) (bs : List Blk) (a : Option Addr) (cap : Nat) (h : SlIs BlkIs 5 w0 B a bs) (J Jx : List Ins → World → Prop)
    (hJa : ∀ pre W o, J pre W → J pre (W.alloc o))
    (hY : ∀ pre x W, J pre W → x.wf → x.t.size ≤ maxLen → YieldAt F (n - 1) Try.prog l #[.agg (insCells x)] W fun e W' =>
      (e = .returned (.bool true) ∧ J (pre ++ [x]) W' ∧ Below w0.heap.size W W') ∨ (e = .returned (.bool false) ∧ Jx (pre ++ [x]) W'))
    (W : World) (hW : Below w0.heap.size w0 W) (h0 : J [] W) :
    CallsIn F n Try.prog 103 #[.slice a bs.length cap, .func (.yield l) #[] #[]] W fun e W' => (∃ v, e = .returned v) ∧
      ((J (codeAll bs) W' ∧ Below w0.heap.size w0 W') ∨ ∃ pre, pre <+: codeAll bs ∧ Jx pre W') := by
  have hm := maxLen_lt
  have hl := h.1
  have H := hideP h
  have HJ := hideP hJa
  have HY := hideP hY
  clear h hJa hY
  refine callsIn_of_wp Try.func103 rfl hF ?_ hro
  simp only [Try.ntmps103, List.size_toArray, List.length_cons, List.length_nil, Nat.reduceAdd, Nat.reduceSub, Array.replicate_succ, Array.replicate_zero, List.push_toArray, List.append_toArray, List.nil_append, List.cons_append]
  gi_wp2
  gi_loopw [10] (fun i wr => ∃ j : Nat, j ≤ bs.length ∧ i = .int .i64 j ∧ Hid (J (codeAll (bs.take j)) wr) ∧ Hid (Below w0.heap.size w0 wr)) (fun i _ => bs.length - (intOf i).toNat)
  case atStart => exact ⟨0, Nat.zero_le _, rfl, h0, hW⟩
  case round =>
    obtain ⟨j, hj, rfl, hJs, hbel⟩ := hrel
    by_cases hlt : j < bs.length
    · obtain ⟨b, o, x0, x1, x2, x3, x4, ux, kx, rfl, _, hb, hx, p0, p1, p2, p3, p4, hbX⟩ := Blk_get H.out j hlt
      replace p0 := (hbel.out.cell (p := ⟨b, _, none⟩) hb).trans p0
      replace p1 := (hbel.out.cell (p := ⟨b, _, none⟩) hb).trans p1
      replace p2 := (hbel.out.cell (p := ⟨b, _, none⟩) hb).trans p2
      replace p3 := (hbel.out.cell (p := ⟨b, _, none⟩) hb).trans p3
      replace p4 := (hbel.out.cell (p := ⟨b, _, none⟩) hb).trans p4
      have hsz := hbel.out.size
      have hcl := hbX
      obtain ⟨u', c', hv, _, hcode⟩ := hcl
      simp at hv
      obtain ⟨⟨rfl, rfl⟩, -⟩ := hv
      have hlc := hcode.1
      have HC := hideP hcode
      have HX := hideP hx
      have HT := hideP (codeAll_take bs j hlt)
      have HP := hideP (codeAll_pre bs (j + 1))
      clear hx hbX hcode
      gi_wp2
      clear p0 p1 p2 p3 p4
      gi_loopw [17] (fun i wq => ∃ k : Nat, k ≤ x0.length ∧ i = .int .i64 k ∧ Hid (J (codeAll (bs.take j) ++ x0.take k) wq) ∧ Hid (Below w0.heap.size w0 wq) ∧ Hid (Below w0.heap.size wr wq)) (fun i _ => x0.length - (intOf i).toNat)
      case atStart => exact ⟨0, Nat.zero_le _, rfl, by show J _ _; simpa using HJ.out _ _ _ hJs.out, hbel.out.alloc hsz _, (Below.refl _ _).alloc hsz _⟩
      case round =>
        obtain ⟨k, hk, rfl, hJk, hbk, hbr⟩ := hrel
        by_cases hlk : k < x0.length
        · obtain ⟨bu, ou, i0, i1, i2, i3, i4, i5, i6, rfl, _, hbu, hi, c0, c1, c2, c3, c4, c5, c6, hI⟩ := Ins_get HC.out k hlk
          replace c0 := (hbk.out.cell (p := ⟨bu, _, none⟩) hbu).trans c0
          replace c1 := (hbk.out.cell (p := ⟨bu, _, none⟩) hbu).trans c1
          replace c2 := (hbk.out.cell (p := ⟨bu, _, none⟩) hbu).trans c2
          replace c3 := (hbk.out.cell (p := ⟨bu, _, none⟩) hbu).trans c3
          replace c4 := (hbk.out.cell (p := ⟨bu, _, none⟩) hbu).trans c4
          replace c5 := (hbk.out.cell (p := ⟨bu, _, none⟩) hbu).trans c5
          replace c6 := (hbk.out.cell (p := ⟨bu, _, none⟩) hbu).trans c6
          have hsk := hbk.out.size
          have tk := take_snoc x0 k hlk
          rw [hi] at tk
          have HK := hideP tk
          obtain ⟨fn, tmps, assign, body, hy, hR⟩ := HY.out _ ⟨i0, i1, i2, i3, i4, i5, i6⟩ (wr.alloc (.cells (insCells ⟨i0, i1, i2, i3, i4, i5, i6⟩) 48)) (HJ.out _ _ _ hJk.out) hI.2.1 hI.2.2
          simp only [insCells] at hy hR
          clear tk hi hI
          gi_wp2
          refine hR.mono ?_
          rintro e W3 (⟨rfl, hJ3, hk3⟩ | ⟨rfl, hJx3⟩)
          · clear c0 c1 c2 c3 c4 c5 c6 hy hR
            gi_wp2
            go_roundw
            case rel => exact ⟨k + 1, by omega, by go_num, by show J _ _; rw [HK.out, ← List.append_assoc]; exact hJ3, (hbk.out.alloc hsk _).trans hk3, (hbr.out.alloc (Nat.le_trans hbel.out.size (by first | exact hbr.out.size | exact Nat.le_of_lt (by omega) | omega)) _).trans hk3⟩
            case measure => simp [intOf]; omega
          · clear c0 c1 c2 c3 c4 c5 c6 hy hR
            gi_wp2
            refine bodyPost_ret (results_none rfl _ _ _) rfl ?_
            exact ⟨⟨_, rfl⟩, .inr ⟨_, List.IsPrefix.trans ⟨x0.drop (k + 1), by rw [HT.out, HX.out, List.append_assoc, List.append_assoc, ← List.append_assoc (x0.take k), ← HK.out, List.take_append_drop]⟩ HP.out, hJx3⟩⟩
        · obtain rfl : k = x0.length := by omega
          gi_wp2
          go_roundw
          case rel => exact ⟨j + 1, by omega, by go_num, by show J _ _; rw [HT.out, HX.out]; have := hJk.out; rwa [List.take_length] at this, hbk.out⟩
          case measure => simp [intOf]; omega
    · obtain rfl : j = bs.length := by omega
      gi_wp2
      go_end0
      exact ⟨⟨_, rfl⟩, .inl ⟨by have := hJs.out; rwa [List.take_length] at this, hbel.out⟩⟩
end Go.Proofs.Ytjmclmbepnbeoaa

/- A range over the steps of blocks by a method value: the loop's law, over the iterator's contract. -/
namespace Go.Proofs.Ytjmclmbepnbeoaa
open Go.ChangeShapes Go.WideShapes Go.ChangeAt Go.RowKit Go.Shelf
/-- What a round keeps: all blocks from D on, and what lay below B. -/
structure Kept (D B : Nat) (W W' : World) : Prop where
  size : W.heap.size ≤ W'.heap.size
  same : ∀ k, D ≤ k → k < W.heap.size → W'.heap[k]? = W.heap[k]?
  bel : Below B W W'
/-- How a round may be left: it goes on, or it returns. -/
def roundLeft (D B : Nat) (I Ix : List Ins → World → Prop) (xs : List Ins) (W : World) : Exit → Act → World → Prop
  | .normal, _, W' => Kept D B W W' ∧ I xs W'
  | .ret, _, W' => Kept D B W W' ∧ Ix xs W'
  | _, _, _ => False
theorem box_keep {W W' : World} {b : Nat} {o : Obj} (h : W.heap[b]? = some o) (bel : Below W.heap.size W W') : W'.heap[b]? = some o := (bel.block b (Array.getElem?_eq_some_iff.1 h).1).trans h
theorem newB (w : World) (o : Obj) : (w.alloc o).heap[w.heap.size]? = some o := by show (w.heap.push o)[w.heap.size]? = _; exact Array.getElem?_push_size
theorem put_below {B : Nat} {W : World} {l : Nat} (o : Obj) (hB : B ≤ l) (hw : B ≤ W.heap.size) : Below B W (W.putObj l o) :=
  (Below.refl B W).grown (grownBy_putObj' W l o) hw (fun k e => by cases e; exact hB)
/-- The temporaries of a round: the step, and where its box lies. -/
def axOf (a : Act) (p sx : Nat) (x : Ins) (bx : Nat) : Act := { tmps := (a.tmps.setIfInBounds p (Value.agg (insCells x))).setIfInBounds sx (.pointer (some ⟨bx, 0, none⟩)), defers := [] }
set_option maxHeartbeats 4000000 in
theorem range_steps {F : Fence} {n : Nat} {g : Operand} {p : Nat} {assign body : Code} {Q : Exit → Act → World → Prop} {a : Act} {w : World}
    (hro : F.round = none) (h1 : 1 ≤ n) (h2 : 1 ≤ n - 1) (hF : F.fn 103)
    (w0 : World) (B : Nat) (bs : List Blk) (ua : Option Addr) (cap : Nat) (hs : SlIs BlkIs 5 w0 B ua bs) (hb0 : Below w0.heap.size w0 w)
    (hg : a.eval g = .func (.func 103) #[.slice ua bs.length cap] #[])
    (I Ix : List Ins → World → Prop)
    (hIa : ∀ pre W o, I pre W → I pre (W.alloc o)) (hIp : ∀ pre W o, I pre W → I pre (W.putObj (w.heap.size + 1) o)) (hXp : ∀ pre W o, Ix pre W → Ix pre (W.putObj (w.heap.size + 1) o)) (h0 : I [] w)
    (sx : Nat)
    (hassign : ∀ (l : Nat) (x : Ins) (W : World) (K : Act → World → Prop), K (axOf a p sx x W.heap.size) (W.alloc (.cells (insCells x) 48)) →
      assign.wpIn (F.inRound l) (n - 1 - 1) Try.prog (Exit.then K (fun _ _ _ => False)) { tmps := a.tmps.setIfInBounds p (Value.agg (insCells x)), defers := [] } W)
    (hbody : ∀ (l : Nat) (pre : List Ins) (x : Ins) (bx : Nat) (W : World), w.heap.size ≤ bx → x.wf → x.t.size ≤ maxLen → I pre W → W.heap[bx]? = some (.cells (insCells x) 48) → Below w0.heap.size w0 W →
      body.wpIn (F.inRound l) (n - 1 - 1) Try.prog (roundLeft w.heap.size w0.heap.size I Ix (pre ++ [x]) W) (axOf a p sx x bx) W)
    (hdone : ∀ (D : Nat) (W : World), w.heap.size ≤ D → I (codeAll bs) W → Below w0.heap.size w0 W → W.heap[D]? = some (.deferred (some [])) → Q .normal { a with defers := { target := .collected D, args := #[] } :: a.defers } W)
    (hstop : ∀ (D : Nat) (pre : List Ins) (W : World), w.heap.size ≤ D → pre <+: codeAll bs → Ix pre W → W.heap[D]? = some (.deferred (some [])) → Code.ret.wpIn F n Try.prog Q { a with defers := { target := .collected D, args := #[] } :: a.defers } W) :
    (Code.rangeFunc g #[p] assign body).wpIn F n Try.prog Q a w := by
  refine wpIn_rangeFunc ?_
  intro fn hfn
  rw [hro]
  have sz0 := hb0.size
  obtain ⟨R, hR⟩ : ∃ R : LoopState → Option Code → Loop, R = fun st pe => { state := st, pending := pe, fn, tmps := a.tmps, params := #[p], assign, body, defers := w.heap.size } := ⟨_, rfl⟩
  obtain ⟨W1, hW1⟩ : ∃ W1, (w.alloc (.deferred (some []))).alloc (.loop (R .ready none)) = W1 := ⟨_, rfl⟩
  have hz1 : W1.heap.size = w.heap.size + 2 := by rw [← hW1]; simp
  have hw1 := two (w := w) (o1 := .deferred (some [])) (o2 := .loop (R .ready none)) (w1 := W1) (by rw [hW1]; exact Below.refl _ _)
  have hb1 : Below w0.heap.size w0 W1 := hb0.trans (hw1.2.2.2.mono sz0)
  have hI1 : I [] W1 := by rw [← hW1]; exact hIa _ _ _ (hIa _ _ _ h0)
  refine ⟨w.heap.size + 1, [{ target := .collected w.heap.size, args := #[] }], W1, { target := .fn (.func 103) #[], args := #[.slice ua bs.length cap, .func (.yield (w.heap.size + 1)) #[] #[]] }, W1, 103, #[.slice ua bs.length cap, .func (.yield (w.heap.size + 1)) #[] #[]], W1, ?_, ?_, ?_, ?_, fun _ => h1, ?_⟩
  · rw [← hW1, hR]; exact run_enterLoop_outer _ _ _ _ _
  · simp only [resolve, hg]
    simp [go_sem]
  · intro f' hf'
    simp [Target.leads] at hf'
    subst hf'
    exact hF
  · have eg := enters_of (P := Try.prog) Try.func103 (by kernel_rfl) rfl
    simp [invoke, go_sem, eg _ _]
  · have hp1 : (R .ready none).params = #[p] := by rw [hR]
    refine (steps_in F (n - 1) hF hro h2 (w.heap.size + 1) w0 B bs ua cap hs
      (fun pre W => I pre W ∧ Below w0.heap.size w0 W ∧ W.heap[w.heap.size + 1]? = some (.loop (R .ready none)) ∧ W.heap[w.heap.size]? = some (.deferred (some [])))
      (fun pre W => Ix pre W ∧ W.heap[w.heap.size + 1]? = some (.loop (R .done (some .ret))) ∧ W.heap[w.heap.size]? = some (.deferred (some [])))
      ?alloc ?yield W1 hb1 ⟨hI1, hb1, hw1.2.1, hw1.1⟩).mono ?_
    case alloc =>
      rintro pre W o ⟨hi, hb, hl, hk⟩
      have al := (Below.refl W.heap.size W).alloc (Nat.le_refl _) o
      exact ⟨hIa _ _ _ hi, hb.alloc hb.size _, box_keep hl al, box_keep hk al⟩
    case yield =>
      rintro pre x W ⟨hi, hb, hl, hk⟩ hwf hsz
      have hy := run_yield (P := Try.prog) (args := #[Value.agg (insCells x)]) hl (by rw [hp1]; rfl)
      rw [hR] at hy
      have ez : (#[p].zip #[Value.agg (insCells x)]).foldl (fun t (q, v) => t.setIfInBounds q v) a.tmps = a.tmps.setIfInBounds p (Value.agg (insCells x)) := by simp
      simp only [ez] at hy
      refine ⟨fn, _, assign, body, hy, roundIn_of_wpIn hfn (hassign _ x W _ ?_)⟩
      clear hy
      have al := (Below.refl W.heap.size W).alloc (Nat.le_refl _) (.cells (insCells x) 48)
      have hl1 := box_keep hl al
      have hk1 := box_keep hk al
      have hlt : w.heap.size + 1 < W.heap.size := (Array.getElem?_eq_some_iff.1 hl).1
      have hsb := hb.size
      refine ⟨_, run_beginRound hl1 (by rw [hR]), ?_⟩
      obtain ⟨W2, hW2⟩ : ∃ W2, (W.alloc (.cells (insCells x) 48)).putObj (w.heap.size + 1) (.loop { R .ready none with state := .busy }) = W2 := ⟨_, rfl⟩
      have hl2 : W2.heap[w.heap.size + 1]? = some (.loop { R .ready none with state := .busy }) := by rw [← hW2]; exact World.putObj_heap_same (Array.getElem?_eq_some_iff.1 hl1).1
      have hk2 : W2.heap[w.heap.size]? = some (.deferred (some [])) := by rw [← hW2]; exact (World.putObj_heap_other (by omega)).trans hk1
      have hx2 : W2.heap[W.heap.size]? = some (.cells (insCells x) 48) := by rw [← hW2]; exact (World.putObj_heap_other (by omega)).trans (newB W _)
      have hi2 : I pre W2 := by rw [← hW2]; exact hIp _ _ _ (hIa _ _ _ hi)
      have hz2 : W2.heap.size = W.heap.size + 1 := by rw [← hW2]; simp
      have hbb : Below w0.heap.size W W2 := by rw [← hW2]; exact (al.mono hsb).trans (put_below _ (by omega) (by simp; omega))
      rw [hW2]
      have fin : ∀ (jump : Option Code) (W3 : World), Kept w.heap.size w0.heap.size W2 W3 →
          (Instr.endRound (w.heap.size + 1) jump).run Try.prog W3 = .ok (.bool jump.isNone) (W3.putObj (w.heap.size + 1) (.loop (R (if jump.isNone then .ready else .done) jump))) ∧
          (W3.putObj (w.heap.size + 1) (.loop (R (if jump.isNone then .ready else .done) jump))).heap[w.heap.size + 1]? = some (.loop (R (if jump.isNone then .ready else .done) jump)) ∧
          (W3.putObj (w.heap.size + 1) (.loop (R (if jump.isNone then .ready else .done) jump))).heap[w.heap.size]? = some (.deferred (some [])) ∧
          Below w0.heap.size W (W3.putObj (w.heap.size + 1) (.loop (R (if jump.isNone then .ready else .done) jump))) := fun jump W3 kp => by
        have hl3 := (kp.same (w.heap.size + 1) (by omega) (by omega)).trans hl2
        have hk3 := (kp.same w.heap.size (Nat.le_refl _) (by omega)).trans hk2
        have hr := run_endRound (P := Try.prog) jump hl3
        have hzz := kp.size
        refine ⟨by rw [hR] at hr ⊢; exact hr, World.putObj_heap_same (by omega), (World.putObj_heap_other (by omega)).trans hk3, (hbb.trans kp.bel).trans (put_below _ (by omega) (by omega))⟩
      refine wpIn_mono (hbody (w.heap.size + 1) pre x W.heap.size W2 (by omega) hwf hsz hi2 hx2 (hb.trans hbb)) ?_
      rintro e a3 W3 hp
      cases e with
      | normal =>
        obtain ⟨kp, hi3⟩ := hp
        obtain ⟨hr, q1, q2, q3⟩ := fin none W3 kp
        exact ⟨_, _, hr, .inl ⟨rfl, ⟨hIp _ _ _ hi3, hb.trans q3, q1, q2⟩, q3⟩⟩
      | ret =>
        obtain ⟨kp, hi3⟩ := hp
        obtain ⟨hr, q1, q2, q3⟩ := fin (some .ret) W3 kp
        exact ⟨_, _, hr, .inr ⟨rfl, hXp _ _ _ hi3, q1, q2⟩⟩
      | exit id => exact hp.elim
      | goto t => exact hp.elim
      | panic ch => exact hp.elim
      | outgrown => exact hp.elim
    · rintro e W2 ⟨⟨v, rfl⟩, (⟨⟨hi, hb, hl, hk⟩, hbe⟩ | ⟨pre, hpre, hx, hl, hk⟩)⟩
      · have hlt := (Array.getElem?_eq_some_iff.1 hl).1
        exact ⟨none, _, by have := run_endLoop (P := Try.prog) hl (by rw [hR]; simp); rw [hR] at this; exact this, hdone _ _ (Nat.le_refl _) (hIp _ _ _ hi) (hb.trans (put_below _ (by omega) hb.size)) ((World.putObj_heap_other (by omega)).trans hk)⟩
      · exact ⟨some .ret, _, by have := run_endLoop (P := Try.prog) hl (by rw [hR]; simp); rw [hR] at this; exact this, hstop _ pre _ (Nat.le_refl _) hpre (hXp _ _ _ hx) ((World.putObj_heap_other (by omega)).trans hk)⟩
end Go.Proofs.Ytjmclmbepnbeoaa

/- The contract of impl.jumpOk. -/
namespace Go.Proofs.Ytjmclmbepnbeoaa
open Go.ChangeShapes Go.WideShapes Go.ChangeAt Go.RowKit
theorem kp {W W' : World} {b : Nat} {o : Obj} (h : W.heap[b]? = some o) (bel : Below W.heap.size W W') : W'.heap[b]? = some o := (bel.block b (Array.getElem?_eq_some_iff.1 h).1).trans h
theorem kn (w : World) (o : Obj) : (w.alloc o).heap[w.heap.size]? = some o := by show (w.heap.push o)[w.heap.size]? = _; exact Array.getElem?_push_size
set_option maxHeartbeats 4000000 in
set_option maxRecDepth 100000 in
theorem jumpOk_any (g : Gr) (x : Blk) (w : World) (B1 B2 : Nat) (v1 v2 : Array Value) (h1 : GrIs w B1 v1 g) (h2 : BlkIs w B2 v2 x) :
    Calls Try.prog 105 #[.agg v1, .agg v2] w fun en w' => en = .returned (.bool (jmpOk g.slots g.blocks.length x)) ∧ Below w.heap.size w w' := by
  have SS : Hid (∀ W, Below w.heap.size w W → Calls Try.prog 127 #[.agg v1] W fun en w' => en = .returned (.agg #[.int .i64 (g.sizes.length : Nat), .int .i64 g.slots]) ∧ Below W.heap.size W w') := fun W hW => slotScope_any g W B1 v1 (GrKeeps.stays h1 hW)
  have BT : Hid (∀ W z, Below w.heap.size w W → Calls Try.prog 131 #[.agg v1, .int .i64 z] W fun en w' => en = .returned (.bool (vOk (g.blocks.length : Nat) z)) ∧ Below W.heap.size W w') := fun W z hW => blockThere_any g z W B1 v1 (GrKeeps.stays h1 hW)
  obtain ⟨R, hR⟩ : ∃ R : Int, ((g.sizes.length : Nat) : Int) = R := ⟨_, rfl⟩
  obtain ⟨V, hV⟩ : ∃ V : Int, g.slots = V := ⟨_, rfl⟩
  obtain ⟨M, hM⟩ : ∃ M : Nat, g.blocks.length = M := ⟨_, rfl⟩
  rw [hR] at SS
  obtain ⟨us, cs, ub, cb, rfl, _, _⟩ := h1
  rw [hV] at SS ⊢
  rw [hV] at BT
  rw [hM] at SS BT ⊢
  obtain ⟨code, jump, a, to, els⟩ := x
  obtain ⟨uc, cc, rfl, _, _⟩ := h2
  simp only at *
  have E : Hid (jmpOk V M ⟨code, jump, a, to, els⟩ = (if jump = 0 then decide (a = 0) && decide (els = 0) && vOk (M : Nat) to else if jump = 1 then vOk V a && vOk (M : Nat) to && vOk (M : Nat) els else if jump = 2 then vOk V a && decide (to = 0) && decide (els = 0) else false)) := rfl
  go_enter Try.func105, Try.ntmps105
  go_wp2_with fail
  refine (SS.out _ (below2 w _ _)).mono ?_
  rintro y1 w1 ⟨rfl, bel1⟩
  obtain ⟨q1, q2, hz, hw⟩ := two bel1
  have hz0 : w.heap.size < w1.heap.size := by omega
  have HW := hideP hw
  have Q1 := hideP q1
  have Q2 := hideP q2
  clear bel1 q1 q2 hw SS
  have al := (Below.refl w1.heap.size w1).alloc (Nat.le_refl _) (.cells #[.int .i64 R, .int .i64 V] 164)
  have K1 := hideP (kp Q1.out al)
  have K2 := hideP (kp Q2.out al)
  have HW2 := hideP (below_trans HW.out al)
  have p0 := (cells_of Q1.out).1 0
  have p1 := (cells_of Q1.out).1 1
  have p2 := (cells_of Q1.out).1 2
  have p3 := (cells_of Q1.out).1 3
  have p4 := (cells_of Q1.out).1 4
  have r0 := (cells_of Q2.out).1 0
  have r1 := (cells_of Q2.out).1 1
  have r2 := (cells_of Q2.out).1 2
  have r3 := (cells_of Q2.out).1 3
  have r4 := (cells_of Q2.out).1 4
  simp at p0 p1 p2 p3 p4 r0 r1 r2 r3 r4
  clear al
  by_cases h0 : jump = 0
  · subst h0
    by_cases ha : a = 0
    · by_cases he : els = 0
      · subst ha he
        rw [if_pos rfl] at E
        have E2 : Hid (jmpOk V M ⟨code, 0, 0, to, 0⟩ = vOk (M : Nat) to) := E.out.trans (by simp)
        go_wp2_with fail
        refine (BT.out _ to HW2.out).mono ?_
        rintro e2 w2 ⟨rfl, bel2⟩
        have HW3 := hideP (below_trans HW2.out bel2)
        clear bel2 p0 p1 p2 p3 p4 r0 r1 r2 r3 r4
        go_wp2
        go_ret
        exact ⟨ret_bool E2.out.symm, HW3.out⟩
      · have E2 : Hid (jmpOk V M ⟨code, 0, a, to, els⟩ = false) := E.out.trans (by simp [he])
        go_wp2
        go_ret
        exact ⟨ret_bool E2.out.symm, HW2.out⟩
    · have E2 : Hid (jmpOk V M ⟨code, 0, a, to, els⟩ = false) := E.out.trans (by simp [ha])
      go_wp2
      go_ret
      exact ⟨ret_bool E2.out.symm, HW2.out⟩
  · by_cases h12 : jump = 1 ∨ jump = 2
    · have e1 : [a].all (vOk V) = vOk V a := by simp
      have HE1 := hideP e1
      clear e1
      rcases h12 with rfl | rfl
      · rw [if_neg (by decide), if_pos rfl] at E
        go_wp2_with fail
        refine (allOk_any R V [a] _ 0 _ _ (ints_lit _ [a] _ _ _ (by simp) rfl (by simp))).mono ?_
        rintro e2 w2 ⟨rfl, bel2⟩
        rw [HE1.out]
        have b2 := below_new bel2
        have HW3 := hideP (below_trans HW2.out b2)
        have M1 := hideP (kp K1.out b2)
        have M2 := hideP (kp K2.out b2)
        clear bel2 b2 p0 p1 p2 p3 p4 r0 r1 r2 r3 r4
        have p0 := (cells_of M1.out).1 0
        have p1 := (cells_of M1.out).1 1
        have p2 := (cells_of M1.out).1 2
        have p3 := (cells_of M1.out).1 3
        have p4 := (cells_of M1.out).1 4
        have r0 := (cells_of M2.out).1 0
        have r1 := (cells_of M2.out).1 1
        have r2 := (cells_of M2.out).1 2
        have r3 := (cells_of M2.out).1 3
        have r4 := (cells_of M2.out).1 4
        simp at p0 p1 p2 p3 p4 r0 r1 r2 r3 r4
        cases hr : vOk V a
        · have E2 : Hid (jmpOk V M ⟨code, 1, a, to, els⟩ = false) := E.out.trans (by simp [hr])
          clear hr
          go_wp2
          go_ret
          exact ⟨ret_bool E2.out.symm, HW3.out⟩
        · rw [hr, Bool.true_and] at E
          clear hr
          go_wp2_with fail
          refine (BT.out _ to HW3.out).mono ?_
          rintro e3 w3 ⟨rfl, bel3⟩
          have HW4 := hideP (below_trans HW3.out bel3)
          have N1 := hideP (kp M1.out bel3)
          have N2 := hideP (kp M2.out bel3)
          clear bel3 p0 p1 p2 p3 p4 r0 r1 r2 r3 r4
          have p0 := (cells_of N1.out).1 0
          have p1 := (cells_of N1.out).1 1
          have p2 := (cells_of N1.out).1 2
          have p3 := (cells_of N1.out).1 3
          have p4 := (cells_of N1.out).1 4
          have r0 := (cells_of N2.out).1 0
          have r1 := (cells_of N2.out).1 1
          have r2 := (cells_of N2.out).1 2
          have r3 := (cells_of N2.out).1 3
          have r4 := (cells_of N2.out).1 4
          simp at p0 p1 p2 p3 p4 r0 r1 r2 r3 r4
          cases hr : vOk (M : Nat) to
          · have E2 : Hid (jmpOk V M ⟨code, 1, a, to, els⟩ = false) := E.out.trans (by simp [hr])
            clear hr
            go_wp2
            go_ret
            exact ⟨ret_bool E2.out.symm, HW4.out⟩
          · have E2 : Hid (jmpOk V M ⟨code, 1, a, to, els⟩ = vOk (M : Nat) els) := E.out.trans (by simp [hr])
            clear hr
            go_wp2_with fail
            refine (BT.out _ els HW4.out).mono ?_
            rintro e4 w4 ⟨rfl, bel4⟩
            have HW5 := hideP (below_trans HW4.out bel4)
            clear bel4 p0 p1 p2 p3 p4 r0 r1 r2 r3 r4
            go_wp2
            go_ret
            exact ⟨ret_bool E2.out.symm, HW5.out⟩
      · rw [if_neg (by decide), if_neg (by decide), if_pos rfl] at E
        go_wp2_with fail
        refine (allOk_any R V [a] _ 0 _ _ (ints_lit _ [a] _ _ _ (by simp) rfl (by simp))).mono ?_
        rintro e2 w2 ⟨rfl, bel2⟩
        rw [HE1.out]
        have b2 := below_new bel2
        have HW3 := hideP (below_trans HW2.out b2)
        have M2 := hideP (kp K2.out b2)
        clear bel2 b2 p0 p1 p2 p3 p4 r0 r1 r2 r3 r4
        have r3 := (cells_of M2.out).1 3
        have r4 := (cells_of M2.out).1 4
        simp at r3 r4
        cases hr : vOk V a
        · have E2 : Hid (jmpOk V M ⟨code, 2, a, to, els⟩ = false) := E.out.trans (by simp [hr])
          clear hr
          go_wp2
          go_ret
          exact ⟨ret_bool E2.out.symm, HW3.out⟩
        · rw [hr, Bool.true_and] at E
          clear hr
          go_wp2
          all_goals go_ret
          all_goals refine ⟨ret_bool ?_, HW3.out⟩
          all_goals rw [E.out]
          all_goals clear E
          all_goals first | (simp [*]; done) | (rw [Bool.eq_iff_iff]; simp [*]; done)
    · have n1 : ¬ jump = 1 := fun h => h12 (Or.inl h)
      have n2 : ¬ jump = 2 := fun h => h12 (Or.inr h)
      rw [if_neg h0, if_neg n1, if_neg n2] at E
      clear h12
      go_wp2
      go_ret
      exact ⟨ret_bool E.out.symm, HW2.out⟩
end Go.Proofs.Ytjmclmbepnbeoaa

/- The contract of impl.GraphOk. -/
namespace Go.Proofs.Ytjmclmbepnbeoaa
open Go.ChangeShapes Go.WideShapes Go.ChangeAt Go.RowKit Go.Shelf
attribute [local go_sem] Oper.semAt_some
theorem three_at (w : World) (o1 o2 o3 : Obj) : (((w.alloc o1).alloc o2).alloc o3).heap[w.heap.size]? = some o1 ∧ (((w.alloc o1).alloc o2).alloc o3).heap[w.heap.size + 1]? = some o2 ∧ (((w.alloc o1).alloc o2).alloc o3).heap[w.heap.size + 1 + 1]? = some o3 := by
  have h := three (w := w) (o1 := o1) (o2 := o2) (o3 := o3) (Below.refl _ _)
  exact ⟨h.1, h.2.1, h.2.2.1⟩
/-- Between two rounds: the boxes, and that all steps so far are right. -/
structure GoOn (w : World) (g : Gr) (G : Array Value) (pre : List Ins) (W : World) : Prop where
  g0 : W.heap[w.heap.size]? = some (.cells G 29 (0, 0))
  r0 : W.heap[w.heap.size + 1]? = some (.cells #[.bool false] 4 (0, 0))
  c0 : W.heap[w.heap.size + 1 + 1]? = some (.cells #[.int .i64 (pre.length : Nat)] 3 (0, 0))
  few : pre.length ≤ 1000
  all : pre.all (insOk (g.sizes.length : Nat) g.slots) = true
  bel : Below w.heap.size w W
/-- A round has returned: a step is wrong, or they are too many. -/
structure GoneOut (w : World) (g : Gr) (pre : List Ins) (W : World) : Prop where
  r0 : W.heap[w.heap.size + 1]? = some (.cells #[.bool false] 4 (0, 0))
  bad : 1000 < pre.length ∨ pre.all (insOk (g.sizes.length : Nat) g.slots) = false
  bel : Below w.heap.size w W
theorem GoOn.alloc {w : World} {g : Gr} {G : Array Value} {pre : List Ins} {W : World} (h : GoOn w g G pre W) (o : Obj) : GoOn w g G pre (W.alloc o) :=
  have al := (Below.refl W.heap.size W).alloc (Nat.le_refl _) o
  ⟨box_keep h.g0 al, box_keep h.r0 al, box_keep h.c0 al, h.few, h.all, h.bel.alloc h.bel.size _⟩
theorem GoOn.put {w : World} {g : Gr} {G : Array Value} {pre : List Ins} {W : World} (h : GoOn w g G pre W) (l : Nat) (hl : w.heap.size + 2 < l) (o : Obj) : GoOn w g G pre (W.putObj l o) :=
  ⟨(World.putObj_heap_other (by omega)).trans h.g0, (World.putObj_heap_other (by omega)).trans h.r0, (World.putObj_heap_other (by omega)).trans h.c0, h.few, h.all, h.bel.trans (put_below _ (by omega) h.bel.size)⟩
theorem GoneOut.put {w : World} {g : Gr} {pre : List Ins} {W : World} (h : GoneOut w g pre W) (l : Nat) (hl : w.heap.size + 2 < l) (o : Obj) : GoneOut w g pre (W.putObj l o) :=
  ⟨(World.putObj_heap_other (by omega)).trans h.r0, h.bad, h.bel.trans (put_below _ (by omega) h.bel.size)⟩
theorem bad_not {g : Gr} {pre : List Ins} (hp : pre <+: codeAll g.blocks) (h : 1000 < pre.length ∨ pre.all (insOk (g.sizes.length : Nat) g.slots) = false) : grOk g = false := by
  rcases h with h | h
  · have := hp.length_le
    have e : decide ((codeAll g.blocks).length ≤ 1000) = false := by simp; omega
    unfold grOk; rw [e]; simp
  · have e : (codeAll g.blocks).all (insOk (g.sizes.length : Nat) g.slots) = false := by
      rw [List.all_eq_false] at h ⊢
      obtain ⟨x, hx, hn⟩ := h
      exact ⟨x, hp.subset hx, hn⟩
    unfold grOk; rw [e]; simp
/-- Two boxes of one's own are written: the count, and the result. -/
theorem set2_kept (W : World) (m : Nat) (u v : Value) : Kept (m + 3) m W ((W.setCell ⟨m + 1 + 1, 0, none⟩ u).setCell ⟨m + 1, 0, none⟩ v) :=
  ⟨by simp, fun k hk _ => (Below.heap_setCell _ ⟨m + 1, 0, none⟩ _ _ (by show _ ≠ m + 1; omega)).trans (Below.heap_setCell _ ⟨m + 1 + 1, 0, none⟩ _ _ (by show _ ≠ m + 1 + 1; omega)),
   ((Below.refl m W).setCell (p := ⟨m + 1 + 1, 0, none⟩) (by show m ≤ m + 1 + 1; omega) _).setCell (p := ⟨m + 1, 0, none⟩) (by show m ≤ m + 1; omega) _⟩
/-- The count is written, then a call adds to memory. -/
theorem set1_after (W w1 : World) (m : Nat) {u rv cv : Value} {T1 T2 T3 : TypeId} {G : Array Value} (hr : W.heap[m + 1]? = some (.cells #[rv] T1 (0, 0))) (hc : W.heap[m + 1 + 1]? = some (.cells #[cv] T2 (0, 0))) (hg : W.heap[m]? = some (.cells G T3 (0, 0)))
    (bel : Below (W.setCell ⟨m + 1 + 1, 0, none⟩ u).heap.size (W.setCell ⟨m + 1 + 1, 0, none⟩ u) w1) :
    w1.heap[m + 1]? = some (.cells #[rv] T1 (0, 0)) ∧ w1.heap[m + 1 + 1]? = some (.cells #[u] T2 (0, 0)) ∧ w1.heap[m]? = some (.cells G T3 (0, 0)) ∧ Kept (m + 3) m W w1 := by
  have h1 := (Below.heap_setCell W ⟨m + 1 + 1, 0, none⟩ u (m + 1) (by show _ ≠ m + 1 + 1; omega)).trans hr
  have h2 := heap_setCell_same W (m + 1 + 1) 0 #[cv] T2 u hc
  have h3 := (Below.heap_setCell W ⟨m + 1 + 1, 0, none⟩ u m (by show _ ≠ m + 1 + 1; omega)).trans hg
  have hz : (W.setCell ⟨m + 1 + 1, 0, none⟩ u).heap.size = W.heap.size := size_set _ _ _
  have hmW := (Array.getElem?_eq_some_iff.1 hg).1
  refine ⟨box_keep h1 bel, by simpa using box_keep h2 bel, box_keep h3 bel, ⟨by have := bel.size; omega, fun k hk hkW => (bel.block k (by omega)).trans (Below.heap_setCell W ⟨m + 1 + 1, 0, none⟩ u k (by show _ ≠ m + 1 + 1; omega)), ?_⟩⟩
  exact ((Below.refl m W).setCell (p := ⟨m + 1 + 1, 0, none⟩) (by show m ≤ m + 1 + 1; omega) u).trans (bel.mono (by omega))
/-- The result is written and the marks are taken: what is left. -/
theorem leaveB {w X : World} {D : Nat} {T : TypeId} {u : Value} {v : Bool} (hr : X.heap[w.heap.size + 1]? = some (.cells #[u] T (0, 0))) (hk : X.heap[D]? = some (.deferred (some []))) (hD : w.heap.size + 1 < D) (hb : Below w.heap.size w X) :
    (X.setCell ⟨w.heap.size + 1, 0, none⟩ (.bool v)).heap[D]? = some (.deferred (some [])) ∧ ((X.setCell ⟨w.heap.size + 1, 0, none⟩ (.bool v)).putObj D (.deferred none)).cell? ⟨w.heap.size + 1, 0, none⟩ = some (.bool v) ∧ Below w.heap.size w ((X.setCell ⟨w.heap.size + 1, 0, none⟩ (.bool v)).putObj D (.deferred none)) := by
  have h1 := heap_setCell_same X (w.heap.size + 1) 0 #[u] T (.bool v) hr
  have h2 : ((X.setCell ⟨w.heap.size + 1, 0, none⟩ (.bool v)).putObj D (.deferred none)).heap[w.heap.size + 1]? = _ := (World.putObj_heap_other (by omega)).trans h1
  have h3 := (cells_of h2).1 0
  simp at h3
  have hb1 := hb.setCell (p := ⟨w.heap.size + 1, 0, none⟩) (by show w.heap.size ≤ w.heap.size + 1; omega) (.bool v)
  exact ⟨(Below.heap_setCell X ⟨w.heap.size + 1, 0, none⟩ _ D (by show D ≠ w.heap.size + 1; omega)).trans hk, h3, hb1.trans (put_below _ (by omega) hb1.size)⟩
set_option maxRecDepth 100000 in
set_option maxHeartbeats 16000000 in
theorem impl_graphOk (g : Gr) (w : World) (B : Nat) (v : Array Value) (h : GrIs w B v g) :
    Calls Try.prog 61 #[.agg v] w fun en w' => en = .returned (.bool (grOk g)) ∧ Below w.heap.size w w' := by
  have hG := hideP h
  obtain ⟨sizes, params, vars, slots, blocks⟩ := g
  obtain ⟨us, cs, ub, cb, rfl, ok, hz, hb⟩ := h
  simp only at *
  have hm := maxLen_lt
  have hl := hb.1
  have HZ := hideP hz
  have HB := hideP hb
  obtain ⟨r, hr⟩ : ∃ r, frOk sizes params vars = r := ⟨_, rfl⟩
  have FO : Hid (∀ W, Below w.heap.size w W → Calls Try.prog 102 #[.slice us sizes.length cs, .int .i64 params, .int .i64 vars] W fun e w' => e = .returned (.bool r) ∧ w' = W) := fun W hW => by rw [← hr]; exact frameOk_any sizes params vars W B us cs (HZ.out.stays hW)
  have HR := hideP hr
  clear hz hb ok hr
  refine (callsIn_wide (n := 4)).1 ?_
  refine callsIn_of_wp_marks Try.func61 rfl trivial ?_ rfl
  simp only [Try.ntmps61, List.size_toArray, List.length_cons, List.length_nil, Nat.reduceAdd, Nat.reduceSub, Array.replicate_succ, Array.replicate_zero, List.push_toArray, List.append_toArray, List.nil_append, List.cons_append]
  by_cases hbad : r = false ∨ ¬ (vars ≤ slots ∧ slots ≤ 1000) ∨ ¬ (1 ≤ blocks.length ∧ blocks.length ≤ 300)
  · have E : Hid (grOk ⟨sizes, params, vars, slots, blocks⟩ = false) := by
      show _ = _
      unfold grOk
      rcases hbad with hb | hb | hb
      · simp only; rw [HR.out, hb]; simp
      · simp only; rw [decide_eq_false hb]; simp
      · simp only; rw [decide_eq_false hb]; simp
    cases r
    · gi_wp2_with (refine ⟨trivial, ?_⟩; gi_at_call 102; refine (callsIn_wide.2 (FO.out _ (below2 w _ _))).mono ?_; rintro e1 w1 ⟨rfl, rfl⟩)
      refine ⟨.bool false, by simp [results, Try.results61, go_sem], ret_bool E.out.symm, below2 w _ _⟩
    · have hbad2 : ¬ (vars ≤ slots ∧ slots ≤ 1000 ∧ 1 ≤ blocks.length ∧ blocks.length ≤ 300) := by rcases hbad with h | h | h; exact absurd h (by decide); exact fun ⟨a, b, _⟩ => h ⟨a, b⟩; exact fun ⟨_, _, a, b⟩ => h ⟨a, b⟩
      clear hbad
      gi_wp2_with (refine ⟨trivial, ?_⟩; gi_at_call 102; refine (callsIn_wide.2 (FO.out _ (below2 w _ _))).mono ?_; rintro e1 w1 ⟨rfl, rfl⟩)
      all_goals first | (exact absurd ⟨by omega, by omega, by omega, by omega⟩ hbad2) | skip
      all_goals refine ⟨.bool false, by simp [results, Try.results61, go_sem], ret_bool E.out.symm, below2 w _ _⟩
  · obtain ⟨hr1, hs1, hs2, hb1, hb2⟩ : r = true ∧ vars ≤ slots ∧ slots ≤ 1000 ∧ 1 ≤ blocks.length ∧ blocks.length ≤ 300 := by
      cases r
      · exact absurd (Or.inl rfl) hbad
      · refine ⟨rfl, ?_⟩
        by_cases h1 : vars ≤ slots ∧ slots ≤ 1000
        · by_cases h2 : 1 ≤ blocks.length ∧ blocks.length ≤ 300
          · exact ⟨h1.1, h1.2, h2.1, h2.2⟩
          · exact absurd (Or.inr (Or.inr h2)) hbad
        · exact absurd (Or.inr (Or.inl h1)) hbad
    subst hr1
    clear hbad
    have n1 : ¬ slots < vars := by omega
    have n2 : ¬ (1000 : Int) < slots := by omega
    have n3 : ¬ (blocks.length : Int) < 1 := by omega
    have n4 : ¬ (300 : Int) < (blocks.length : Int) := by omega
    gi_wp2_with (refine ⟨trivial, ?_⟩; gi_at_call 102; refine (callsIn_wide.2 (FO.out _ (below2 w _ _))).mono ?_; rintro e1 w1 ⟨rfl, rfl⟩)
    obtain ⟨k0, k1, k2⟩ := three_at w (.cells #[.slice us sizes.length cs, .int .i64 params, .int .i64 vars, .int .i64 slots, .slice ub blocks.length cb] 29) (.cells #[.bool false] 4) (.cells #[.int .i64 0] 3)
    have bel3 := below3 w (.cells #[.slice us sizes.length cs, .int .i64 params, .int .i64 vars, .int .i64 slots, .slice ub blocks.length cb] 29) (.cells #[.bool false] 4) (.cells #[.int .i64 0] 3)
    have hz3 : (((w.alloc (.cells #[.slice us sizes.length cs, .int .i64 params, .int .i64 vars, .int .i64 slots, .slice ub blocks.length cb] 29)).alloc (.cells #[.bool false] 4)).alloc (.cells #[.int .i64 0] 3)).heap.size = w.heap.size + 3 := by simp
    refine range_steps rfl (by decide) (by decide) trivial w B blocks ub cb HB.out bel3 rfl
      (GoOn w (⟨sizes, params, vars, slots, blocks⟩ : Gr) #[.slice us sizes.length cs, .int .i64 params, .int .i64 vars, .int .i64 slots, .slice ub blocks.length cb]) (GoneOut w (⟨sizes, params, vars, slots, blocks⟩ : Gr)) (fun pre W o h => h.alloc o) (fun pre W o h => h.put _ (by rw [hz3]; omega) o) (fun pre W o h => h.put _ (by rw [hz3]; omega) o)
      ⟨k0, k1, k2, by simp, by simp, bel3⟩ 4 ?assign ?body ?done ?stop
    case assign =>
      intro l x W K hK
      simp only [insCells]
      gi_wp2
      simpa [axOf, insCells] using hK
    case body =>
      rintro l pre x bx W hbx hwf hsz hi hx hbel
      have g0 := (cells_of hi.g0).1
      have p0 := g0 0
      have p1 := g0 1
      have p2 := g0 2
      have p3 := g0 3
      have p4 := g0 4
      have c0 := (cells_of hi.c0).1 0
      have f0 := (cells_of hi.c0).2 0
      have s0 := (cells_of hi.r0).1 0
      have t0 := (cells_of hi.r0).2 0
      have xx := (cells_of hx).1
      simp only [insCells] at xx
      have x0 := xx 0
      have x1 := xx 1
      have x2 := xx 2
      have x3 := xx 3
      have x4 := xx 4
      have x5 := xx 5
      have x6 := xx 6
      simp at p0 p1 p2 p3 p4 c0 s0 x0 x1 x2 x3 x4 x5 x6
      rw [hz3] at hbx
      have few := hi.few
      have IO : Hid (∀ W', Below w.heap.size w W' → Calls Try.prog 104 #[.agg #[.slice us sizes.length cs, .int .i64 params, .int .i64 vars, .int .i64 slots, .slice ub blocks.length cb], .agg #[.int .i64 x.op, .int .i64 x.d, .int .i64 x.a, .int .i64 x.b, .int .i64 x.c, .int .i64 x.n, .string x.t]] W' fun en w' => en = .returned (.bool (insOk (sizes.length : Nat) slots x)) ∧ Below W'.heap.size W' w') := fun W' hW' => impl_instrOk (⟨sizes, params, vars, slots, blocks⟩ : Gr) x W' B 0 _ _ (GrKeeps.stays hG.out hW') ⟨rfl, hwf, hsz⟩
      have HI := hideP hi
      have setB : Hid (∀ u, Below w.heap.size w (W.setCell ⟨w.heap.size + 1 + 1, 0, none⟩ u)) := fun u => hi.bel.setCell (p := ⟨w.heap.size + 1 + 1, 0, none⟩) (by show w.heap.size ≤ w.heap.size + 1 + 1; omega) u
      have hne1 : ¬ w.heap.size + 1 + 1 = w.heap.size := by omega
      have hne2 : ¬ bx = w.heap.size + 1 + 1 := by omega
      clear g0 xx hi hx hbel hwf hsz k0 k1 k2 bel3
      simp only [axOf, insCells]
      have hD := hz3
      by_cases hc : pre.length = 1000
      · have hc1 : ((pre.length : Nat) : Int) = 1000 := by omega
        rw [hc1] at c0
        have hne3 : ¬ w.heap.size + 1 = w.heap.size + 1 + 1 := by omega
        gi_wp2
        refine ⟨trivial, ?_⟩
        gi_wp2
        rw [hD]
        have kp1 := set2_kept W w.heap.size (.int .i64 1001) (.bool false)
        refine ⟨kp1, ⟨?_, Or.inl (by simp; omega), HI.out.bel.trans kp1.bel⟩⟩
        exact heap_setCell_same _ _ _ _ _ _ ((Below.heap_setCell _ ⟨w.heap.size + 1 + 1, 0, none⟩ _ _ (by show _ ≠ w.heap.size + 1 + 1; omega)).trans HI.out.r0)
      · have hc2 : ¬ (1000 : Int) < (pre.length : Nat) + 1 := by omega
        obtain ⟨r, hr⟩ : ∃ r, insOk (sizes.length : Nat) slots x = r := ⟨_, rfl⟩
        rw [hr] at IO
        have HR2 := hideP hr
        clear hr
        gi_wp2_with (refine ⟨trivial, ?_⟩; gi_at_call 104; refine (CallsIn.inRound l (callsIn_wide.2 (IO.out _ (setB.out _)))).mono ?_; rintro e1 w1 ⟨rfl, bel1⟩; obtain ⟨y1, y2, y3, y4⟩ := set1_after W w1 w.heap.size HI.out.r0 HI.out.c0 HI.out.g0 bel1; have Y1 := hideP y1; have Y2 := hideP y2; have Y3 := hideP y3; have Y4 := hideP y4; have sr := (cells_of y1).1 0; have tr := (cells_of y1).2 0; simp at sr; clear y1 y2 y3 y4 bel1; cases r)
        all_goals first | (exfalso; omega) | skip
        · rw [hD]
          have kp1 := Y4.out
          refine ⟨⟨by simpa using kp1.size, fun k hk hkW => (Below.heap_setCell _ ⟨w.heap.size + 1, 0, none⟩ _ _ (by show _ ≠ w.heap.size + 1; omega)).trans (kp1.same k hk hkW), kp1.bel.setCell (p := ⟨w.heap.size + 1, 0, none⟩) (by show w.heap.size ≤ w.heap.size + 1; omega) _⟩, ⟨?_, Or.inr (by simp [HR2.out]), (HI.out.bel.trans kp1.bel).setCell (p := ⟨w.heap.size + 1, 0, none⟩) (by show w.heap.size ≤ w.heap.size + 1; omega) _⟩⟩
          exact heap_setCell_same _ _ _ _ _ _ Y1.out
        · rw [hD]
          refine ⟨Y4.out, ⟨Y3.out, Y1.out, by simpa using Y2.out, by simp; omega, by rw [List.all_append, HI.out.all]; simp [HR2.out], HI.out.bel.trans Y4.out.bel⟩⟩
    case done =>
      rintro D W hD hi hbel hK
      rw [hz3] at hD
      have E : Hid (grOk (⟨sizes, params, vars, slots, blocks⟩ : Gr) = blocks.all (jmpOk slots blocks.length)) := by
        show _ = _
        have e1 : frOk sizes params vars = true := HR.out
        have e2 := hi.few
        have e3 := hi.all
        unfold grOk
        simp only at e3 ⊢
        rw [e1, e3]
        simp [hs1, hs2, hb1, hb2, e2]
      have HI := hideP hi
      have HK := hideP hK
      have g0 := (cells_of hi.g0).1
      have p4 := g0 4
      simp at p4
      have hlW := (Array.getElem?_eq_some_iff.1 hi.c0).1
      clear hbel k0 k1 k2 bel3 n1 n2 n3 n4 FO hz3 g0 hK hi
      gi_wp2
      clear p4
      gi_loopw [54] (fun i wr => ∃ j : Nat, j ≤ blocks.length ∧ i = .int .i64 j ∧ Hid (Below W.heap.size W wr) ∧ Hid ((blocks.take j).all (jmpOk slots blocks.length) = true)) (fun i _ => blocks.length - (intOf i).toNat)
      case atStart => exact ⟨0, Nat.zero_le _, rfl, Below.refl _ _, show _ = _ by simp⟩
      case round =>
        obtain ⟨j, hj, rfl, hbr, hok⟩ := hrel
        have bw := HI.out.bel.trans (hbr.out.mono HI.out.bel.size)
        have r0 := box_keep HI.out.r0 hbr.out
        have sr := (cells_of r0).1 0
        have tr := (cells_of r0).2 0
        have k0 := box_keep HK.out hbr.out
        simp at sr
        by_cases hlt : j < blocks.length
        · obtain ⟨b, o, x0, x1, x2, x3, x4, ux, kx, rfl, _, hbb, hx, q0, q1, q2, q3, q4, hbX⟩ := Blk_get HB.out j hlt
          have tk := all_take (jmpOk slots blocks.length) blocks j hlt
          have no := all_no (jmpOk slots blocks.length) blocks j hlt
          rw [hx] at tk no
          rw [hok.out, Bool.true_and] at tk
          replace q0 := (bw.cell (p := ⟨b, _, none⟩) hbb).trans q0
          replace q1 := (bw.cell (p := ⟨b, _, none⟩) hbb).trans q1
          replace q2 := (bw.cell (p := ⟨b, _, none⟩) hbb).trans q2
          replace q3 := (bw.cell (p := ⟨b, _, none⟩) hbb).trans q3
          replace q4 := (bw.cell (p := ⟨b, _, none⟩) hbb).trans q4
          have gg := (cells_of (box_keep HI.out.g0 hbr.out)).1
          have p0 := gg 0
          have p1 := gg 1
          have p2 := gg 2
          have p3 := gg 3
          have p4 := gg 4
          simp at p0 p1 p2 p3 p4
          obtain ⟨r, hr⟩ : ∃ r, jmpOk slots blocks.length ⟨x0, x1, x2, x3, x4⟩ = r := ⟨_, rfl⟩
          rw [hr] at tk no
          have JO : Hid (∀ W', Below w.heap.size w W' → Calls Try.prog 105 #[.agg #[.slice us sizes.length cs, .int .i64 params, .int .i64 vars, .int .i64 slots, .slice (some ⟨b, o, none⟩) blocks.length cb], .agg #[.slice ux x0.length kx, .int .i64 x1, .int .i64 x2, .int .i64 x3, .int .i64 x4]] W' fun en w' => en = .returned (.bool r) ∧ Below W'.heap.size W' w') := fun W' hW' => by
            rw [← hr]; exact jumpOk_any (⟨sizes, params, vars, slots, blocks⟩ : Gr) ⟨x0, x1, x2, x3, x4⟩ W' B B _ _ (GrKeeps.stays hG.out hW') (BlkKeeps.stays hbX hW')
          have hw0 : w.heap.size < wr.heap.size := by have := hbr.out.size; omega
          have BWr := hideP (bw.alloc bw.size (.cells #[.slice ux x0.length kx, .int .i64 x1, .int .i64 x2, .int .i64 x3, .int .i64 x4] 44))
          have BWW := hideP bw
          have TK := hideP tk
          have NO := hideP no
          have R0 := hideP r0
          have K0 := hideP k0
          clear hr tk no gg hbX hx r0 k0 bw
          gi_wp2_with (refine ⟨trivial, ?_⟩; gi_at_call 105; refine (callsIn_wide.2 (JO.out _ BWr.out)).mono ?_; rintro e1 w1 ⟨rfl, bel1⟩; have b1 := below_new bel1; have z0 := box_keep R0.out b1; have Z0 := hideP z0; have zr := (cells_of z0).1 0; have zt := (cells_of z0).2 0; simp at zr; have B1 := hideP b1; clear bel1 z0 b1; cases r)
          · obtain ⟨hk2, hc2, hb2'⟩ := leaveB (v := false) Z0.out (box_keep K0.out B1.out) (by omega) (BWW.out.trans (B1.out.mono BWW.out.size))
            refine ⟨by simp, .inl ⟨_, _, rfl, run_takeDeferred hk2, ?_⟩⟩
            refine ⟨.bool false, by simp [results, Try.results61, go_sem, hc2], ret_bool (by rw [E.out]; exact (NO.out (by first | rfl | trivial)).symm), hb2'⟩
          · go_roundw
            case rel => exact ⟨j + 1, by omega, by go_num, hbr.out.trans (B1.out.mono hbr.out.size), TK.out⟩
            case measure => simp [intOf]; omega
        · obtain rfl : j = blocks.length := by omega
          have h1 := hok.out
          rw [List.take_length] at h1
          have E2 := hideP (E.out.trans h1)
          have R0 := hideP r0
          have K0 := hideP k0
          have BWW := hideP bw
          clear h1 hok r0 k0 bw
          gi_wp2
          obtain ⟨hk2, hc2, hb2'⟩ := leaveB (v := true) R0.out K0.out (by omega) BWW.out
          refine ⟨by simp, .inl ⟨_, _, rfl, run_takeDeferred hk2, ?_⟩⟩
          refine ⟨.bool true, by simp [results, Try.results61, go_sem, hc2], ret_bool E2.out.symm, hb2'⟩
    case stop =>
      rintro D pre W hD hpre hx hK
      gi_wp2
      refine ⟨by simp, .inl ⟨_, _, rfl, run_takeDeferred hK, ?_⟩⟩
      rw [hz3] at hD
      have hr2 : (W.putObj D (.deferred none)).heap[w.heap.size + 1]? = some (.cells #[.bool false] 4 (0, 0)) := (World.putObj_heap_other (by omega)).trans hx.r0
      have hc2 := (cells_of hr2).1 0
      simp at hc2
      refine ⟨.bool false, by simp [results, Try.results61, go_sem, hc2], ret_bool (bad_not hpre hx.bad).symm, hx.bel.trans (put_below _ (by omega) hx.bel.size)⟩
end Go.Proofs.Ytjmclmbepnbeoaa
