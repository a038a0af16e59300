/- A range over the steps of blocks by a method value: the loop's law, over the iterator's contract. -/
import Derived.Test.YtljeahjcfbcbgaaRangeB
namespace Go.Proofs.Ytljeahjcfbcbgaa
open Go.ChangeShapes Go.WideShapes Go.ChangeAt Go.RowKit Go.Shelf
attribute [local go_sem] Oper.semAt_some
set_option maxRecDepth 100000 in
set_option maxHeartbeats 4000000 in
theorem steps_inC (F : Fence) (n : Nat) (hF : F.fn 50) (hro : F.round = none) (hn : 1 ≤ n) (l : Nat) (w0 : World) (B : Nat) (bs : List Blk) (a : Option Addr) (cap : Nat) (h : SlIs BlkIs 5 w0 B a bs) (J Jx : List Ins → World → Prop)
    (hJa : ∀ pre W o, J pre W → J pre (W.alloc o))
    (hY : ∀ pre x W, J pre W → x.wf → x.t.size ≤ maxLen → pre ++ [x] <+: codeAll bs → YieldAt F (n - 1) Try.prog l #[.agg (insCells x)] W fun e W' =>
      (e = .returned (.bool true) ∧ J (pre ++ [x]) W' ∧ Below w0.heap.size W W') ∨ (e = .returned (.bool false) ∧ Jx (pre ++ [x]) W'))
    (W : World) (hW : Below w0.heap.size w0 W) (h0 : J [] W) :
    CallsIn F n Try.prog 50 #[.slice a bs.length cap, .func (.yield l) #[] #[]] W fun e W' => (∃ v, e = .returned v) ∧
      ((J (codeAll bs) W' ∧ Below w0.heap.size w0 W') ∨ ∃ pre, pre <+: codeAll bs ∧ Jx pre W') := by
  have hm := maxLen_lt
  have hl := h.1
  have H := hideP h
  have HJ := hideP hJa
  have HY := hideP hY
  clear h hJa hY
  refine callsIn_of_wp Try.func50 rfl hF ?_ hro
  simp only [Try.ntmps50, List.size_toArray, List.length_cons, List.length_nil, Nat.reduceAdd, Nat.reduceSub, Array.replicate_succ, Array.replicate_zero, List.push_toArray, List.append_toArray, List.nil_append, List.cons_append]
  gi_wp2
  gi_loopw [10] (fun i wr => ∃ j : Nat, j ≤ bs.length ∧ i = .int .i64 j ∧ Hid (J (codeAll (bs.take j)) wr) ∧ Hid (Below w0.heap.size w0 wr)) (fun i _ => bs.length - (intOf i).toNat)
  case atStart => exact ⟨0, Nat.zero_le _, rfl, h0, hW⟩
  case round =>
    obtain ⟨j, hj, rfl, hJs, hbel⟩ := hrel
    by_cases hlt : j < bs.length
    · obtain ⟨b, o, x0, x1, x2, x3, x4, ux, kx, rfl, _, hb, hx, p0, p1, p2, p3, p4, hbX⟩ := Blk_get H.out j hlt
      replace p0 := (hbel.out.cell (p := ⟨b, _, none⟩) hb).trans p0
      replace p1 := (hbel.out.cell (p := ⟨b, _, none⟩) hb).trans p1
      replace p2 := (hbel.out.cell (p := ⟨b, _, none⟩) hb).trans p2
      replace p3 := (hbel.out.cell (p := ⟨b, _, none⟩) hb).trans p3
      replace p4 := (hbel.out.cell (p := ⟨b, _, none⟩) hb).trans p4
      have hsz := hbel.out.size
      have hcl := hbX
      obtain ⟨u', c', hv, _, hcode⟩ := hcl
      simp at hv
      obtain ⟨⟨rfl, rfl⟩, -⟩ := hv
      have hlc := hcode.1
      have HC := hideP hcode
      have HX := hideP hx
      have HT := hideP (codeAll_take bs j hlt)
      have HP := hideP (codeAll_pre bs (j + 1))
      clear hx hbX hcode
      gi_wp2
      clear p0 p1 p2 p3 p4
      gi_loopw [17] (fun i wq => ∃ k : Nat, k ≤ x0.length ∧ i = .int .i64 k ∧ Hid (J (codeAll (bs.take j) ++ x0.take k) wq) ∧ Hid (Below w0.heap.size w0 wq) ∧ Hid (Below w0.heap.size wr wq)) (fun i _ => x0.length - (intOf i).toNat)
      case atStart => exact ⟨0, Nat.zero_le _, rfl, by show J _ _; simpa using HJ.out _ _ _ hJs.out, hbel.out.alloc hsz _, (Below.refl _ _).alloc hsz _⟩
      case round =>
        obtain ⟨k, hk, rfl, hJk, hbk, hbr⟩ := hrel
        by_cases hlk : k < x0.length
        · obtain ⟨bu, ou, i0, i1, i2, i3, i4, i5, i6, rfl, _, hbu, hi, c0, c1, c2, c3, c4, c5, c6, hI⟩ := Ins_get HC.out k hlk
          replace c0 := (hbk.out.cell (p := ⟨bu, _, none⟩) hbu).trans c0
          replace c1 := (hbk.out.cell (p := ⟨bu, _, none⟩) hbu).trans c1
          replace c2 := (hbk.out.cell (p := ⟨bu, _, none⟩) hbu).trans c2
          replace c3 := (hbk.out.cell (p := ⟨bu, _, none⟩) hbu).trans c3
          replace c4 := (hbk.out.cell (p := ⟨bu, _, none⟩) hbu).trans c4
          replace c5 := (hbk.out.cell (p := ⟨bu, _, none⟩) hbu).trans c5
          replace c6 := (hbk.out.cell (p := ⟨bu, _, none⟩) hbu).trans c6
          have hsk := hbk.out.size
          have tk := take_snoc x0 k hlk
          rw [hi] at tk
          have HK := hideP tk
          have HPX : Hid (codeAll (bs.take j) ++ x0.take k ++ [(⟨i0, i1, i2, i3, i4, i5, i6⟩ : Ins)] <+: codeAll bs) := List.IsPrefix.trans ⟨x0.drop (k + 1), by rw [HT.out, HX.out, List.append_assoc, List.append_assoc, ← List.append_assoc (x0.take k), ← HK.out, List.take_append_drop]⟩ HP.out
          obtain ⟨fn, tmps, assign, body, hy, hR⟩ := HY.out _ ⟨i0, i1, i2, i3, i4, i5, i6⟩ (wr.alloc (.cells (insCells ⟨i0, i1, i2, i3, i4, i5, i6⟩) 67)) (HJ.out _ _ _ hJk.out) hI.2.1 hI.2.2 HPX.out
          simp only [insCells] at hy hR
          clear tk hi hI
          gi_wp2
          refine hR.mono ?_
          rintro e W3 (⟨rfl, hJ3, hk3⟩ | ⟨rfl, hJx3⟩)
          · clear c0 c1 c2 c3 c4 c5 c6 hy hR
            gi_wp2
            go_roundw
            case rel => exact ⟨k + 1, by omega, by go_num, by show J _ _; rw [HK.out, ← List.append_assoc]; exact hJ3, (hbk.out.alloc hsk _).trans hk3, (hbr.out.alloc (Nat.le_trans hbel.out.size (by first | exact hbr.out.size | exact Nat.le_of_lt (by omega) | omega)) _).trans hk3⟩
            case measure => simp [intOf]; omega
          · clear c0 c1 c2 c3 c4 c5 c6 hy hR
            gi_wp2
            refine bodyPost_ret (results_none rfl _ _ _) rfl ?_
            exact ⟨⟨_, rfl⟩, .inr ⟨_, List.IsPrefix.trans ⟨x0.drop (k + 1), by rw [HT.out, HX.out, List.append_assoc, List.append_assoc, ← List.append_assoc (x0.take k), ← HK.out, List.take_append_drop]⟩ HP.out, hJx3⟩⟩
        · obtain rfl : k = x0.length := by omega
          gi_wp2
          go_roundw
          case rel => exact ⟨j + 1, by omega, by go_num, by show J _ _; rw [HT.out, HX.out]; have := hJk.out; rwa [List.take_length] at this, hbk.out⟩
          case measure => simp [intOf]; omega
    · obtain rfl : j = bs.length := by omega
      gi_wp2
      go_end0
      exact ⟨⟨_, rfl⟩, .inl ⟨by have := hJs.out; rwa [List.take_length] at this, hbel.out⟩⟩
/-- What a round keeps: the loop's own two blocks, and what lay below B. -/
structure KeptC (D B : Nat) (W W' : World) : Prop where
  size : W.heap.size ≤ W'.heap.size
  same : ∀ k, D ≤ k → k < D + 2 → W'.heap[k]? = W.heap[k]?
  bel : Below B W W'
/-- How a round may be left: it goes on, or it returns. -/
def roundLeftC (D B : Nat) (I Ix : List Ins → World → Prop) (xs : List Ins) (W : World) : Exit → Act → World → Prop
  | .normal, _, W' => KeptC D B W W' ∧ I xs W'
  | .ret, _, W' => KeptC D B W W' ∧ Ix xs W'
  | _, _, _ => False
set_option maxHeartbeats 4000000 in
theorem range_stepsC {F : Fence} {n : Nat} {g : Operand} {p : Nat} {assign body : Code} {Q : Exit → Act → World → Prop} {a : Act} {w : World}
    (hro : F.round = none) (h1 : 1 ≤ n) (h2 : 1 ≤ n - 1) (hF : F.fn 50)
    (w0 : World) (B : Nat) (bs : List Blk) (ua : Option Addr) (cap : Nat) (hs : SlIs BlkIs 5 w0 B ua bs) (hb0 : Below w0.heap.size w0 w)
    (hg : a.eval g = .func (.func 50) #[.slice ua bs.length cap] #[])
    (I Ix : List Ins → World → Prop)
    (hIa : ∀ pre W o, I pre W → I pre (W.alloc o)) (hIp : ∀ pre W o, I pre W → I pre (W.putObj (w.heap.size + 1) o)) (hXp : ∀ pre W o, Ix pre W → Ix pre (W.putObj (w.heap.size + 1) o)) (h0 : I [] w)
    (sx : Nat)
    (hassign : ∀ (l : Nat) (x : Ins) (W : World) (K : Act → World → Prop), K (axOf a p sx x W.heap.size) (W.alloc (.cells (insCells x) 67)) →
      assign.wpIn (F.inRound l) (n - 1 - 1) Try.prog (Exit.then K (fun _ _ _ => False)) { tmps := a.tmps.setIfInBounds p (Value.agg (insCells x)), defers := [] } W)
    (hbody : ∀ (l : Nat) (pre : List Ins) (x : Ins) (bx : Nat) (W : World), w.heap.size + 2 ≤ bx → pre ++ [x] <+: codeAll bs → x.wf → x.t.size ≤ maxLen → I pre W → W.heap[bx]? = some (.cells (insCells x) 67) → Below w0.heap.size w0 W →
      body.wpIn (F.inRound l) (n - 1 - 1) Try.prog (roundLeftC w.heap.size w0.heap.size I Ix (pre ++ [x]) W) (axOf a p sx x bx) W)
    (hdone : ∀ (D : Nat) (W : World), D = w.heap.size → I (codeAll bs) W → Below w0.heap.size w0 W → W.heap[D]? = some (.deferred (some [])) → Q .normal { a with defers := { target := .collected D, args := #[] } :: a.defers } W)
    (hstop : ∀ (D : Nat) (pre : List Ins) (W : World), w.heap.size ≤ D → pre <+: codeAll bs → Ix pre W → W.heap[D]? = some (.deferred (some [])) → Code.ret.wpIn F n Try.prog Q { a with defers := { target := .collected D, args := #[] } :: a.defers } W) :
    (Code.rangeFunc g #[p] assign body).wpIn F n Try.prog Q a w := by
  refine wpIn_rangeFunc ?_
  intro fn hfn
  rw [hro]
  have sz0 := hb0.size
  obtain ⟨R, hR⟩ : ∃ R : LoopState → Option Code → Loop, R = fun st pe => { state := st, pending := pe, fn, tmps := a.tmps, params := #[p], assign, body, defers := w.heap.size } := ⟨_, rfl⟩
  obtain ⟨W1, hW1⟩ : ∃ W1, (w.alloc (.deferred (some []))).alloc (.loop (R .ready none)) = W1 := ⟨_, rfl⟩
  have hz1 : W1.heap.size = w.heap.size + 2 := by rw [← hW1]; simp
  have hw1 := two (w := w) (o1 := .deferred (some [])) (o2 := .loop (R .ready none)) (w1 := W1) (by rw [hW1]; exact Below.refl _ _)
  have hb1 : Below w0.heap.size w0 W1 := hb0.trans (hw1.2.2.2.mono sz0)
  have hI1 : I [] W1 := by rw [← hW1]; exact hIa _ _ _ (hIa _ _ _ h0)
  refine ⟨w.heap.size + 1, [{ target := .collected w.heap.size, args := #[] }], W1, { target := .fn (.func 50) #[], args := #[.slice ua bs.length cap, .func (.yield (w.heap.size + 1)) #[] #[]] }, W1, 50, #[.slice ua bs.length cap, .func (.yield (w.heap.size + 1)) #[] #[]], W1, ?_, ?_, ?_, ?_, fun _ => h1, ?_⟩
  · rw [← hW1, hR]; exact run_enterLoop_outer _ _ _ _ _
  · simp only [resolve, hg]
    simp [go_sem]
  · intro f' hf'
    simp [Target.leads] at hf'
    subst hf'
    exact hF
  · have eg := enters_of (P := Try.prog) Try.func50 (by kernel_rfl) rfl
    simp [invoke, go_sem, eg _ _]
  · have hp1 : (R .ready none).params = #[p] := by rw [hR]
    refine (steps_inC F (n - 1) hF hro h2 (w.heap.size + 1) w0 B bs ua cap hs
      (fun pre W => I pre W ∧ Below w0.heap.size w0 W ∧ W.heap[w.heap.size + 1]? = some (.loop (R .ready none)) ∧ W.heap[w.heap.size]? = some (.deferred (some [])))
      (fun pre W => Ix pre W ∧ W.heap[w.heap.size + 1]? = some (.loop (R .done (some .ret))) ∧ W.heap[w.heap.size]? = some (.deferred (some [])))
      ?alloc ?yield W1 hb1 ⟨hI1, hb1, hw1.2.1, hw1.1⟩).mono ?_
    case alloc =>
      rintro pre W o ⟨hi, hb, hl, hk⟩
      have al := (Below.refl W.heap.size W).alloc (Nat.le_refl _) o
      exact ⟨hIa _ _ _ hi, hb.alloc hb.size _, box_keep hl al, box_keep hk al⟩
    case yield =>
      rintro pre x W ⟨hi, hb, hl, hk⟩ hwf hsz hpx
      have hy := run_yield (P := Try.prog) (args := #[Value.agg (insCells x)]) hl (by rw [hp1]; rfl)
      rw [hR] at hy
      have ez : (#[p].zip #[Value.agg (insCells x)]).foldl (fun t (q, v) => t.setIfInBounds q v) a.tmps = a.tmps.setIfInBounds p (Value.agg (insCells x)) := by simp
      simp only [ez] at hy
      refine ⟨fn, _, assign, body, hy, roundIn_of_wpIn hfn (hassign _ x W _ ?_)⟩
      clear hy
      have al := (Below.refl W.heap.size W).alloc (Nat.le_refl _) (.cells (insCells x) 67)
      have hl1 := box_keep hl al
      have hk1 := box_keep hk al
      have hlt : w.heap.size + 1 < W.heap.size := (Array.getElem?_eq_some_iff.1 hl).1
      have hsb := hb.size
      refine ⟨_, run_beginRound hl1 (by rw [hR]), ?_⟩
      obtain ⟨W2, hW2⟩ : ∃ W2, (W.alloc (.cells (insCells x) 67)).putObj (w.heap.size + 1) (.loop { R .ready none with state := .busy }) = W2 := ⟨_, rfl⟩
      have hl2 : W2.heap[w.heap.size + 1]? = some (.loop { R .ready none with state := .busy }) := by rw [← hW2]; exact World.putObj_heap_same (Array.getElem?_eq_some_iff.1 hl1).1
      have hk2 : W2.heap[w.heap.size]? = some (.deferred (some [])) := by rw [← hW2]; exact (World.putObj_heap_other (by omega)).trans hk1
      have hx2 : W2.heap[W.heap.size]? = some (.cells (insCells x) 67) := by rw [← hW2]; exact (World.putObj_heap_other (by omega)).trans (newB W _)
      have hi2 : I pre W2 := by rw [← hW2]; exact hIp _ _ _ (hIa _ _ _ hi)
      have hz2 : W2.heap.size = W.heap.size + 1 := by rw [← hW2]; simp
      have hbb : Below w0.heap.size W W2 := by rw [← hW2]; exact (al.mono hsb).trans (put_below _ (by omega) (by simp; omega))
      rw [hW2]
      have fin : ∀ (jump : Option Code) (W3 : World), KeptC w.heap.size w0.heap.size W2 W3 →
          (Instr.endRound (w.heap.size + 1) jump).run Try.prog W3 = .ok (.bool jump.isNone) (W3.putObj (w.heap.size + 1) (.loop (R (if jump.isNone then .ready else .done) jump))) ∧
          (W3.putObj (w.heap.size + 1) (.loop (R (if jump.isNone then .ready else .done) jump))).heap[w.heap.size + 1]? = some (.loop (R (if jump.isNone then .ready else .done) jump)) ∧
          (W3.putObj (w.heap.size + 1) (.loop (R (if jump.isNone then .ready else .done) jump))).heap[w.heap.size]? = some (.deferred (some [])) ∧
          Below w0.heap.size W (W3.putObj (w.heap.size + 1) (.loop (R (if jump.isNone then .ready else .done) jump))) := fun jump W3 kp => by
        have hl3 := (kp.same (w.heap.size + 1) (by omega) (by omega)).trans hl2
        have hk3 := (kp.same w.heap.size (Nat.le_refl _) (by omega)).trans hk2
        have hr := run_endRound (P := Try.prog) jump hl3
        have hzz := kp.size
        refine ⟨by rw [hR] at hr ⊢; exact hr, World.putObj_heap_same (by omega), (World.putObj_heap_other (by omega)).trans hk3, (hbb.trans kp.bel).trans (put_below _ (by omega) (by omega))⟩
      refine wpIn_mono (hbody (w.heap.size + 1) pre x W.heap.size W2 (by omega) hpx hwf hsz hi2 hx2 (hb.trans hbb)) ?_
      rintro e a3 W3 hp
      cases e with
      | normal =>
        obtain ⟨kp, hi3⟩ := hp
        obtain ⟨hr, q1, q2, q3⟩ := fin none W3 kp
        exact ⟨_, _, hr, .inl ⟨rfl, ⟨hIp _ _ _ hi3, hb.trans q3, q1, q2⟩, q3⟩⟩
      | ret =>
        obtain ⟨kp, hi3⟩ := hp
        obtain ⟨hr, q1, q2, q3⟩ := fin (some .ret) W3 kp
        exact ⟨_, _, hr, .inr ⟨rfl, hXp _ _ _ hi3, q1, q2⟩⟩
      | exit id => exact hp.elim
      | goto t => exact hp.elim
      | panic ch => exact hp.elim
      | outgrown => exact hp.elim
    · rintro e W2 ⟨⟨v, rfl⟩, (⟨⟨hi, hb, hl, hk⟩, hbe⟩ | ⟨pre, hpre, hx, hl, hk⟩)⟩
      · have hlt := (Array.getElem?_eq_some_iff.1 hl).1
        exact ⟨none, _, by have := run_endLoop (P := Try.prog) hl (by rw [hR]; simp); rw [hR] at this; exact this, hdone _ _ rfl (hIp _ _ _ hi) (hb.trans (put_below _ (by omega) hb.size)) ((World.putObj_heap_other (by omega)).trans hk)⟩
      · exact ⟨some .ret, _, by have := run_endLoop (P := Try.prog) hl (by rw [hR]; simp); rw [hR] at this; exact this, hstop _ pre _ (Nat.le_refl _) hpre (hXp _ _ _ hx) ((World.putObj_heap_other (by omega)).trans hk)⟩
end Go.Proofs.Ytljeahjcfbcbgaa
