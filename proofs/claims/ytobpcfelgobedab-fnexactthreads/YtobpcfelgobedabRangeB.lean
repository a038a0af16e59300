/- A range over the steps of blocks by a method value: the loop's law, over the iterator's contract. -/
import Derived.Test.YtobpcfelgobedabStepsIt
namespace Go.Proofs.Ytobpcfelgobedab
open Go.ChangeShapes Go.WideShapes Go.ChangeAt Go.RowKit Go.Shelf
/-- What a round keeps: all blocks from D on, and what lay below B. -/
structure Kept (D B : Nat) (W W' : World) : Prop where
  size : W.heap.size ≤ W'.heap.size
  same : ∀ k, D ≤ k → k < W.heap.size → W'.heap[k]? = W.heap[k]?
  bel : Below B W W'
/-- How a round may be left: it goes on, or it returns. -/
def roundLeft (D B : Nat) (I Ix : List Ins → World → Prop) (xs : List Ins) (W : World) : Exit → Act → World → Prop
  | .normal, _, W' => Kept D B W W' ∧ I xs W'
  | .ret, _, W' => Kept D B W W' ∧ Ix xs W'
  | _, _, _ => False
theorem box_keep {W W' : World} {b : Nat} {o : Obj} (h : W.heap[b]? = some o) (bel : Below W.heap.size W W') : W'.heap[b]? = some o := (bel.block b (Array.getElem?_eq_some_iff.1 h).1).trans h
theorem newB (w : World) (o : Obj) : (w.alloc o).heap[w.heap.size]? = some o := by show (w.heap.push o)[w.heap.size]? = _; exact Array.getElem?_push_size
theorem put_below {B : Nat} {W : World} {l : Nat} (o : Obj) (hB : B ≤ l) (hw : B ≤ W.heap.size) : Below B W (W.putObj l o) :=
  (Below.refl B W).grown (grownBy_putObj' W l o) hw (fun k e => by cases e; exact hB)
/-- The temporaries of a round: the step, and where its box lies. -/
def axOf (a : Act) (p sx : Nat) (x : Ins) (bx : Nat) : Act := { tmps := (a.tmps.setIfInBounds p (Value.agg (insCells x))).setIfInBounds sx (.pointer (some ⟨bx, 0, none⟩)), defers := [] }
set_option maxHeartbeats 4000000 in
theorem range_steps {F : Fence} {n : Nat} {g : Operand} {p : Nat} {assign body : Code} {Q : Exit → Act → World → Prop} {a : Act} {w : World}
    (hro : F.round = none) (h1 : 1 ≤ n) (h2 : 1 ≤ n - 1) (hF : F.fn 37)
    (w0 : World) (B : Nat) (bs : List Blk) (ua : Option Addr) (cap : Nat) (hs : SlIs BlkIs 5 w0 B ua bs) (hb0 : Below w0.heap.size w0 w)
    (hg : a.eval g = .func (.func 37) #[.slice ua bs.length cap] #[])
    (I Ix : List Ins → World → Prop)
    (hIa : ∀ pre W o, I pre W → I pre (W.alloc o)) (hIp : ∀ pre W o, I pre W → I pre (W.putObj (w.heap.size + 1) o)) (hXp : ∀ pre W o, Ix pre W → Ix pre (W.putObj (w.heap.size + 1) o)) (h0 : I [] w)
    (sx : Nat)
    (hassign : ∀ (l : Nat) (x : Ins) (W : World) (K : Act → World → Prop), K (axOf a p sx x W.heap.size) (W.alloc (.cells (insCells x) 62)) →
      assign.wpIn (F.inRound l) (n - 1 - 1) Try.prog (Exit.then K (fun _ _ _ => False)) { tmps := a.tmps.setIfInBounds p (Value.agg (insCells x)), defers := [] } W)
    (hbody : ∀ (l : Nat) (pre : List Ins) (x : Ins) (bx : Nat) (W : World), w.heap.size ≤ bx → x.wf → x.t.size ≤ maxLen → I pre W → W.heap[bx]? = some (.cells (insCells x) 62) → Below w0.heap.size w0 W →
      body.wpIn (F.inRound l) (n - 1 - 1) Try.prog (roundLeft w.heap.size w0.heap.size I Ix (pre ++ [x]) W) (axOf a p sx x bx) W)
    (hdone : ∀ (D : Nat) (W : World), w.heap.size ≤ D → I (codeAll bs) W → Below w0.heap.size w0 W → W.heap[D]? = some (.deferred (some [])) → Q .normal { a with defers := { target := .collected D, args := #[] } :: a.defers } W)
    (hstop : ∀ (D : Nat) (pre : List Ins) (W : World), w.heap.size ≤ D → pre <+: codeAll bs → Ix pre W → W.heap[D]? = some (.deferred (some [])) → Code.ret.wpIn F n Try.prog Q { a with defers := { target := .collected D, args := #[] } :: a.defers } W) :
    (Code.rangeFunc g #[p] assign body).wpIn F n Try.prog Q a w := by
  refine wpIn_rangeFunc ?_
  intro fn hfn
  rw [hro]
  have sz0 := hb0.size
  obtain ⟨R, hR⟩ : ∃ R : LoopState → Option Code → Loop, R = fun st pe => { state := st, pending := pe, fn, tmps := a.tmps, params := #[p], assign, body, defers := w.heap.size } := ⟨_, rfl⟩
  obtain ⟨W1, hW1⟩ : ∃ W1, (w.alloc (.deferred (some []))).alloc (.loop (R .ready none)) = W1 := ⟨_, rfl⟩
  have hz1 : W1.heap.size = w.heap.size + 2 := by rw [← hW1]; simp
  have hw1 := two (w := w) (o1 := .deferred (some [])) (o2 := .loop (R .ready none)) (w1 := W1) (by rw [hW1]; exact Below.refl _ _)
  have hb1 : Below w0.heap.size w0 W1 := hb0.trans (hw1.2.2.2.mono sz0)
  have hI1 : I [] W1 := by rw [← hW1]; exact hIa _ _ _ (hIa _ _ _ h0)
  refine ⟨w.heap.size + 1, [{ target := .collected w.heap.size, args := #[] }], W1, { target := .fn (.func 37) #[], args := #[.slice ua bs.length cap, .func (.yield (w.heap.size + 1)) #[] #[]] }, W1, 37, #[.slice ua bs.length cap, .func (.yield (w.heap.size + 1)) #[] #[]], W1, ?_, ?_, ?_, ?_, fun _ => h1, ?_⟩
  · rw [← hW1, hR]; exact run_enterLoop_outer _ _ _ _ _
  · simp only [resolve, hg]
    simp [go_sem]
  · intro f' hf'
    simp [Target.leads] at hf'
    subst hf'
    exact hF
  · have eg := enters_of (P := Try.prog) Try.func37 (by kernel_rfl) rfl
    simp [invoke, go_sem, eg _ _]
  · have hp1 : (R .ready none).params = #[p] := by rw [hR]
    refine (steps_in F (n - 1) hF hro h2 (w.heap.size + 1) w0 B bs ua cap hs
      (fun pre W => I pre W ∧ Below w0.heap.size w0 W ∧ W.heap[w.heap.size + 1]? = some (.loop (R .ready none)) ∧ W.heap[w.heap.size]? = some (.deferred (some [])))
      (fun pre W => Ix pre W ∧ W.heap[w.heap.size + 1]? = some (.loop (R .done (some .ret))) ∧ W.heap[w.heap.size]? = some (.deferred (some [])))
      ?alloc ?yield W1 hb1 ⟨hI1, hb1, hw1.2.1, hw1.1⟩).mono ?_
    case alloc =>
      rintro pre W o ⟨hi, hb, hl, hk⟩
      have al := (Below.refl W.heap.size W).alloc (Nat.le_refl _) o
      exact ⟨hIa _ _ _ hi, hb.alloc hb.size _, box_keep hl al, box_keep hk al⟩
    case yield =>
      rintro pre x W ⟨hi, hb, hl, hk⟩ hwf hsz
      have hy := run_yield (P := Try.prog) (args := #[Value.agg (insCells x)]) hl (by rw [hp1]; rfl)
      rw [hR] at hy
      have ez : (#[p].zip #[Value.agg (insCells x)]).foldl (fun t (q, v) => t.setIfInBounds q v) a.tmps = a.tmps.setIfInBounds p (Value.agg (insCells x)) := by simp
      simp only [ez] at hy
      refine ⟨fn, _, assign, body, hy, roundIn_of_wpIn hfn (hassign _ x W _ ?_)⟩
      clear hy
      have al := (Below.refl W.heap.size W).alloc (Nat.le_refl _) (.cells (insCells x) 62)
      have hl1 := box_keep hl al
      have hk1 := box_keep hk al
      have hlt : w.heap.size + 1 < W.heap.size := (Array.getElem?_eq_some_iff.1 hl).1
      have hsb := hb.size
      refine ⟨_, run_beginRound hl1 (by rw [hR]), ?_⟩
      obtain ⟨W2, hW2⟩ : ∃ W2, (W.alloc (.cells (insCells x) 62)).putObj (w.heap.size + 1) (.loop { R .ready none with state := .busy }) = W2 := ⟨_, rfl⟩
      have hl2 : W2.heap[w.heap.size + 1]? = some (.loop { R .ready none with state := .busy }) := by rw [← hW2]; exact World.putObj_heap_same (Array.getElem?_eq_some_iff.1 hl1).1
      have hk2 : W2.heap[w.heap.size]? = some (.deferred (some [])) := by rw [← hW2]; exact (World.putObj_heap_other (by omega)).trans hk1
      have hx2 : W2.heap[W.heap.size]? = some (.cells (insCells x) 62) := by rw [← hW2]; exact (World.putObj_heap_other (by omega)).trans (newB W _)
      have hi2 : I pre W2 := by rw [← hW2]; exact hIp _ _ _ (hIa _ _ _ hi)
      have hz2 : W2.heap.size = W.heap.size + 1 := by rw [← hW2]; simp
      have hbb : Below w0.heap.size W W2 := by rw [← hW2]; exact (al.mono hsb).trans (put_below _ (by omega) (by simp; omega))
      rw [hW2]
      have fin : ∀ (jump : Option Code) (W3 : World), Kept w.heap.size w0.heap.size W2 W3 →
          (Instr.endRound (w.heap.size + 1) jump).run Try.prog W3 = .ok (.bool jump.isNone) (W3.putObj (w.heap.size + 1) (.loop (R (if jump.isNone then .ready else .done) jump))) ∧
          (W3.putObj (w.heap.size + 1) (.loop (R (if jump.isNone then .ready else .done) jump))).heap[w.heap.size + 1]? = some (.loop (R (if jump.isNone then .ready else .done) jump)) ∧
          (W3.putObj (w.heap.size + 1) (.loop (R (if jump.isNone then .ready else .done) jump))).heap[w.heap.size]? = some (.deferred (some [])) ∧
          Below w0.heap.size W (W3.putObj (w.heap.size + 1) (.loop (R (if jump.isNone then .ready else .done) jump))) := fun jump W3 kp => by
        have hl3 := (kp.same (w.heap.size + 1) (by omega) (by omega)).trans hl2
        have hk3 := (kp.same w.heap.size (Nat.le_refl _) (by omega)).trans hk2
        have hr := run_endRound (P := Try.prog) jump hl3
        have hzz := kp.size
        refine ⟨by rw [hR] at hr ⊢; exact hr, World.putObj_heap_same (by omega), (World.putObj_heap_other (by omega)).trans hk3, (hbb.trans kp.bel).trans (put_below _ (by omega) (by omega))⟩
      refine wpIn_mono (hbody (w.heap.size + 1) pre x W.heap.size W2 (by omega) hwf hsz hi2 hx2 (hb.trans hbb)) ?_
      rintro e a3 W3 hp
      cases e with
      | normal =>
        obtain ⟨kp, hi3⟩ := hp
        obtain ⟨hr, q1, q2, q3⟩ := fin none W3 kp
        exact ⟨_, _, hr, .inl ⟨rfl, ⟨hIp _ _ _ hi3, hb.trans q3, q1, q2⟩, q3⟩⟩
      | ret =>
        obtain ⟨kp, hi3⟩ := hp
        obtain ⟨hr, q1, q2, q3⟩ := fin (some .ret) W3 kp
        exact ⟨_, _, hr, .inr ⟨rfl, hXp _ _ _ hi3, q1, q2⟩⟩
      | exit id => exact hp.elim
      | goto t => exact hp.elim
      | panic ch => exact hp.elim
      | outgrown => exact hp.elim
    · rintro e W2 ⟨⟨v, rfl⟩, (⟨⟨hi, hb, hl, hk⟩, hbe⟩ | ⟨pre, hpre, hx, hl, hk⟩)⟩
      · have hlt := (Array.getElem?_eq_some_iff.1 hl).1
        exact ⟨none, _, by have := run_endLoop (P := Try.prog) hl (by rw [hR]; simp); rw [hR] at this; exact this, hdone _ _ (Nat.le_refl _) (hIp _ _ _ hi) (hb.trans (put_below _ (by omega) hb.size)) ((World.putObj_heap_other (by omega)).trans hk)⟩
      · exact ⟨some .ret, _, by have := run_endLoop (P := Try.prog) hl (by rw [hR]; simp); rw [hR] at this; exact this, hstop _ pre _ (Nat.le_refl _) hpre (hXp _ _ _ hx) ((World.putObj_heap_other (by omega)).trans hk)⟩
end Go.Proofs.Ytobpcfelgobedab
