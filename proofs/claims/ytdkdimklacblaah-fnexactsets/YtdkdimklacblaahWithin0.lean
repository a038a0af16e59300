/- What holds at each round of impl.partsWithin; what its map's operations do, for the walk. -/
import Derived.Test.YtdkdimklacblaahInner
namespace Go.Proofs.Ytdkdimklacblaah
open Go.ChangeShapes Go.WideShapes Go.ChangeAt Go.RowKit

section
variable {ops : Array Oper} {o : Oper} {a : Act} {Q : Exit → Act → World → Prop} {rest : List Oper}
theorem list_look (w : World) (hg : o.guard = none) (m x : Operand) (t : TypeId) (hop : o.op = Op.lookup t m x true) (mv key r : Value) (hm : a.eval m = mv) (hx : a.eval x = key) (hrun : (Instr.lookup t mv key true).run Try.prog w = .ok r w)
    (h : wpList Try.prog ops Q rest (a.put o.dst r) w) : wpList Try.prog ops Q (o :: rest) a w := by
  refine wpList_plain hg fun K' hK' => ?_
  unfold Oper.wp
  simp [execOp, hop, hm, hx, hrun, Result.andThen]
  exact hK' _ _ h
theorem list_upd (w w' : World) (hg : o.guard = none) (m x v : Operand) (t : TypeId) (hop : o.op = Op.mapUpdate t m x v) (mv key val : Value) (hm : a.eval m = mv) (hx : a.eval x = key) (hv : a.eval v = val) (hrun : (Instr.mapUpdate t mv key val).run Try.prog w = .ok () w')
    (h : wpList Try.prog ops Q rest a w') (hd : o.dst = none) : wpList Try.prog ops Q (o :: rest) a w := by
  refine wpList_plain hg fun K' hK' => ?_
  unfold Oper.wp
  simp [execOp, hop, hm, hx, hv, hrun, Result.andThen]
  simp [Oper.upon, hd, Act.put]
  exact hK' _ _ h
theorem list_del (w w' : World) (hg : o.guard = none) (m x : Operand) (t k : TypeId) (hop : o.op = Op.call { callee := Callee.builtin Builtin.delete, args := #[m, x], argTypes := #[t, k] }) (mv key : Value) (hm : a.eval m = mv) (hx : a.eval x = key) (hrun : ∀ ty, (Builtin.delete_ #[t, k] ty #[mv, key]).run Try.prog w = .ok (.tuple #[]) w')
    (h : wpList Try.prog ops Q rest (a.put o.dst (.tuple #[])) w') : wpList Try.prog ops Q (o :: rest) a w := by
  refine wpList_plain hg fun K' hK' => ?_
  unfold Oper.wp
  simp [execOp, hop, resolve, invoke, builtin, hm, hx, hrun, Result.andThen]
  exact hK' _ _ h
end

/-- What is known of a part and of what stands in it, in w and in each world that is w below B. -/
def NodeOk (w : World) (B : Nat) (inn : Pt → List Pt) (x : Nd) : Prop :=
  PtPlain w x.pt ∧ x.kids.map Nd.pt = inn x.pt ∧ x.pt.block < B ∧
  ∀ W, Below B w W → Calls Try.prog 50 #[x.pt.val] W fun e W' => ∃ v, e = .returned v ∧ OwnPts W' W.heap.size v (x.kids.map Nd.pt) ∧ Below W.heap.size W W'

structure Own3 (w : World) (B M gv : Nat) (wr : World) (al wk : Value) (ll lk : List Pt) (mp : Obj) : Prop where
  hwk : OwnPts wr B wk lk
  hal : OwnPts wr B al ll
  map : wr.heap[M]? = some mp
  bel : Below B w wr
  low : B ≤ M
  s1 : al.ownBlock ≠ wk.ownBlock
  s2 : al.ownBlock ≠ some M
  s3 : wk.ownBlock ≠ some M
  but : But gv w wr
  lw : ∀ b, wk.ownBlock = some b → b = gv ∨ w.heap.size ≤ b
  la : ∀ b, al.ownBlock = some b → w.heap.size ≤ b
  hM : w.heap.size ≤ M
structure Pinv (w : World) (B M gv : Nat) (inn : Pt → List Pt) (roots : List Nd) (wr : World) (al wk : Value) (S : Stk) (done : List Pt) (es : Array MapEntry) (clock : Nat) : Prop where
  own : Own3 w B M gv wr al wk done (wkS S) (.map es clock)
  good : GoodS (NodeOk w B inn) S
  out : done ++ outS S = ndsVisit roots
  ent : EntIs es.toList (opS S)

theorem But.grown {b : Nat} {w w1 w2 : World} {row : Option Nat} (h : But b w w1) (g : w1.grownBy w2 row) (hr : ∀ k, row = some k → k = b ∨ w.heap.size ≤ k) : But b w w2 :=
  ⟨g.os.trans h.os, g.tape.trans h.tape, g.output.trans h.output, Nat.le_trans h.size g.size, fun k hk hne => (g.block k (Nat.lt_of_lt_of_le hk h.size) (fun e => by
    rcases hr k e.symm with e1 | e1
    · exact hne e1
    · omega)).trans (h.block k hk hne)⟩
theorem plain_of {w wr : World} {B : Nat} {inn : Pt → List Pt} {x : Nd} (h : NodeOk w B inn x) (bel : Below B w wr) : PtPlain wr x.pt := by
  obtain ⟨⟨cs, T, hp⟩, _, hb, _⟩ := h
  exact ⟨cs, T, (bel.block _ hb).trans hp⟩
theorem opS_plain {w wr : World} {B : Nat} {inn : Pt → List Pt} {S : Stk} (h : GoodS (NodeOk w B inn) S) (bel : Below B w wr) : AllPlain wr (opS S) := by
  intro p hp
  obtain ⟨y, hy, e⟩ := opS_mem S p hp
  rw [e]
  exact plain_of (good_mem S h true y hy).here bel
theorem OwnPts.kept {w w' : World} {B : Nat} {v : Value} {l : List Pt} {row : Option Nat} (h : OwnPts w B v l) (hg : w.grownBy w' row) (hne : v.ownBlock ≠ row) : OwnPts w' B v l := by
  obtain ⟨g, cap, hv, hl, h0 | ⟨g', cap', cur, hv', hB', hh, hr⟩⟩ := h
  · exact ⟨g, cap, hv, hl, Or.inl h0⟩
  · refine ⟨g, cap, hv, hl, Or.inr ⟨g', cap', cur, hv', hB', (hg.block g' (Array.getElem?_eq_some_iff.1 hh).1 ?_).trans hh, hr⟩⟩
    intro e; apply hne; rw [← e, hv']; rfl
theorem grown_of_below {w w' : World} (bel : Below w.heap.size w w') : w.grownBy w' none := ⟨bel.os, bel.tape, bel.output, bel.size, fun k hk _ => bel.block k hk⟩
theorem grown_set {w : World} {M : Nat} (o : Obj) : w.grownBy (ChangeMaps.setBlock w M o) (some M) :=
  ⟨rfl, rfl, rfl, by simp [ChangeMaps.setBlock], fun k hk hne => by
    have : M ≠ k := fun e => hne (by rw [e])
    simp [ChangeMaps.setBlock, this]⟩
theorem set_at {w : World} {M : Nat} (o : Obj) (h : M < w.heap.size) : (ChangeMaps.setBlock w M o).heap[M]? = some o := by simp [ChangeMaps.setBlock, h]
/-- One less. -/
theorem OwnPts.pop {w : World} {B g cap : Nat} {l : List Pt} {p : Pt} (h : OwnPts w B (.slice (some ⟨g, 0, none⟩) (l ++ [p]).length cap) (l ++ [p])) : OwnPts w B (.slice (some ⟨g, 0, none⟩) l.length cap) l := by
  obtain ⟨g0, cap0, hv0, hl, ⟨h0, _⟩ | ⟨g', cap', cur, hv', hB, hh, hc, hm, hs, ht⟩⟩ := h
  · cases h0
  · cases hv'
    refine ⟨g, cap, rfl, ptsCells_len l, Or.inr ⟨g, cap, cur, rfl, hB, hh, by simp at hc; omega, hm, hs, ?_⟩⟩
    have h1 := congrArg (List.take (l.length * 2)) ht
    rw [List.take_take, ptsCells_append] at h1
    rw [show min (l.length * 2) ((l ++ [p]).length * 2) = l.length * 2 by rw [List.length_append]; omega] at h1
    rw [h1, List.take_append_of_le_length (by rw [ptsCells_len]; exact Nat.le_refl _)]
    exact List.take_of_length_le (by rw [ptsCells_len]; exact Nat.le_refl _)
theorem OwnPts.some {w : World} {B : Nat} {v : Value} {l : List Pt} (h : OwnPts w B v l) : ∃ g, v.ownBlock = some g := by
  obtain ⟨g, c, hv, _⟩ := h
  exact ⟨g, by rw [hv]; rfl⟩
section
variable {w wr w' : World} {B M gv : Nat} {al al' wk wk' : Value} {la la' lw lw' : List Pt} {mp : Obj}
theorem Own3.Mlt (h : Own3 w B M gv wr al wk la lw mp) : M < wr.heap.size := (Array.getElem?_eq_some_iff.1 h.map).1
theorem Own3.Ble (h : Own3 w B M gv wr al wk la lw mp) : B ≤ wr.heap.size := Nat.le_trans h.low (Nat.le_of_lt h.Mlt)
theorem Own3.call (h : Own3 w B M gv wr al wk la lw mp) (b : Below wr.heap.size wr w') : Own3 w B M gv w' al wk la lw mp :=
  ⟨h.hwk.stays b, h.hal.stays b, (b.block M h.Mlt).trans h.map, h.bel.trans (b.mono h.Ble), h.low, h.s1, h.s2, h.s3, h.but.on b, h.lw, h.la, h.hM⟩
theorem Own3.alloc (h : Own3 w B M gv wr al wk la lw mp) (o : Obj) : Own3 w B M gv (wr.alloc o) al wk la lw mp := h.call ((Below.refl _ _).alloc (Nat.le_refl _) o)
theorem Own3.setmap (h : Own3 w B M gv wr al wk la lw mp) (mp' : Obj) : Own3 w B M gv (ChangeMaps.setBlock wr M mp') al wk la lw mp' :=
  ⟨h.hwk.kept (grown_set mp') h.s3, h.hal.kept (grown_set mp') h.s2, set_at mp' h.Mlt, h.bel.grown (grown_set mp') h.Ble (fun b hb => by cases hb; exact h.low), h.low, h.s1, h.s2, h.s3, h.but.grown (grown_set mp') (fun k hk => by cases hk; exact Or.inr h.hM), h.lw, h.la, h.hM⟩
theorem Own3.appAll (h : Own3 w B M gv wr al wk la lw mp) (ho : OwnPts w' B al' la') (hg : wr.grownBy w' al.ownBlock) (hl : al'.ownBlock = al.ownBlock ∨ al'.ownBlock = some wr.heap.size) : Own3 w B M gv w' al' wk la' lw mp := by
  have hM := h.Mlt
  refine ⟨h.hwk.kept hg h.s1.symm, ho, (hg.block M hM h.s2.symm).trans h.map, h.bel.grown hg h.Ble h.hal.low, h.low, ?_, ?_, h.s3, h.but.grown hg (fun k hk => Or.inr (h.la k hk)), h.lw, fun b hb => ?_, h.hM⟩
  · rcases hl with e | e
    · rw [e]; exact h.s1
    · rw [e]; intro e'; have := h.hwk.lt _ e'.symm; omega
  · rcases hl with e | e
    · rw [e]; exact h.s2
    · rw [e]; intro e'; cases e'; omega
  · rcases hl with e | e
    · rw [e] at hb; exact h.la b hb
    · rw [e] at hb; cases hb; exact h.but.size
theorem Own3.appWk (h : Own3 w B M gv wr al wk la lw mp) (ho : OwnPts w' B wk' lw') (hg : wr.grownBy w' wk.ownBlock) (hl : wk'.ownBlock = wk.ownBlock ∨ wk'.ownBlock = some wr.heap.size) : Own3 w B M gv w' al wk' la lw' mp := by
  have hM := h.Mlt
  refine ⟨ho, h.hal.kept hg h.s1, (hg.block M hM h.s3.symm).trans h.map, h.bel.grown hg h.Ble h.hwk.low, h.low, ?_, h.s2, ?_, h.but.grown hg h.lw, fun b hb => ?_, h.la, h.hM⟩
  · rcases hl with e | e
    · rw [e]; exact h.s1
    · rw [e]; intro e'; have := h.hal.lt _ e'; omega
  · rcases hl with e | e
    · rw [e]; exact h.s3
    · rw [e]; intro e'; cases e'; omega
  · rcases hl with e | e
    · rw [e] at hb; exact h.lw b hb
    · rw [e] at hb; cases hb; exact Or.inr h.but.size
end
/-- A part on top that is open is taken off. -/
theorem Pinv.close {w wr w2 : World} {B M gv g cap clock c' : Nat} {inn : Pt → List Pt} {roots : List Nd} {al : Value} {x : Nd} {S : Stk} {done : List Pt} {es es' : Array MapEntry}
    (h : Pinv w B M gv inn roots wr al (.slice (some ⟨g, 0, none⟩) (wkS ((true, x) :: S)).length cap) ((true, x) :: S) done es clock) (he : EntIs es'.toList (opS S))
    (ho : Own3 w B M gv w2 al (.slice (some ⟨g, 0, none⟩) (wkS ((true, x) :: S)).length cap) done (wkS ((true, x) :: S)) (.map es' c')) :
    Pinv w B M gv inn roots w2 al (.slice (some ⟨g, 0, none⟩) S.length cap) S done es' c' := by
  have hwk : OwnPts w2 B (.slice (some ⟨g, 0, none⟩) S.length cap) (wkS S) := by
    have := ho.hwk
    simp only [wkS] at this
    have := this.pop
    rw [wkS_len] at this
    exact this
  exact ⟨⟨hwk, ho.hal, ho.map, ho.bel, ho.low, ho.s1, ho.s2, ho.s3, ho.but, ho.lw, ho.la, ho.hM⟩, h.good.2.2, by simpa [outS] using h.out, he⟩
/-- A part on top that is not open is opened: what stands in it is put on. -/
theorem Pinv.enter {w wr w5 : World} {B M gv clock c' : Nat} {inn : Pt → List Pt} {roots : List Nd} {al wk al' wk' : Value} {x : Nd} {S : Stk} {done : List Pt} {es es' : Array MapEntry}
    (h : Pinv w B M gv inn roots wr al wk ((false, x) :: S) done es clock) (he : EntIs es'.toList (opS S ++ [(x.pt, S.length)]))
    (ho : Own3 w B M gv w5 al' wk' (done ++ [x.pt]) (wkS ((false, x) :: S) ++ x.kids.map Nd.pt) (.map es' c')) :
    Pinv w B M gv inn roots w5 al' wk' (pushS x.kids ((true, x) :: S)) (done ++ [x.pt]) es' c' := by
  obtain ⟨p, kids⟩ := x
  have hg := h.good
  refine ⟨?_, good_push kids _ ⟨hg.1, hg.2.1, hg.2.2⟩ fun z hz => ⟨hg.1.kid hz, fun y hy => ?_⟩, ?_, ?_⟩
  · rw [wkS_push]; exact ho
  · have hz' : z.sz < (Nd.mk p kids).sz := by have := ndsSz_mem hz; simp [Nd.sz]; omega
    rcases List.mem_cons.1 hy with e | hy
    · cases e; exact hz'
    · exact Nat.lt_trans hz' (hg.2.1 y hy)
  · rw [outS_push]
    have := h.out
    simp only [outS, Nd.visit] at this
    simpa [outS, Nd.kids, Nd.pt] using this
  · rw [opS_push]; exact he
theorem muS_enter (x : Nd) (S : Stk) : muS (pushS x.kids ((true, x) :: S)) < muS ((false, x) :: S) := by
  obtain ⟨p, kids⟩ := x
  rw [muS_push]
  simp [muS, Nd.kids, Nd.sz]; omega
theorem len_mu : ∀ S : Stk, S.length ≤ muS S
  | [] => Nat.le_refl _
  | (true, _) :: S => by have := len_mu S; simp [muS]; omega
  | (false, x) :: S => by have := len_mu S; have := sz_pos x; simp [muS]; omega
end Go.Proofs.Ytdkdimklacblaah
