/- What spec.l04Copy has made after so many blocks. -/
import Derived.Test.YtljeahjcfbcbgaaAppR2
import Derived.Test.YtljeahjcfbcbgaaWithB
namespace Go.Proofs.Ytljeahjcfbcbgaa
open Go.ChangeShapes Go.WideShapes Go.ChangeAt Go.RowKit
/-- A row that lies apart from another. -/
def RowX (w : World) (lo : Nat) (T : TypeId) (sz : Nat) (v : Value) (n : Nat) (vs : Nat → Array Value) (row : Option Nat) : Prop := RowOf w lo T sz v n vs ∧ (n = 0 ∨ v.ownBlock ≠ row)
section
variable {w w' : World} {lo : Nat} {T : TypeId} {sz : Nat} {v : Value} {n : Nat} {vs : Nat → Array Value} {row row' : Option Nat}
theorem RowX.stays (h : RowX w lo T sz v n vs row) (bel : Below w.heap.size w w') : RowX w' lo T sz v n vs row := ⟨h.1.stays bel, h.2⟩
theorem RowX.grown (h : RowX w lo T sz v n vs row) (hg : w.grownBy w' row) (hr : row' = row ∨ row' = some w.heap.size) : RowX w' lo T sz v n vs row' := by
  obtain ⟨⟨a, c, rfl, h0 | ⟨g, cur, rfl, hB, hh, hs⟩⟩, hx⟩ := h
  · exact ⟨⟨a, c, rfl, Or.inl h0⟩, Or.inl h0⟩
  · have hl := hltH hh
    rcases hx with hx | hx
    · exact ⟨⟨_, c, rfl, Or.inl hx⟩, Or.inl hx⟩
    · have hx' : some g ≠ row := hx
      refine ⟨⟨_, c, rfl, Or.inr ⟨g, cur, rfl, hB, (hg.block g hl hx').trans hh, hs⟩⟩, Or.inr ?_⟩
      show some g ≠ row'
      rcases hr with e | e
      · rw [e]; exact hx'
      · rw [e]; intro e2; injection e2 with e2; omega
theorem RowX.set (h : RowX w lo T sz v n vs row) {b i : Nat} (hb : b < lo) (u : Value) : RowX (w.setCell ⟨b, i, none⟩ u) lo T sz v n vs row := by
  obtain ⟨⟨a, c, rfl, h0 | ⟨g, cur, rfl, hB, hh, hs⟩⟩, hx⟩ := h
  · exact ⟨⟨a, c, rfl, Or.inl h0⟩, hx⟩
  · exact ⟨⟨_, c, rfl, Or.inr ⟨g, cur, rfl, hB, (Below.heap_setCell w ⟨b, i, none⟩ u g (by simp only; omega)).trans hh, hs⟩⟩, hx⟩
end
def codeX (wr : World) (lo : Nat) (x : BRow) (row : Option Nat) : Prop := RowX wr lo 67 7 (.slice x.1 (x.2.2).code.length x.2.1) (x.2.2).code.length (fun k => insA ((x.2.2).code[k]!)) row
structure CP (w : World) (bx : Array Value) (sizes : List Int) (p q r : Int) (blocks : List Blk) (sa : Option Addr) (kS : Nat) (qv : Value) (rows : List BRow) (wr : World) : Prop where
  box : wr.heap[w.heap.size]? = some (.cells bx 29 (0, 0))
  res : wr.heap[w.heap.size + 1]? = some (.cells #[.slice none 0 0, .int .i64 0, .int .i64 0, .int .i64 0, .slice none 0 0] 29 (0, 0))
  gp : wr.heap[w.heap.size + 2]? = some (.cells #[.slice sa sizes.length kS, .int .i64 p, .int .i64 q, .int .i64 r, qv] 29 (0, 0))
  bel : Below w.heap.size w wr
  big : w.heap.size + 3 ≤ wr.heap.size
  szs : RowX wr (w.heap.size + 3) 3 1 (.slice sa sizes.length kS) sizes.length (fun i => #[.int .i64 (sizes[i]!)]) qv.ownBlock
  own : OwnE BlE wr (w.heap.size + 3) qv rows
  few : rows.length ≤ blocks.length
  code : ∀ i (h : i < rows.length), rows[i].2.2 = blocks[i]! ∧ codeX wr (w.heap.size + 3) rows[i] qv.ownBlock
section
variable {w wr wr' w7 : World} {bx : Array Value} {sizes : List Int} {p q r : Int} {blocks : List Blk} {sa : Option Addr} {kS : Nat} {qv v7 : Value} {rows : List BRow}
theorem CP.stays (h : CP w bx sizes p q r blocks sa kS qv rows wr) (bel : Below wr.heap.size wr wr') : CP w bx sizes p q r blocks sa kS qv rows wr' :=
  ⟨(bel.block _ (hltH h.box)).trans h.box, (bel.block _ (hltH h.res)).trans h.res, (bel.block _ (hltH h.gp)).trans h.gp, below_trans h.bel bel, Nat.le_trans h.big bel.size, h.szs.stays bel, h.own.stays bel, h.few, fun i hi => ⟨(h.code i hi).1, (h.code i hi).2.stays bel⟩⟩
/-- One more block is told. -/
theorem CP.next (h : CP w bx sizes p q r blocks sa kS qv rows wr) (bel : Below wr.heap.size wr wr') (hlt : rows.length < blocks.length) {x : BRow} (hx : x.2.2 = blocks[rows.length]!) (hc : RowOf wr' wr.heap.size 67 7 (.slice x.1 (x.2.2).code.length x.2.1) (x.2.2).code.length (fun k => insA ((x.2.2).code[k]!)))
    (ho : OwnE BlE w7 (w.heap.size + 3) v7 (rows ++ [x])) (hg : wr'.grownBy w7 qv.ownBlock) (hr : v7.ownBlock = qv.ownBlock ∨ v7.ownBlock = some wr'.heap.size) :
    CP w bx sizes p q r blocks sa kS v7 (rows ++ [x]) (w7.setCell ⟨w.heap.size + 2, 4, none⟩ v7) := by
  have h' := h.stays bel
  have hbig := h.big
  have hbig' := h'.big
  have hlow := h'.own.low
  have hlow0 := h.own.low
  have hk : ∀ k, k < w.heap.size + 3 → w7.heap[k]? = wr'.heap[k]? := fun k hk => hg.block k (by omega) (fun e => by have := hlow k e.symm; omega)
  have hs : ∀ k, k ≠ w.heap.size + 2 → (w7.setCell ⟨w.heap.size + 2, 4, none⟩ v7).heap[k]? = w7.heap[k]? := fun k hk => Below.heap_setCell w7 ⟨w.heap.size + 2, 4, none⟩ _ k hk
  have hcx : codeX wr' (w.heap.size + 3) x qv.ownBlock := by
    obtain ⟨a, c, hv, h0 | ⟨g, cur, ha, hB, hr⟩⟩ := hc
    · exact ⟨⟨a, c, hv, Or.inl h0⟩, Or.inl h0⟩
    · refine ⟨⟨a, c, hv, Or.inr ⟨g, cur, ha, by omega, hr⟩⟩, Or.inr ?_⟩
      rw [hv, ha]
      intro e
      have e' : qv.ownBlock = some g := e.symm
      have := hlow0 g e'
      omega
  exact {
    box := (hs _ (by omega)).trans ((hk _ (by omega)).trans h'.box)
    res := (hs _ (by omega)).trans ((hk _ (by omega)).trans h'.res)
    gp := heap_setCell_same w7 _ 4 _ _ v7 ((hk _ (by omega)).trans h'.gp)
    bel := (h'.bel.grown hg (by omega) (fun k e => by have := hlow k e; omega)).setCell (p := ⟨w.heap.size + 2, 4, none⟩) (by simp only; omega) _
    big := by rw [size_set]; exact Nat.le_trans hbig' hg.size
    szs := (h'.szs.grown hg hr).set (by omega) _
    own := ho.blk (fun k hk hkl => hs k (by have := ho.low k hk; omega))
    few := by simp; omega
    code := fun i hi => by
      by_cases hl : i < rows.length
      · rw [List.getElem_append_left hl]
        exact ⟨(h.code i hl).1, ((h'.code i hl).2.grown hg hr).set (by omega) _⟩
      · obtain rfl : i = rows.length := by simp at hi; omega
        rw [List.getElem_append_right (by omega)]
        simp only [Nat.sub_self, List.getElem_cons_zero]
        exact ⟨hx, (RowX.grown hcx hg hr).set (by omega) _⟩ }
/-- What is made is the graph. -/
theorem CP.is {B g cq : Nat} {ub : Option Addr} (h : CP w bx sizes p q r blocks sa kS (.slice (some ⟨g, 0, none⟩) rows.length cq) rows wr) (he : rows.length = blocks.length) (hwf : (⟨sizes, p, q, r, blocks⟩ : Gr).wf) (hl1 : sizes.length ≤ maxLen) (hb : SlIs BlkIs 5 w B ub blocks) :
    GrIs wr (w.heap.size + 3) #[.slice sa sizes.length kS, .int .i64 p, .int .i64 q, .int .i64 r, .slice (some ⟨g, 0, none⟩) blocks.length cq] ⟨sizes, p, q, r, blocks⟩ := by
  obtain ⟨hl2, vs, _, hx⟩ := hb
  refine ⟨sa, kS, _, cq, rfl, hwf, ⟨hl1, ?_⟩, ⟨hl2, ?_⟩⟩
  · obtain ⟨⟨a, c, hv, h0 | ⟨gs, cur, ha, hB, hh, hs, hc⟩⟩, _⟩ := h.szs
    · exact Or.inl h0
    · injection hv with e1
      rw [e1]
      refine Or.inr ⟨gs, 0, ha, hB, hltH hh, fun _ => ⟨cur, _, hh⟩, fun i hi => ?_⟩
      simp only at hi
      have := hc i hi 0 (by omega)
      simp only [getElem!_pos sizes i hi, Nat.mul_one, Nat.add_zero] at this
      simp only [World.cell?, hh, Nat.zero_add]; exact this
  · obtain ⟨g', cap, cur, hv, hB, hh, _, _, _, hc⟩ := h.own.parts BlE_ok
    injection hv with e1
    injection e1 with e1
    injection e1 with e1
    subst e1
    refine ⟨fun i => (BlE.cs (rows[i]!)).toArray, Or.inr ⟨g, 0, rfl, hB, hltH hh, fun _ => ⟨cur, _, hh⟩, fun i hi => ⟨rfl, fun j hj => ?_⟩⟩, fun i hi => ?_⟩
    · simp only at hi
      have := hc i (by omega) j hj
      simp only [World.cell?, hh, Nat.zero_add, getElem!_pos rows i (show i < rows.length by omega)]
      rw [show BlE.sz = 5 from rfl] at this
      simpa using this
    · simp only at hi
      have hi' : i < rows.length := by omega
      obtain ⟨h1, h2, _⟩ := h.code i hi'
      obtain ⟨uc, cc, _, hw, hm, v2, _, hi2⟩ := hx i hi
      rw [getElem!_pos blocks i hi] at h1
      simp only [getElem!_pos rows i hi']
      rw [← h1] at hw hm ⊢
      have hi3 : ∀ k (hk : k < (rows[i].2.2).code.length), ((rows[i].2.2).code[k]).wf ∧ ((rows[i].2.2).code[k]).t.size ≤ maxLen := fun k hk => by
        have hk' : k < (blocks[i]).code.length := by rw [← h1]; exact hk
        have := (hi2 k hk').2
        simp only [h1]
        exact this
      refine ⟨rows[i].1, rows[i].2.1, rfl, hw, hm, fun k => insA ((rows[i].2.2).code[k]!), ?_, fun k hk => ?_⟩
      · obtain ⟨a, c, hv, h0 | ⟨gc, cu, ha, hB, hh, hs, hcc⟩⟩ := h2
        · exact Or.inl h0
        · injection hv with e1
          rw [e1]
          refine Or.inr ⟨gc, 0, ha, hB, hltH hh, fun _ => ⟨cu, _, hh⟩, fun k hk => ⟨rfl, fun j hj => ?_⟩⟩
          have := hcc k hk j hj
          simp only [World.cell?, hh, Nat.zero_add]; exact this
      · simp only [getElem!_pos (rows[i].2.2).code k hk]
        exact ⟨rfl, hi3 k hk⟩
end
end Go.Proofs.Ytljeahjcfbcbgaa
