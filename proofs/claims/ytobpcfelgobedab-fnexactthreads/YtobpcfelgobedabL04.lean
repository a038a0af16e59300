/- What spec.l04Copy has made after so many blocks. -/
import Derived.Test.YtobpcfelgobedabRowC
import Derived.Test.YtobpcfelgobedabMadG
import Derived.Test.YtobpcfelgobedabPlR
import Derived.Deep.LoopGhost
namespace Go.Proofs.Ytobpcfelgobedab
open Go.ChangeShapes Go.WideShapes Go.ChangeAt Go.RowKit
/-- A row that lies apart from another. -/
def RowX (w : World) (lo : Nat) (T : TypeId) (sz : Nat) (v : Value) (n : Nat) (vs : Nat → Array Value) (row : Option Nat) : Prop := RowOf w lo T sz v n vs ∧ (n = 0 ∨ v.ownBlock ≠ row)
section
variable {w w' : World} {lo : Nat} {T : TypeId} {sz : Nat} {v : Value} {n : Nat} {vs : Nat → Array Value} {row row' : Option Nat}
theorem RowX.stays (h : RowX w lo T sz v n vs row) (bel : Below w.heap.size w w') : RowX w' lo T sz v n vs row := ⟨h.1.stays bel, h.2⟩
theorem RowX.grown (h : RowX w lo T sz v n vs row) (hg : w.grownBy w' row) (hr : row' = row ∨ row' = some w.heap.size) : RowX w' lo T sz v n vs row' := by
  obtain ⟨⟨a, c, rfl, h0 | ⟨g, cur, rfl, hB, hh, hs⟩⟩, hx⟩ := h
  · exact ⟨⟨a, c, rfl, Or.inl h0⟩, Or.inl h0⟩
  · have hl := hltH hh
    rcases hx with hx | hx
    · exact ⟨⟨_, c, rfl, Or.inl hx⟩, Or.inl hx⟩
    · have hx' : some g ≠ row := hx
      refine ⟨⟨_, c, rfl, Or.inr ⟨g, cur, rfl, hB, (hg.block g hl hx').trans hh, hs⟩⟩, Or.inr ?_⟩
      show some g ≠ row'
      rcases hr with e | e
      · rw [e]; exact hx'
      · rw [e]; intro e2; injection e2 with e2; omega
theorem RowX.set (h : RowX w lo T sz v n vs row) {b i : Nat} (hb : b < lo) (u : Value) : RowX (w.setCell ⟨b, i, none⟩ u) lo T sz v n vs row := by
  obtain ⟨⟨a, c, rfl, h0 | ⟨g, cur, rfl, hB, hh, hs⟩⟩, hx⟩ := h
  · exact ⟨⟨a, c, rfl, Or.inl h0⟩, hx⟩
  · exact ⟨⟨_, c, rfl, Or.inr ⟨g, cur, rfl, hB, (Below.heap_setCell w ⟨b, i, none⟩ u g (by simp only; omega)).trans hh, hs⟩⟩, hx⟩
end
def codeX (wr : World) (lo : Nat) (x : BRow) (row : Option Nat) : Prop := RowX wr lo 62 7 (.slice x.1 (x.2.2).code.length x.2.1) (x.2.2).code.length (fun k => insA ((x.2.2).code[k]!)) row
/-- The codes lie each in a block of its own, apart from the sizes'. -/
structure RDis (sa : Option Addr) (ns : Nat) (rows : List BRow) : Prop where
  two : ∀ i k (hi : i < rows.length) (hk : k < rows.length), i ≠ k → 0 < (rows[i].2.2).code.length → 0 < (rows[k].2.2).code.length → ∀ b o b' o', rows[i].1 = some ⟨b, o, none⟩ → rows[k].1 = some ⟨b', o', none⟩ → b ≠ b'
  szs : ∀ i (hi : i < rows.length), 0 < ns → 0 < (rows[i].2.2).code.length → ∀ b o b' o', sa = some ⟨b, o, none⟩ → rows[i].1 = some ⟨b', o', none⟩ → b ≠ b'
theorem RDis.nil (sa : Option Addr) (ns : Nat) : RDis sa ns [] := ⟨fun _ _ hi => absurd hi (Nat.not_lt_zero _), fun _ hi => absurd hi (Nat.not_lt_zero _)⟩
theorem RDis.snoc {sa : Option Addr} {ns : Nat} {rows : List BRow} {x : BRow} (h : RDis sa ns rows) {m : Nat} (hx : 0 < (x.2.2).code.length → ∀ b o, x.1 = some ⟨b, o, none⟩ → m ≤ b) (ho : ∀ i (hi : i < rows.length), 0 < (rows[i].2.2).code.length → ∀ b o, rows[i].1 = some ⟨b, o, none⟩ → b < m) (hs : 0 < ns → ∀ b o, sa = some ⟨b, o, none⟩ → b < m) : RDis sa ns (rows ++ [x]) := by
  have cs : ∀ i (hi : i < (rows ++ [x]).length), (∃ hl : i < rows.length, (rows ++ [x])[i] = rows[i]) ∨ (i = rows.length ∧ (rows ++ [x])[i] = x) := fun i hi => by
    by_cases hl : i < rows.length
    · exact Or.inl ⟨hl, List.getElem_append_left hl⟩
    · refine Or.inr ⟨by simp at hi; omega, ?_⟩
      rw [List.getElem_append_right (by omega)]
      simp
  refine ⟨fun i k hi hk hne h1 h2 b o b' o' e1 e2 => ?_, fun i hi hn h1 b o b' o' e1 e2 => ?_⟩
  · rcases cs i hi with ⟨li, ei⟩ | ⟨li, ei⟩ <;> rcases cs k hk with ⟨lk, ek⟩ | ⟨lk, ek⟩ <;> rw [ei] at h1 e1 <;> rw [ek] at h2 e2
    · exact h.two i k li lk hne h1 h2 b o b' o' e1 e2
    · have := ho i li h1 b o e1
      have := hx h2 b' o' e2
      omega
    · have := ho k lk h2 b' o' e2
      have := hx h1 b o e1
      omega
    · omega
  · rcases cs i hi with ⟨li, ei⟩ | ⟨li, ei⟩ <;> rw [ei] at h1 e2
    · exact h.szs i li hn h1 b o b' o' e1 e2
    · have := hs hn b o e1
      have := hx h1 b' o' e2
      omega
structure CP (w : World) (bx : Array Value) (sizes : List Int) (p q r : Int) (blocks : List Blk) (sa : Option Addr) (kS : Nat) (qv : Value) (rows : List BRow) (wr : World) : Prop where
  box : wr.heap[w.heap.size]? = some (.cells bx 29 (0, 0))
  res : wr.heap[w.heap.size + 1]? = some (.cells #[.slice none 0 0, .int .i64 0, .int .i64 0, .int .i64 0, .slice none 0 0] 29 (0, 0))
  gp : wr.heap[w.heap.size + 2]? = some (.cells #[.slice sa sizes.length kS, .int .i64 p, .int .i64 q, .int .i64 r, qv] 29 (0, 0))
  bel : Below w.heap.size w wr
  big : w.heap.size + 3 ≤ wr.heap.size
  szs : RowX wr (w.heap.size + 3) 3 1 (.slice sa sizes.length kS) sizes.length (fun i => #[.int .i64 (sizes[i]!)]) qv.ownBlock
  own : OwnE BlE wr (w.heap.size + 3) qv rows
  few : rows.length ≤ blocks.length
  code : ∀ i (h : i < rows.length), rows[i].2.2 = blocks[i]! ∧ codeX wr (w.heap.size + 3) rows[i] qv.ownBlock
  dis : RDis sa sizes.length rows
section
variable {w wr wr' w7 : World} {bx : Array Value} {sizes : List Int} {p q r : Int} {blocks : List Blk} {sa : Option Addr} {kS : Nat} {qv v7 : Value} {rows : List BRow}
theorem CP.stays (h : CP w bx sizes p q r blocks sa kS qv rows wr) (bel : Below wr.heap.size wr wr') : CP w bx sizes p q r blocks sa kS qv rows wr' :=
  ⟨(bel.block _ (hltH h.box)).trans h.box, (bel.block _ (hltH h.res)).trans h.res, (bel.block _ (hltH h.gp)).trans h.gp, below_trans h.bel bel, Nat.le_trans h.big bel.size, h.szs.stays bel, h.own.stays bel, h.few, fun i hi => ⟨(h.code i hi).1, (h.code i hi).2.stays bel⟩, h.dis⟩
/-- One more block is told. -/
theorem CP.next (h : CP w bx sizes p q r blocks sa kS qv rows wr) (bel : Below wr.heap.size wr wr') (hlt : rows.length < blocks.length) {x : BRow} (hx : x.2.2 = blocks[rows.length]!) (hc : RowOf wr' wr.heap.size 62 7 (.slice x.1 (x.2.2).code.length x.2.1) (x.2.2).code.length (fun k => insA ((x.2.2).code[k]!)))
    (ho : OwnE BlE w7 (w.heap.size + 3) v7 (rows ++ [x])) (hg : wr'.grownBy w7 qv.ownBlock) (hr : v7.ownBlock = qv.ownBlock ∨ v7.ownBlock = some wr'.heap.size) :
    CP w bx sizes p q r blocks sa kS v7 (rows ++ [x]) (w7.setCell ⟨w.heap.size + 2, 4, none⟩ v7) := by
  have h' := h.stays bel
  have hbig := h.big
  have hbig' := h'.big
  have hlow := h'.own.low
  have hlow0 := h.own.low
  have hk : ∀ k, k < w.heap.size + 3 → w7.heap[k]? = wr'.heap[k]? := fun k hk => hg.block k (by omega) (fun e => by have := hlow k e.symm; omega)
  have hs : ∀ k, k ≠ w.heap.size + 2 → (w7.setCell ⟨w.heap.size + 2, 4, none⟩ v7).heap[k]? = w7.heap[k]? := fun k hk => Below.heap_setCell w7 ⟨w.heap.size + 2, 4, none⟩ _ k hk
  have hcx : codeX wr' (w.heap.size + 3) x qv.ownBlock := by
    obtain ⟨a, c, hv, h0 | ⟨g, cur, ha, hB, hr⟩⟩ := hc
    · exact ⟨⟨a, c, hv, Or.inl h0⟩, Or.inl h0⟩
    · refine ⟨⟨a, c, hv, Or.inr ⟨g, cur, ha, by omega, hr⟩⟩, Or.inr ?_⟩
      rw [hv, ha]
      intro e
      have e' : qv.ownBlock = some g := e.symm
      have := hlow0 g e'
      omega
  exact {
    box := (hs _ (by omega)).trans ((hk _ (by omega)).trans h'.box)
    res := (hs _ (by omega)).trans ((hk _ (by omega)).trans h'.res)
    gp := heap_setCell_same w7 _ 4 _ _ v7 ((hk _ (by omega)).trans h'.gp)
    bel := (h'.bel.grown hg (by omega) (fun k e => by have := hlow k e; omega)).setCell (p := ⟨w.heap.size + 2, 4, none⟩) (by simp only; omega) _
    big := by rw [size_set]; exact Nat.le_trans hbig' hg.size
    szs := (h'.szs.grown hg hr).set (by omega) _
    own := ho.blk (fun k hk hkl => hs k (by have := ho.low k hk; omega))
    few := by simp; omega
    dis := by
      refine h.dis.snoc (m := wr.heap.size) (fun h0 b o e => ?_) (fun i hi h0 b o e => ?_) (fun h0 b o e => ?_)
      · obtain ⟨a, c, hv, h1 | ⟨g, cur, ha, hB, _⟩⟩ := hc
        · omega
        · injection hv with e1
          rw [e1, ha] at e
          cases e
          exact hB
      · obtain ⟨_, ⟨a, c, hv, h1 | ⟨g, cur, ha, _, hh, _⟩⟩, _⟩ := h.code i hi
        · omega
        · injection hv with e1
          rw [e1, ha] at e
          cases e
          exact hltH hh
      · obtain ⟨⟨a, c, hv, h1 | ⟨g, cur, ha, _, hh, _⟩⟩, _⟩ := h.szs
        · omega
        · injection hv with e1
          rw [e1, ha] at e
          cases e
          exact hltH hh
    code := fun i hi => by
      by_cases hl : i < rows.length
      · rw [List.getElem_append_left hl]
        exact ⟨(h.code i hl).1, ((h'.code i hl).2.grown hg hr).set (by omega) _⟩
      · obtain rfl : i = rows.length := by simp at hi; omega
        rw [List.getElem_append_right (by omega)]
        simp only [Nat.sub_self, List.getElem_cons_zero]
        exact ⟨hx, (RowX.grown hcx hg hr).set (by omega) _⟩ }
/-- What is made is the graph. -/
theorem CP.is {B g cq : Nat} {ub : Option Addr} (h : CP w bx sizes p q r blocks sa kS (.slice (some ⟨g, 0, none⟩) rows.length cq) rows wr) (he : rows.length = blocks.length) (hwf : (⟨sizes, p, q, r, blocks⟩ : Gr).wf) (hl1 : sizes.length ≤ maxLen) (hb : SlIs BlkIs 5 w B ub blocks) :
    GrIs wr (w.heap.size + 3) #[.slice sa sizes.length kS, .int .i64 p, .int .i64 q, .int .i64 r, .slice (some ⟨g, 0, none⟩) blocks.length cq] ⟨sizes, p, q, r, blocks⟩ := by
  obtain ⟨hl2, vs, _, hx⟩ := hb
  refine ⟨sa, kS, _, cq, rfl, hwf, ⟨hl1, ?_⟩, ⟨hl2, ?_⟩⟩
  · obtain ⟨⟨a, c, hv, h0 | ⟨gs, cur, ha, hB, hh, hs, hc⟩⟩, _⟩ := h.szs
    · exact Or.inl h0
    · injection hv with e1
      rw [e1]
      refine Or.inr ⟨gs, 0, ha, hB, hltH hh, fun _ => ⟨cur, _, hh⟩, fun i hi => ?_⟩
      simp only at hi
      have := hc i hi 0 (by omega)
      simp only [getElem!_pos sizes i hi, Nat.mul_one, Nat.add_zero] at this
      simp only [World.cell?, hh, Nat.zero_add]; exact this
  · obtain ⟨g', cap, cur, hv, hB, hh, _, _, _, hc⟩ := h.own.parts BlE_ok
    injection hv with e1
    injection e1 with e1
    injection e1 with e1
    subst e1
    refine ⟨fun i => (BlE.cs (rows[i]!)).toArray, Or.inr ⟨g, 0, rfl, hB, hltH hh, fun _ => ⟨cur, _, hh⟩, fun i hi => ⟨rfl, fun j hj => ?_⟩⟩, fun i hi => ?_⟩
    · simp only at hi
      have := hc i (by omega) j hj
      simp only [World.cell?, hh, Nat.zero_add, getElem!_pos rows i (show i < rows.length by omega)]
      rw [show BlE.sz = 5 from rfl] at this
      simpa using this
    · simp only at hi
      have hi' : i < rows.length := by omega
      obtain ⟨h1, h2, _⟩ := h.code i hi'
      obtain ⟨uc, cc, _, hw, hm, v2, _, hi2⟩ := hx i hi
      rw [getElem!_pos blocks i hi] at h1
      simp only [getElem!_pos rows i hi']
      rw [← h1] at hw hm ⊢
      have hi3 : ∀ k (hk : k < (rows[i].2.2).code.length), ((rows[i].2.2).code[k]).wf ∧ ((rows[i].2.2).code[k]).t.size ≤ maxLen := fun k hk => by
        have hk' : k < (blocks[i]).code.length := by rw [← h1]; exact hk
        have := (hi2 k hk').2
        simp only [h1]
        exact this
      refine ⟨rows[i].1, rows[i].2.1, rfl, hw, hm, fun k => insA ((rows[i].2.2).code[k]!), ?_, fun k hk => ?_⟩
      · obtain ⟨a, c, hv, h0 | ⟨gc, cu, ha, hB, hh, hs, hcc⟩⟩ := h2
        · exact Or.inl h0
        · injection hv with e1
          rw [e1]
          refine Or.inr ⟨gc, 0, ha, hB, hltH hh, fun _ => ⟨cu, _, hh⟩, fun k hk => ⟨rfl, fun j hj => ?_⟩⟩
          have := hcc k hk j hj
          simp only [World.cell?, hh, Nat.zero_add]; exact this
      · simp only [getElem!_pos (rows[i].2.2).code k hk]
        exact ⟨rfl, hi3 k hk⟩
end
end Go.Proofs.Ytobpcfelgobedab

/- What spec.l04Copy has made, with its rows apart. -/
namespace Go.Proofs.Ytobpcfelgobedab
open Go.ChangeShapes Go.WideShapes Go.ChangeAt Go.RowKit
/-- The copy: its blocks lie in a row of its own, which neither its sizes nor its codes lie in. -/
structure CpAt (base : Nat) (x : Gr) (sa : Option Addr) (kS gq cq : Nat) (rows : List BRow) (W : World) : Prop where
  own : OwnE BlE W base (.slice (some ⟨gq, 0, none⟩) x.blocks.length cq) rows
  len : rows.length = x.blocks.length
  wf : x.wf
  szs : IntsIs W base sa x.sizes
  szne : 0 < x.sizes.length → ∀ b o, sa = some ⟨b, o, none⟩ → b ≠ gq
  code : ∀ i (_ : i < rows.length), rows[i].2.2 = x.blocks[i]! ∧ (rows[i].2.2).wf ∧ SlIs InsIs 7 W base rows[i].1 (rows[i].2.2).code
  cone : ∀ i (_ : i < rows.length), 0 < (rows[i].2.2).code.length → ∀ b o, rows[i].1 = some ⟨b, o, none⟩ → b ≠ gq
def CpGr (base : Nat) (x : Gr) (v : Array Value) (W : World) : Prop := ∃ sa kS gq cq rows, v = #[.slice sa x.sizes.length kS, .int .i64 x.params, .int .i64 x.vars, .int .i64 x.slots, .slice (some ⟨gq, 0, none⟩) x.blocks.length cq] ∧ CpAt base x sa kS gq cq rows W
def CpGrD (base : Nat) (x : Gr) (v : Array Value) (W : World) : Prop := ∃ sa kS gq cq rows, v = #[.slice sa x.sizes.length kS, .int .i64 x.params, .int .i64 x.vars, .int .i64 x.slots, .slice (some ⟨gq, 0, none⟩) x.blocks.length cq] ∧ CpAt base x sa kS gq cq rows W ∧ RDis sa x.sizes.length rows
theorem CpAt.but {base g : Nat} {x : Gr} {sa : Option Addr} {kS gq cq : Nat} {rows : List BRow} {W W' : World} (h : CpAt base x sa kS gq cq rows W) (hg : g < base) (hb : But g W W') : CpAt base x sa kS gq cq rows W' :=
  ⟨h.own.butG hb (fun e => by have := (h.own.low _ e).1; omega), h.len, h.wf, h.szs.but hg hb, h.szne, fun i hi => ⟨(h.code i hi).1, (h.code i hi).2.1, (h.code i hi).2.2.but InsKeeps hg hb⟩, h.cone⟩
theorem CpAt.mono {base base' : Nat} {x : Gr} {sa : Option Addr} {kS gq cq : Nat} {rows : List BRow} {W : World} (h : CpAt base x sa kS gq cq rows W) (hb : base' ≤ base) : CpAt base' x sa kS gq cq rows W :=
  ⟨h.own.mono hb, h.len, h.wf, h.szs.mono hb, h.szne, fun i hi => ⟨(h.code i hi).1, (h.code i hi).2.1, (h.code i hi).2.2.mono InsKeeps hb⟩, h.cone⟩
theorem CpAt.stays {base : Nat} {x : Gr} {sa : Option Addr} {kS gq cq : Nat} {rows : List BRow} {W W' : World} (h : CpAt base x sa kS gq cq rows W) (b : Below W.heap.size W W') : CpAt base x sa kS gq cq rows W' :=
  ⟨h.own.stays b, h.len, h.wf, h.szs.stays b, h.szne, fun i hi => ⟨(h.code i hi).1, (h.code i hi).2.1, (h.code i hi).2.2.stays InsKeeps b⟩, h.cone⟩
theorem CP.cp {w wr : World} {bx : Array Value} {sizes : List Int} {p q r : Int} {blocks : List Blk} {sa : Option Addr} {kS g cq B : Nat} {rows : List BRow} {ub : Option Addr} (h : CP w bx sizes p q r blocks sa kS (.slice (some ⟨g, 0, none⟩) rows.length cq) rows wr) (he : rows.length = blocks.length) (hwf : (⟨sizes, p, q, r, blocks⟩ : Gr).wf) (hl1 : sizes.length ≤ maxLen) (hb : SlIs BlkIs 5 w B ub blocks) :
    CpAt (w.heap.size + 3) ⟨sizes, p, q, r, blocks⟩ sa kS g cq rows wr := by
  obtain ⟨hl2, vs, _, hx⟩ := hb
  have hown := h.own
  rw [he] at hown
  refine ⟨hown, he, hwf, ⟨hl1, ?_⟩, fun h0 b o e => ?_, fun i hi => ?_, fun i hi h0 b o e => ?_⟩
  · obtain ⟨⟨a, c, hv, h0 | ⟨gs, cur, ha, hB, hh, hs, hc⟩⟩, _⟩ := h.szs
    · exact Or.inl h0
    · injection hv with e1
      rw [e1]
      refine Or.inr ⟨gs, 0, ha, hB, hltH hh, fun _ => ⟨cur, _, hh⟩, fun i hi => ?_⟩
      simp only at hi
      have := hc i hi 0 (by omega)
      simp only [getElem!_pos sizes i hi, Nat.mul_one, Nat.add_zero] at this
      simp only [World.cell?, hh, Nat.zero_add]; exact this
  · obtain ⟨⟨a, c, hv, h1 | ⟨gs, cur, ha, _⟩⟩, h2⟩ := h.szs
    · simp only at h0; omega
    · injection hv with e1
      rw [e1, ha] at e
      cases e
      rcases h2 with h2 | h2
      · simp only at h0; omega
      · intro e2
        apply h2
        rw [e1, ha, e2]; rfl
  · obtain ⟨h1, h2, _⟩ := h.code i hi
    have hib : i < blocks.length := by omega
    obtain ⟨uc, cc, _, hw, hm, v2, _, hi2⟩ := hx i hib
    refine ⟨h1, ?_, ?_⟩
    · rw [h1, getElem!_pos blocks i hib]; exact hw
    · rw [getElem!_pos blocks i hib] at h1
      have hi3 : ∀ k (hk : k < (rows[i].2.2).code.length), ((rows[i].2.2).code[k]).wf ∧ ((rows[i].2.2).code[k]).t.size ≤ maxLen := fun k hk => by
        have hk' : k < (blocks[i]).code.length := by rw [← h1]; exact hk
        have := (hi2 k hk').2
        simp only [h1]
        exact this
      rw [← h1] at hm
      refine ⟨hm, fun k => insA ((rows[i].2.2).code[k]!), ?_, fun k hk => ?_⟩
      · obtain ⟨a, c, hv, h0 | ⟨gc, cu, ha, hB, hh, hs, hcc⟩⟩ := h2
        · exact Or.inl h0
        · injection hv with e1
          rw [e1]
          refine Or.inr ⟨gc, 0, ha, hB, hltH hh, fun _ => ⟨cu, _, hh⟩, fun k hk => ⟨rfl, fun j hj => ?_⟩⟩
          have := hcc k hk j hj
          simp only [World.cell?, hh, Nat.zero_add]; exact this
      · simp only [getElem!_pos (rows[i].2.2).code k hk]
        exact ⟨rfl, hi3 k hk⟩
  · obtain ⟨_, ⟨a, c, hv, h1 | ⟨gc, cu, ha, _⟩⟩, h2⟩ := h.code i hi
    · omega
    · injection hv with e1
      rw [e1, ha] at e
      cases e
      rcases h2 with h2 | h2
      · omega
      · intro e2
        apply h2
        rw [e1, ha, e2]; rfl
end Go.Proofs.Ytobpcfelgobedab

/- The contract of spec.l04Copy (written by wip/mkl04c.py). -/
namespace Go.Proofs.Ytobpcfelgobedab
open Go.ChangeShapes Go.WideShapes Go.ChangeAt Go.RowKit
theorem RowOf.setB {w : World} {lo : Nat} {T : TypeId} {sz : Nat} {v : Value} {n : Nat} {vs : Nat → Array Value} (h : RowOf w lo T sz v n vs) {b i : Nat} (hb : b < lo) (u : Value) : RowOf (w.setCell ⟨b, i, none⟩ u) lo T sz v n vs := by
  obtain ⟨a, c, hv, h0 | ⟨g, cur, ha, hB, hh, hs⟩⟩ := h
  · exact ⟨a, c, hv, Or.inl h0⟩
  · exact ⟨a, c, hv, Or.inr ⟨g, cur, ha, hB, (Below.heap_setCell w ⟨b, i, none⟩ u g (by simp only; omega)).trans hh, hs⟩⟩
set_option maxRecDepth 100000 in
set_option maxHeartbeats 4000000 in
theorem spec_copyD (x : Gr) (w : World) (B : Nat) (v : Array Value) (h : GrIs w B v x) (hf : Fits x) :
    Calls Try.prog 13 #[.agg v] w fun en w' => ∃ v', en = .returned (.agg v') ∧ GrIs w' w.heap.size v' x ∧ Below w.heap.size w w' ∧ CpGrD w.heap.size x v' w' := by
  have HF := hideP hf.2.2
  obtain ⟨sizes, p, q, r, blocks⟩ := x
  obtain ⟨us, cs, ub, cb, rfl, hwf, hs, hb⟩ := h
  have hl1 : sizes.length ≤ 1048576 := hf.1
  have hl2 : blocks.length ≤ 1048576 := hf.2.1
  simp only at *
  have hsm := hs.1
  have SR := hideP (ints_row hs)
  have HB := hideP hb
  have HWF := hideP hwf
  have A4 : Hid (Below w.heap.size w ((((w.alloc (.cells #[.slice us sizes.length cs, .int .i64 p, .int .i64 q, .int .i64 r, .slice ub blocks.length cb] 29)).alloc (.cells #[.slice none 0 0, .int .i64 0, .int .i64 0, .int .i64 0, .slice none 0 0] 29)).alloc (.cells #[.slice us sizes.length cs, .int .i64 p, .int .i64 q, .int .i64 r, .slice ub blocks.length cb] 29)).alloc (.cells #[] 3))) := (below3 w _ _ _).alloc (by simp; omega) _
  have TH := hideP (three (Below.refl (((w.alloc (.cells #[.slice us sizes.length cs, .int .i64 p, .int .i64 q, .int .i64 r, .slice ub blocks.length cb] 29)).alloc (.cells #[.slice none 0 0, .int .i64 0, .int .i64 0, .int .i64 0, .slice none 0 0] 29)).alloc (.cells #[.slice us sizes.length cs, .int .i64 p, .int .i64 q, .int .i64 r, .slice ub blocks.length cb] 29)).heap.size (((w.alloc (.cells #[.slice us sizes.length cs, .int .i64 p, .int .i64 q, .int .i64 r, .slice ub blocks.length cb] 29)).alloc (.cells #[.slice none 0 0, .int .i64 0, .int .i64 0, .int .i64 0, .slice none 0 0] 29)).alloc (.cells #[.slice us sizes.length cs, .int .i64 p, .int .i64 q, .int .i64 r, .slice ub blocks.length cb] 29))))
  have Z3 : (((w.alloc (.cells #[.slice us sizes.length cs, .int .i64 p, .int .i64 q, .int .i64 r, .slice ub blocks.length cb] 29)).alloc (.cells #[.slice none 0 0, .int .i64 0, .int .i64 0, .int .i64 0, .slice none 0 0] 29)).alloc (.cells #[.slice us sizes.length cs, .int .i64 p, .int .i64 q, .int .i64 r, .slice ub blocks.length cb] 29)).heap.size = w.heap.size + 3 := by simp
  have HZ3 := hideP Z3
  have Q4 : Hid (((((w.alloc (.cells #[.slice us sizes.length cs, .int .i64 p, .int .i64 q, .int .i64 r, .slice ub blocks.length cb] 29)).alloc (.cells #[.slice none 0 0, .int .i64 0, .int .i64 0, .int .i64 0, .slice none 0 0] 29)).alloc (.cells #[.slice us sizes.length cs, .int .i64 p, .int .i64 q, .int .i64 r, .slice ub blocks.length cb] 29)).alloc (.cells #[] 3)).heap[w.heap.size + 3]? = some (.cells #[] 3 (0, 0))) := by have := blk_newG (((w.alloc (.cells #[.slice us sizes.length cs, .int .i64 p, .int .i64 q, .int .i64 r, .slice ub blocks.length cb] 29)).alloc (.cells #[.slice none 0 0, .int .i64 0, .int .i64 0, .int .i64 0, .slice none 0 0] 29)).alloc (.cells #[.slice us sizes.length cs, .int .i64 p, .int .i64 q, .int .i64 r, .slice ub blocks.length cb] 29)) (.cells #[] 3); rw [Z3] at this; exact this
  have BIG : Hid (w.heap.size + 3 ≤ ((((w.alloc (.cells #[.slice us sizes.length cs, .int .i64 p, .int .i64 q, .int .i64 r, .slice ub blocks.length cb] 29)).alloc (.cells #[.slice none 0 0, .int .i64 0, .int .i64 0, .int .i64 0, .slice none 0 0] 29)).alloc (.cells #[.slice us sizes.length cs, .int .i64 p, .int .i64 q, .int .i64 r, .slice ub blocks.length cb] 29)).alloc (.cells #[] 3)).heap.size) := by show _ ≤ _; simp
  have T4 : Hid (∀ k, k < w.heap.size + 3 → ((((w.alloc (.cells #[.slice us sizes.length cs, .int .i64 p, .int .i64 q, .int .i64 r, .slice ub blocks.length cb] 29)).alloc (.cells #[.slice none 0 0, .int .i64 0, .int .i64 0, .int .i64 0, .slice none 0 0] 29)).alloc (.cells #[.slice us sizes.length cs, .int .i64 p, .int .i64 q, .int .i64 r, .slice ub blocks.length cb] 29)).alloc (.cells #[] 3)).heap[k]? = (((w.alloc (.cells #[.slice us sizes.length cs, .int .i64 p, .int .i64 q, .int .i64 r, .slice ub blocks.length cb] 29)).alloc (.cells #[.slice none 0 0, .int .i64 0, .int .i64 0, .int .i64 0, .slice none 0 0] 29)).alloc (.cells #[.slice us sizes.length cs, .int .i64 p, .int .i64 q, .int .i64 r, .slice ub blocks.length cb] 29)).heap[k]?) := fun k hk => Below.heap_alloc _ _ _ (by rw [Z3]; exact hk)
  clear hs hb hwf hf Z3
  go_enter Try.func13, Try.ntmps13
  go_upto_region 3 with (at_builtin; refine list_appR2 _ rfl _ _ 3 22 rfl 1 8 (.int .i64 0) Try.underlying22 (by kernel_rfl) rfl (by decide) (by decide) (w.heap.size + 3) (w.heap.size + 3) _ rfl rfl Q4.out (Nat.le_refl _) us sizes.length cs rfl _ B (SR.out.below A4.out) (fun i _ u hu => by simp at hu; subst hu; rfl) (by omega) BIG.out ?_; intro v6 w6 o6 grow6; obtain ⟨sa, kS, rfl, _⟩ := id o6; have O6 := hideP o6; have B6 := hideP (A4.out.grown grow6 A4.out.size (fun k hk => by injection hk with hk; omega)); have K6 : Hid (∀ k, k < w.heap.size + 3 → w6.heap[k]? = (((w.alloc (.cells #[.slice us sizes.length cs, .int .i64 p, .int .i64 q, .int .i64 r, .slice ub blocks.length cb] 29)).alloc (.cells #[.slice none 0 0, .int .i64 0, .int .i64 0, .int .i64 0, .slice none 0 0] 29)).alloc (.cells #[.slice us sizes.length cs, .int .i64 p, .int .i64 q, .int .i64 r, .slice ub blocks.length cb] 29)).heap[k]?) := (fun k hk => (grow6.block k (by have := BIG.out; omega) (fun e => by injection e with e; omega)).trans (T4.out k hk)); have SZ6 : Hid (w.heap.size + 3 ≤ w6.heap.size) := Nat.le_trans BIG.out grow6.size; clear o6 grow6; have g6 : w6.heap[w.heap.size + 1 + 1]? = some (.cells #[.slice us sizes.length cs, .int .i64 p, .int .i64 q, .int .i64 r, .slice ub blocks.length cb] 29 (0, 0)) := (K6.out _ (by omega)).trans TH.out.2.2.1; have s0 := (cells_of g6).1 0; have s4 := (cells_of g6).1 4; have sf := (cells_of g6).2; simp at s0 s4; have G6 := hideP g6; clear g6)
  have x0 := heap_setCell_same w6 _ 0 _ _ (.slice sa sizes.length kS) G6.out
  have x1 := Below.heap_setCell w6 ⟨w.heap.size + 1 + 1, 0, none⟩ (.slice sa sizes.length kS)
  obtain ⟨W1, hW1⟩ : ∃ W1, w6.setCell ⟨w.heap.size + 1 + 1, 0, none⟩ (.slice sa sizes.length kS) = W1 := ⟨_, rfl⟩
  have hz1 : W1.heap.size = w6.heap.size := by rw [← hW1]; exact size_set _ _ _
  have S1 : Hid (RowX W1 (w.heap.size + 3) 3 1 (.slice sa sizes.length kS) sizes.length (fun i => #[.int .i64 (sizes[i]!)]) (some w6.heap.size)) := by
    rw [← hW1]
    refine RowX.set ⟨O6.out, ?_⟩ (by omega) _
    obtain ⟨a1, k1, hv, h0 | ⟨g1, cur, ha, _, hh, _⟩⟩ := O6.out
    · exact Or.inl h0
    · injection hv with e1
      rw [e1, ha]
      refine Or.inr fun e => ?_
      have e' : some g1 = some w6.heap.size := e
      injection e' with e'
      have := hltH hh
      omega
  have B1 : Hid (Below w.heap.size w W1) := by rw [← hW1]; exact B6.out.setCell (p := ⟨w.heap.size + 1 + 1, 0, none⟩) (by simp only; omega) _
  rw [hW1] at x0 x1 ⊢
  have C0 : Hid (CP w #[.slice us sizes.length cs, .int .i64 p, .int .i64 q, .int .i64 r, .slice ub blocks.length cb] sizes p q r blocks sa kS (.slice (some ⟨W1.heap.size, 0, none⟩) 0 0) [] ((W1.setCell ⟨w.heap.size + 1 + 1, 4, none⟩ (.slice (some ⟨W1.heap.size, 0, none⟩) 0 0)).alloc (.cells #[] 40))) := by
    have hbg := SZ6.out
    have hzs : (W1.setCell ⟨w.heap.size + 1 + 1, 4, none⟩ (.slice (some ⟨W1.heap.size, 0, none⟩) 0 0)).heap.size = W1.heap.size := size_set _ _ _
    have al := (Below.refl (W1.setCell ⟨w.heap.size + 1 + 1, 4, none⟩ (.slice (some ⟨W1.heap.size, 0, none⟩) 0 0)).heap.size (W1.setCell ⟨w.heap.size + 1 + 1, 4, none⟩ (.slice (some ⟨W1.heap.size, 0, none⟩) 0 0))).alloc (Nat.le_refl _) (.cells #[] 40)
    have hk : ∀ k, k < w.heap.size + 2 → ((W1.setCell ⟨w.heap.size + 1 + 1, 4, none⟩ (.slice (some ⟨W1.heap.size, 0, none⟩) 0 0)).alloc (.cells #[] 40)).heap[k]? = (((w.alloc (.cells #[.slice us sizes.length cs, .int .i64 p, .int .i64 q, .int .i64 r, .slice ub blocks.length cb] 29)).alloc (.cells #[.slice none 0 0, .int .i64 0, .int .i64 0, .int .i64 0, .slice none 0 0] 29)).alloc (.cells #[.slice us sizes.length cs, .int .i64 p, .int .i64 q, .int .i64 r, .slice ub blocks.length cb] 29)).heap[k]? := fun k hk => by
      rw [al.block k (by omega), Below.heap_setCell W1 ⟨w.heap.size + 1 + 1, 4, none⟩ _ k (by simp only; omega), x1 k (by simp only; omega)]
      exact K6.out k (by omega)
    have y0 := heap_setCell_same W1 _ 4 _ _ (.slice (some ⟨W1.heap.size, 0, none⟩) 0 0) x0
    have own0 := own_nil BlE_ok (W1.setCell ⟨w.heap.size + 1 + 1, 4, none⟩ (.slice (some ⟨W1.heap.size, 0, none⟩) 0 0)) W1.heap.size hzs.symm
    exact {
      box := (hk _ (by omega)).trans TH.out.1
      res := (hk _ (by omega)).trans TH.out.2.1
      gp := (al.block _ (hltH y0)).trans y0
      bel := below_trans (B1.out.setCell (p := ⟨w.heap.size + 1 + 1, 4, none⟩) (by simp only; omega) _) al
      big := by simp; omega
      szs := ((show RowX W1 _ _ _ _ _ _ (some W1.heap.size) by rw [hz1]; exact S1.out).set (by omega) _).stays al
      own := own0.mono (by omega)
      few := Nat.zero_le _
      code := fun i hi => absurd hi (Nat.not_lt_zero _)
      dis := RDis.nil _ _ }
  have x4 := (cells_of x0).1 4
  have xf := (cells_of x0).2
  simp at x4
  have hbig := hltH x0
  clear x1 S1 hW1 B1 B6 O6 K6 SZ6 G6 T4 BIG Q4 HZ3 TH A4 SR hz1 s0 s4 sf
  go_wp2
  go_loopg [4] blocks.length (fun gk ix wr => ∃ (rows : List BRow) (gq cq : Nat), gk + rows.length = blocks.length ∧ ix = .int .i64 rows.length ∧ Hid (CP w #[.slice us sizes.length cs, .int .i64 p, .int .i64 q, .int .i64 r, .slice ub blocks.length cb] sizes p q r blocks sa kS (.slice (some ⟨gq, 0, none⟩) rows.length cq) rows wr))
  case atStart => exact ⟨[], _, _, rfl, rfl, C0.out⟩
  case round =>
    obtain ⟨rows, gq, cq, hgk, rfl, hC⟩ := hrel
    clear C0
    have b4 := (cells_of hC.out.box).1 4
    simp at b4
    by_cases hlt : rows.length < blocks.length
    · obtain ⟨b, o, code, jump, a, t0, els, ux, kx, rfl, _, hbb, hx, q0, q1, q2, q3, q4, hbX⟩ := Blk_get HB.out rows.length hlt
      have hbb2 := Nat.lt_of_lt_of_le hbb hC.out.bel.size
      replace q0 := (hC.out.bel.cell (p := ⟨b, _, none⟩) hbb).trans q0
      replace q1 := (hC.out.bel.cell (p := ⟨b, _, none⟩) hbb).trans q1
      replace q2 := (hC.out.bel.cell (p := ⟨b, _, none⟩) hbb).trans q2
      replace q3 := (hC.out.bel.cell (p := ⟨b, _, none⟩) hbb).trans q3
      replace q4 := (hC.out.bel.cell (p := ⟨b, _, none⟩) hbb).trans q4
      have cle := (HF.out rows.length hlt).1
      rw [hx] at cle
      simp only at cle
      have BE : Hid ((⟨code, jump, a, t0, els⟩ : Blk) = blocks[rows.length]!) := by show _ = _; rw [getElem!_pos blocks rows.length hlt, hx]
      have CI : SlIs InsIs 7 w B ux code := by
        obtain ⟨uc, cc, e, _, hc⟩ := hbX
        simp at e
        rw [e.1]; exact hc
      have BL : Hid (Below wr.heap.size wr ((wr.alloc (.cells #[.slice ux code.length kx, .int .i64 jump, .int .i64 a, .int .i64 t0, .int .i64 els] 40)).alloc (.cells #[] 62))) := below2 wr _ _
      have RC := hideP ((ins_row CI).below (below_trans hC.out.bel BL.out))
      have QN : Hid (((wr.alloc (.cells #[.slice ux code.length kx, .int .i64 jump, .int .i64 a, .int .i64 t0, .int .i64 els] 40)).alloc (.cells #[] 62)).heap[wr.heap.size + 1]? = some (.cells #[] 62 (0, 0))) := (two (Below.refl ((wr.alloc (.cells #[.slice ux code.length kx, .int .i64 jump, .int .i64 a, .int .i64 t0, .int .i64 els] 40)).alloc (.cells #[] 62)).heap.size ((wr.alloc (.cells #[.slice ux code.length kx, .int .i64 jump, .int .i64 a, .int .i64 t0, .int .i64 els] 40)).alloc (.cells #[] 62)))).2.1
      have QB : Hid (((wr.alloc (.cells #[.slice ux code.length kx, .int .i64 jump, .int .i64 a, .int .i64 t0, .int .i64 els] 40)).alloc (.cells #[] 62)).heap[wr.heap.size]? = some (.cells #[.slice ux code.length kx, .int .i64 jump, .int .i64 a, .int .i64 t0, .int .i64 els] 40 (0, 0))) := (two (Below.refl ((wr.alloc (.cells #[.slice ux code.length kx, .int .i64 jump, .int .i64 a, .int .i64 t0, .int .i64 els] 40)).alloc (.cells #[] 62)).heap.size ((wr.alloc (.cells #[.slice ux code.length kx, .int .i64 jump, .int .i64 a, .int .i64 t0, .int .i64 els] 40)).alloc (.cells #[] 62)))).1
      have SZ : Hid (wr.heap.size + 1 ≤ ((wr.alloc (.cells #[.slice ux code.length kx, .int .i64 jump, .int .i64 a, .int .i64 t0, .int .i64 els] 40)).alloc (.cells #[] 62)).heap.size) := by show _ ≤ _; simp
      have hl0 : w.heap.size < wr.heap.size := hltH hC.out.box
      clear hx hbX CI
      go_upto_region 9 with (at_builtin; refine list_appR2 _ rfl _ _ 62 38 rfl 7 64 (.agg #[.int .i64 0, .int .i64 0, .int .i64 0, .int .i64 0, .int .i64 0, .int .i64 0, .string ByteArray.empty]) Try.underlying38 (by kernel_rfl) rfl (by decide) (by decide) (wr.heap.size + 1) (wr.heap.size + 1) _ rfl rfl QN.out (Nat.le_refl _) ux code.length kx rfl _ B RC.out (fun i _ => insA_one _) (by omega) SZ.out ?_; intro v6 w6 o6 grow6; obtain ⟨a6, c6, rfl, _⟩ := id o6; have O6 := hideP o6; have B6 := hideP (BL.out.grown grow6 BL.out.size (fun k hk => by injection hk with hk; omega)); have p6 : w6.heap[wr.heap.size]? = some (.cells #[.slice ux code.length kx, .int .i64 jump, .int .i64 a, .int .i64 t0, .int .i64 els] 40 (0, 0)) := (grow6.block wr.heap.size (hltH QB.out) (fun e => by injection e with e; omega)).trans QB.out; have s0 := (cells_of p6).1 0; have s1 := (cells_of p6).1 1; have s2 := (cells_of p6).1 2; have s3 := (cells_of p6).1 3; have s4 := (cells_of p6).1 4; have sf := (cells_of p6).2; simp at s0 s1 s2 s3 s4; have P6 := hideP p6; clear o6 grow6 p6)
      have x6 := heap_setCell_same w6 _ 0 _ _ (.slice a6 code.length c6) P6.out
      have b6 := B6.out.setCell (p := ⟨wr.heap.size, 0, none⟩) (Nat.le_refl _) (.slice a6 code.length c6)
      have r6 := (RowOf.setB O6.out (b := wr.heap.size) (i := 0) (Nat.lt_succ_self _) (.slice a6 code.length c6)).mono (B' := wr.heap.size) (Nat.le_succ _)
      obtain ⟨W6, hW6⟩ : ∃ W6, w6.setCell ⟨wr.heap.size, 0, none⟩ (.slice a6 code.length c6) = W6 := ⟨_, rfl⟩
      rw [hW6] at x6 b6 r6 ⊢
      have X6 := hideP x6
      have B7 := hideP b6
      have R7 := hideP r6
      clear hW6 x6 b6 r6 s0 s1 s2 s3 s4 sf P6 O6 B6 QB QN SZ RC BL q0 q1 q2 q3 q4 b4
      have C6 := hideP (hC.out.stays B7.out)
      have p0 := (cells_of X6.out).1 0
      have p1 := (cells_of X6.out).1 1
      have p2 := (cells_of X6.out).1 2
      have p3 := (cells_of X6.out).1 3
      have p4 := (cells_of X6.out).1 4
      simp at p0 p1 p2 p3 p4
      have y4 : W6.cell? ⟨w.heap.size + 1 + 1, 4, none⟩ = some (.slice (some ⟨gq, 0, none⟩) rows.length cq) := (cells_of C6.out.gp).1 4
      have al := (Below.refl W6.heap.size W6).alloc (Nat.le_refl _) (.cells #[.slice a6 code.length c6, .int .i64 jump, .int .i64 a, .int .i64 t0, .int .i64 els] 40)
      have CQ : Hid (∀ r, r < BlE.sz → (W6.alloc (.cells #[.slice a6 code.length c6, .int .i64 jump, .int .i64 a, .int .i64 t0, .int .i64 els] 40)).cell? ⟨W6.heap.size, 0 + r, none⟩ = (BlE.cs (a6, c6, (⟨code, jump, a, t0, els⟩ : Blk)))[r]?) := fun r _ => by
        have := (cells_of (heap_alloc_new W6 (.cells #[.slice a6 code.length c6, .int .i64 jump, .int .i64 a, .int .i64 t0, .int .i64 els] 40))).1 r
        rw [Nat.zero_add, this]; simp [BlE]
      have CA := hideP (C6.out.stays al)
      have BA := hideP (below_trans B7.out al)
      have RA := hideP (R7.out.stays al)
      have GA := hideP CA.out.gp
      clear al
      go_upto_region 6 with (at_builtin; refine list_appE BlE_ok _ rfl _ _ rfl (w.heap.size + 3) _ rows (a6, c6, (⟨code, jump, a, t0, els⟩ : Blk)) W6.heap.size 0 1 rfl rfl CA.out.own CQ.out (by omega) CA.out.big ?_; intro v7 w7 o7 grow7 loc7; have NX := hideP (hC.out.next BA.out hlt (x := (a6, c6, (⟨code, jump, a, t0, els⟩ : Blk))) BE.out RA.out o7 grow7 loc7); have g7p := (grow7.block (w.heap.size + 2) (hltH GA.out) (fun e => by have := (CA.out.own.low _ e.symm).1; omega)).trans GA.out; obtain ⟨g7, c7, rfl, _⟩ := id o7; have t4 : w7.cell? ⟨w.heap.size + 1 + 1, 4, none⟩ = some (.slice (some ⟨gq, 0, none⟩) rows.length cq) := (cells_of g7p).1 4; have tf : w7.frozen? ⟨w.heap.size + 1 + 1, 4, none⟩ = false := (cells_of g7p).2 4; clear g7p o7 grow7 loc7)
      clear CQ CA BA RA GA C6 X6 B7 R7 hC p0 p1 p2 p3 p4 y4
      go_wp2
      go_roundg (blocks.length - (rows.length + 1))
      case rel => exact ⟨rows ++ [(a6, c6, (⟨code, jump, a, t0, els⟩ : Blk))], g7, c7, by simp; omega, by simp only [List.length_append, List.length_singleton]; go_num, (by have h := NX.out; rw [List.length_append, List.length_singleton] at h ⊢; exact h)⟩
      case measure => omega
    · have hE : rows.length = blocks.length := by omega
      have gi := hC.out.is (B := B) hE HWF.out hsm HB.out
      have hres := hC.out.res
      have hgp := hC.out.gp
      rw [hE] at hgp
      have c0 : wr.cell? ⟨w.heap.size + 1 + 1, 0, none⟩ = some (.slice sa sizes.length kS) := (cells_of hgp).1 0
      have c1 : wr.cell? ⟨w.heap.size + 1 + 1, 1, none⟩ = some (.int .i64 p) := (cells_of hgp).1 1
      have c2 : wr.cell? ⟨w.heap.size + 1 + 1, 2, none⟩ = some (.int .i64 q) := (cells_of hgp).1 2
      have c3 : wr.cell? ⟨w.heap.size + 1 + 1, 3, none⟩ = some (.int .i64 r) := (cells_of hgp).1 3
      have c4 : wr.cell? ⟨w.heap.size + 1 + 1, 4, none⟩ = some (.slice (some ⟨gq, 0, none⟩) blocks.length cq) := (cells_of hgp).1 4
      have r0 := (cells_of hres).1 0
      have r1 := (cells_of hres).1 1
      have r2 := (cells_of hres).1 2
      have r3 := (cells_of hres).1 3
      have r4 := (cells_of hres).1 4
      have rf := (cells_of hres).2
      simp at r0 r1 r2 r3 r4
      have z0 := heap_setCell_same wr _ 0 _ _ (.slice sa sizes.length kS) hres
      have z1 := heap_setCell_same _ _ 1 _ _ (.int .i64 p) z0
      have z2 := heap_setCell_same _ _ 2 _ _ (.int .i64 q) z1
      have z3 := heap_setCell_same _ _ 3 _ _ (.int .i64 r) z2
      have z4 : (((((wr.setCell ⟨w.heap.size + 1, 0, none⟩ (.slice sa sizes.length kS)).setCell ⟨w.heap.size + 1, 1, none⟩ (.int .i64 p)).setCell ⟨w.heap.size + 1, 2, none⟩ (.int .i64 q)).setCell ⟨w.heap.size + 1, 3, none⟩ (.int .i64 r)).setCell ⟨w.heap.size + 1, 4, none⟩ (.slice (some ⟨gq, 0, none⟩) blocks.length cq)).heap[w.heap.size + 1]? = some (.cells #[.slice sa sizes.length kS, .int .i64 p, .int .i64 q, .int .i64 r, .slice (some ⟨gq, 0, none⟩) blocks.length cq] 29 (0, 0)) := heap_setCell_same _ _ 4 _ _ (.slice (some ⟨gq, 0, none⟩) blocks.length cq) z3
      have ZF := hideP z4
      have BU := hideP (((((But.refl (w.heap.size + 1) wr).set 0 (.slice sa sizes.length kS)).set 1 (.int .i64 p)).set 2 (.int .i64 q)).set 3 (.int .i64 r) |>.set 4 (.slice (some ⟨gq, 0, none⟩) blocks.length cq))
      have HG := hideP gi
      have HCP := hideP (hC.out.cp hE HWF.out hsm HB.out)
      have HDI := hideP hC.out.dis
      have HW := hideP hC.out.bel
      have hbig := hC.out.big
      rw [hE]
      have HE := hideP hE
      clear z0 z1 z2 z3 z4 gi hres hgp hC hE hlt hgk
      have hlt : ¬ ((blocks.length : Int) < (blocks.length : Int)) := by omega
      go_wp2
      refine bodyPost_ret (results_cell_row rfl _ _ (w.heap.size + 1) 29 #[.slice sa sizes.length kS, .int .i64 p, .int .i64 q, .int .i64 r, .slice (some ⟨gq, 0, none⟩) blocks.length cq] (0, 0) _ rfl ZF.out Try.underlying29 rfl (by kernel_rfl)) rfl ?_
      exact ⟨_, rfl, GrKeeps.mono (GrKeeps.but HG.out (by omega) BU.out) (by omega), HW.out.trans (BU.out.below (by omega) (by omega)), sa, kS, gq, cq, rows, rfl, (HCP.out.but (by omega) BU.out).mono (by omega), HDI.out⟩
theorem spec_copyX (x : Gr) (w : World) (B : Nat) (v : Array Value) (h : GrIs w B v x) (hf : Fits x) :
    Calls Try.prog 13 #[.agg v] w fun en w' => ∃ v', en = .returned (.agg v') ∧ GrIs w' w.heap.size v' x ∧ Below w.heap.size w w' ∧ CpGr w.heap.size x v' w' :=
  (spec_copyD x w B v h hf).mono (fun _ _ ⟨v', h1, h2, h3, sa, kS, gq, cq, rows, h4, h5, _⟩ => ⟨v', h1, h2, h3, sa, kS, gq, cq, rows, h4, h5⟩)
theorem spec_copy (x : Gr) (w : World) (B : Nat) (v : Array Value) (h : GrIs w B v x) (hf : Fits x) :
    Calls Try.prog 13 #[.agg v] w fun en w' => ∃ v', en = .returned (.agg v') ∧ GrIs w' w.heap.size v' x ∧ Below w.heap.size w w' :=
  (spec_copyX x w B v h hf).mono (fun _ _ ⟨v', h1, h2, h3, _⟩ => ⟨v', h1, h2, h3⟩)
end Go.Proofs.Ytobpcfelgobedab
