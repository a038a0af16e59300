/- The contract of spec.Trim (written by wip/mktrims.py). -/
import Derived.Test.YtljeahjcfbcbgaaL04C
import Derived.Test.YtljeahjcfbcbgaaOwnS
import Derived.Test.YtljeahjcfbcbgaaBlocksS
import Derived.Deep.RegionHeld3
import Derived.Deep.LoopGhost
namespace Go.Proofs.Ytljeahjcfbcbgaa
open Go.ChangeShapes Go.WideShapes Go.ChangeAt Go.RowKit
/-- All blocks but one row are as they were. -/
def KpB (wr : World) (row : Option Nat) (W : World) : Prop := ∀ k, k < wr.heap.size → some k ≠ row → W.heap[k]? = wr.heap[k]?
theorem KpB.of {wr W : World} {row : Option Nat} (h : Below wr.heap.size wr W) : KpB wr row W := fun k hk _ => h.block k hk
theorem KpB.grown {wr W W' : World} {row : Option Nat} (h : Below wr.heap.size wr W) (hg : W.grownBy W' row) : KpB wr row W' := fun k hk hne => (hg.block k (by have := h.size; omega) hne).trans (h.block k hk)
theorem bl_at {w : World} {B g n cap : Nat} {l : List BRow} (h : OwnE BlE w B (.slice (some ⟨g, 0, none⟩) n cap) l) (j : Nat) (hj : j < l.length) {ux : Option Addr} {kx : Nat} {code : List Ins} {jump a t0 els : Int} (he : l[j] = (ux, kx, ⟨code, jump, a, t0, els⟩)) :
    w.cell? ⟨g, j * 5, none⟩ = some (.slice ux code.length kx) ∧ w.cell? ⟨g, j * 5 + 1, none⟩ = some (.int .i64 jump) ∧ w.cell? ⟨g, j * 5 + 2, none⟩ = some (.int .i64 a) ∧ w.cell? ⟨g, j * 5 + 3, none⟩ = some (.int .i64 t0) ∧ w.cell? ⟨g, j * 5 + 4, none⟩ = some (.int .i64 els) ∧ ∀ k, w.frozen? ⟨g, k, none⟩ = false := by
  have h0 := h.at BlE_ok j hj 0 (by decide)
  have h1 := h.at BlE_ok j hj 1 (by decide)
  have h2 := h.at BlE_ok j hj 2 (by decide)
  have h3 := h.at BlE_ok j hj 3 (by decide)
  have h4 := h.at BlE_ok j hj 4 (by decide)
  rw [he] at h0 h1 h2 h3 h4
  simp [BlE] at h0 h1 h2 h3 h4
  obtain ⟨g', cap', cur, hv, _, hh, _⟩ := h.parts BlE_ok
  cases hv
  exact ⟨h0, h1, h2, h3, h4, (cells_of hh).2⟩
/-- The new numbers lie at the beginning of block g. -/
def NumW (w : World) (g : Nat) (l : List Int) : Prop := ∃ cur, w.heap[g]? = some (.cells cur 3 (0, 0)) ∧ l.length ≤ cur.size ∧ ∀ i (h : i < l.length), cur[i]? = some (.int .i64 l[i])
theorem NumW.at {w : World} {g : Nat} {l : List Int} (h : NumW w g l) {i : Nat} (hi : i < l.length) : w.cell? ⟨g, i, none⟩ = some (.int .i64 (l[i]!)) ∧ w.frozen? ⟨g, i, none⟩ = false := by
  obtain ⟨cur, h1, h2, h3⟩ := h
  exact ⟨by simp only [World.cell?, h1, getElem!_pos l i hi]; exact h3 i hi, by simp [World.frozen?, h1]⟩
theorem NumW.set {w : World} {g : Nat} {l : List Int} (h : NumW w g l) (k : Nat) (z : Int) : NumW (w.setCell ⟨g, k, none⟩ (.int .i64 z)) g (l.set k z) := by
  obtain ⟨cur, h1, h2, h3⟩ := h
  refine ⟨cur.setIfInBounds k (.int .i64 z), heap_setCell_same w g k cur _ _ h1, by simpa using h2, fun i hi => ?_⟩
  rw [List.length_set] at hi
  rw [Array.getElem?_setIfInBounds, List.getElem_set]
  split
  · rename_i e
    subst e
    rw [if_pos (by omega)]
  · exact h3 i hi
theorem NumW.keep {w w' : World} {g : Nat} {l : List Int} (h : NumW w g l) (hk : w'.heap[g]? = w.heap[g]?) : NumW w' g l :=
  let ⟨cur, h1, h2⟩ := h
  ⟨cur, hk.trans h1, h2⟩
theorem NumW.ltN {w : World} {g : Nat} {l : List Int} (h : NumW w g l) : g < w.heap.size := let ⟨_, h1, _⟩ := h; hltH h1
theorem own_neN {w : World} {B gN : Nat} {qv : Value} {rows : List BRow} {N : List Int} (h : OwnE BlE w B qv rows) (hn : NumW w gN N) : qv.ownBlock ≠ some gN := by
  obtain ⟨g, cap, cur, rfl, _, hh, _⟩ := h.parts BlE_ok
  obtain ⟨c, h1, _⟩ := hn
  intro e
  have e : g = gN := by simpa [Value.ownBlock] using e
  subst e
  rw [h1] at hh
  injection hh with hh
  injection hh with _ h2
  exact absurd h2 (by decide)
theorem own_neI {w : World} {B B2 gL n k : Nat} {qv : Value} {rows : List BRow} {L : List Int} (h : OwnE BlE w B qv rows) (hn : OwnI w B2 (.slice (some ⟨gL, 0, none⟩) n k) L) : qv.ownBlock ≠ some gL := by
  obtain ⟨g, cap, cur, rfl, _, hh, _⟩ := h.parts BlE_ok
  obtain ⟨g2, _, c, hv, _, h1, _⟩ := hn.parts
  cases hv
  intro e
  have e : g = gL := by simpa [Value.ownBlock] using e
  subst e
  rw [h1] at hh
  injection hh with hh
  injection hh with _ h2
  exact absurd h2 (by decide)
/-- Between two rounds: the list, the new numbers, what is kept. -/
structure TB (Wb : World) (gL kL gN : Nat) (L N : List Int) (qv : Value) (rows : List BRow) (wr : World) : Prop where
  bel : Below Wb.heap.size Wb wr
  num : NumW wr gN N
  lst : OwnI wr Wb.heap.size (.slice (some ⟨gL, 0, none⟩) L.length kL) L
  own : OwnE BlE wr Wb.heap.size qv rows
  low : Wb.heap.size ≤ gN
  ne : gL ≠ gN
section
variable {Wb wr wr' : World} {gL kL gN : Nat} {L N : List Int} {qv : Value} {rows : List BRow}
theorem TB.set (h : TB Wb gL kL gN L N qv rows wr) (k : Nat) (z : Int) : TB Wb gL kL gN L (N.set k z) qv rows (wr.setCell ⟨gN, k, none⟩ (.int .i64 z)) :=
  ⟨h.bel.setCell (p := ⟨gN, k, none⟩) h.low _, h.num.set k z, h.lst.butG ((But.refl gN wr).set k (.int .i64 z)) (by simpa [Value.ownBlock] using h.ne), h.own.blk (fun g hg _ => Below.heap_setCell wr ⟨gN, k, none⟩ _ g (fun e => own_neN h.own h.num (by rw [hg, e]))), h.low, h.ne⟩
theorem TB.app (h : TB Wb gL kL gN L N qv rows wr) (bel : Below wr.heap.size wr wr') {w6 : World} {v6 : Value} {x : BRow} (ho : OwnE BlE w6 Wb.heap.size v6 (rows ++ [x])) (hg : wr'.grownBy w6 qv.ownBlock) : TB Wb gL kL gN L N v6 (rows ++ [x]) w6 := by
  have hn := own_neN h.own h.num
  have hi := own_neI h.own h.lst
  have lowq := h.own.low
  refine ⟨(below_trans h.bel bel).grown hg (Nat.le_trans h.bel.size bel.size) (fun k hk => (lowq k hk).1), h.num.keep ((hg.block gN (Nat.lt_of_lt_of_le h.num.ltN bel.size) (fun e => hn e.symm)).trans (bel.block gN h.num.ltN)), (h.lst.stays bel).kept hg (fun e => hi (by rw [← e]; rfl)), ho, h.low, h.ne⟩
theorem TB.own_set (h : TB Wb gL kL gN L N qv rows wr) {rows' : List BRow} {g j : Nat} {u : Value} (hq : qv.ownBlock = some g) (ho : OwnE BlE (wr.setCell ⟨g, j, none⟩ u) Wb.heap.size qv rows') : TB Wb gL kL gN L N qv rows' (wr.setCell ⟨g, j, none⟩ u) := by
  have hn := own_neN h.own h.num
  have hi := own_neI h.own h.lst
  have lowq := h.own.low g hq
  refine ⟨h.bel.setCell (p := ⟨g, j, none⟩) lowq.1 _, h.num.keep (Below.heap_setCell wr ⟨g, j, none⟩ _ gN (fun e => hn (by rw [hq]; exact congrArg some e.symm))), h.lst.butG ((But.refl g wr).set j u) (fun e => hi (by rw [hq, ← e]; rfl)), ho, h.low, h.ne⟩
end
/-- The rows as they were copied. -/
def Rows0 (w : World) (B : Nat) (bs : List Blk) (L : List Int) (rows : List BRow) : Prop := ∀ i (h : i < rows.length), rows[i].2.2 = bs[(L[i]!).toNat]! ∧ (rows[i].2.2).wf ∧ SlIs InsIs 7 w B rows[i].1 (rows[i].2.2).code
theorem Rows0.snoc {w : World} {B : Nat} {bs : List Blk} {L : List Int} {rows : List BRow} (h : Rows0 w B bs L rows) {x : BRow} (h1 : x.2.2 = bs[(L[rows.length]!).toNat]!) (h2 : (x.2.2).wf) (h3 : SlIs InsIs 7 w B x.1 (x.2.2).code) : Rows0 w B bs L (rows ++ [x]) := by
  intro i hi
  by_cases hl : i < rows.length
  · rw [List.getElem_append_left hl]; exact h i hl
  · obtain rfl : i = rows.length := by simp at hi; omega
    rw [List.getElem_append_right (by omega)]
    simp only [Nat.sub_self, List.getElem_cons_zero]
    exact ⟨h1, h2, h3⟩
def reR (N : List Int) (x : BRow) : BRow := (x.1, x.2.1, reB N x.2.2)
/-- The first i rows go to the new numbers. -/
def reUp (N : List Int) (rows : List BRow) : Nat → List BRow
  | 0 => rows
  | i + 1 => (reUp N rows i).set i (reR N (rows[i]!))
theorem reUp_len (N : List Int) (rows : List BRow) : ∀ i, (reUp N rows i).length = rows.length
  | 0 => rfl
  | i + 1 => by simp [reUp, reUp_len N rows i]
theorem reUp_ge (N : List Int) (rows : List BRow) : ∀ i k, i ≤ k → (h : k < rows.length) → (reUp N rows i)[k]'(by rw [reUp_len]; exact h) = rows[k]
  | 0, _, _, _ => rfl
  | i + 1, k, hk, h => by
    simp only [reUp]
    rw [List.getElem_set_ne (by omega)]
    exact reUp_ge N rows i k (by omega) h
theorem reUp_lt (N : List Int) (rows : List BRow) : ∀ i k, k < i → (h : k < rows.length) → (reUp N rows i)[k]'(by rw [reUp_len]; exact h) = reR N rows[k]
  | 0, _, hk, _ => absurd hk (Nat.not_lt_zero _)
  | i + 1, k, hk, h => by
    simp only [reUp]
    by_cases e : i = k
    · subst e
      rw [List.getElem_set_self, getElem!_pos rows i h]
    · rw [List.getElem_set_ne e]
      exact reUp_lt N rows i k (by omega) h
theorem reUp_ok {w : World} {B : Nat} {bs : List Blk} {L : List Int} {rows : List BRow} (h : Rows0 w B bs L rows) (hE : rows.length = L.length) (hw : ∀ z ∈ numF bs.length L L.length, I64 z) (hin : ∀ b ∈ bs, (b.jump = 0 ∨ b.jump = 1 → InR bs.length b.to) ∧ (b.jump = 1 → InR bs.length b.els)) (hL : Inn bs.length L) : RowsOk w B bs L (reUp (numF bs.length L L.length) rows L.length) := by
  intro i hi
  rw [reUp_len] at hi
  rw [reUp_lt _ _ _ i (by omega) hi]
  obtain ⟨h1, h2, h3⟩ := h i hi
  simp only [reR]
  refine ⟨by rw [h1], ?_, by rw [reB_code]; exact h3⟩
  have hiL : i < L.length := by omega
  have hz := hL _ (List.getElem_mem hiL)
  have hzb : L[i].toNat < bs.length := by have := hz.1; have := hz.2; omega
  have hmem : rows[i].2.2 ∈ bs := by rw [h1, getElem!_pos L i hiL, getElem!_pos bs _ hzb]; exact List.getElem_mem _
  have hi1 := hin _ hmem
  have hnl := numF_len bs.length L L.length
  have get : ∀ z, InR bs.length z → I64 ((numF bs.length L L.length)[z.toNat]!) := fun z hz => by
    have hzl : z.toNat < (numF bs.length L L.length).length := by rw [hnl]; have := hz.1; have := hz.2; omega
    rw [getElem!_pos (numF bs.length L L.length) z.toNat hzl]
    exact hw _ (List.getElem_mem _)
  unfold reB
  split
  · rename_i hj
    exact ⟨h2.1, h2.2.1, get _ (hi1.1 (Or.inr hj)), get _ (hi1.2 hj)⟩
  · split
    · rename_i hj
      exact ⟨h2.1, h2.2.1, get _ (hi1.1 (Or.inl hj)), h2.2.2.2⟩
    · exact h2
theorem rows_isB {w W : World} {B B' C g n k : Nat} {bs : List Blk} {L : List Int} {rows : List BRow} (ho : OwnE BlE W B' (.slice (some ⟨g, 0, none⟩) n k) rows) (hr : RowsOk w B bs L rows) (hE : rows.length = L.length) (hn : L.length ≤ 300) (bel : Below w.heap.size w W) (hC : C ≤ B) (hC' : C ≤ B') : SlIs BlkIs 5 W C (some ⟨g, 0, none⟩) (rowB bs L) := by
  have hm := maxLen_lt
  have hlen : (rowB bs L).length = L.length := by simp [rowB]
  obtain ⟨g', cap, cur, hv, hB', hh, _, _, _, hx⟩ := ho.parts BlE_ok
  injection hv with e1
  injection e1 with e1
  injection e1 with e1
  subst e1
  refine ⟨by unfold maxLen; omega, fun i => (BlE.cs (rows[i]!)).toArray, Or.inr ⟨g, 0, rfl, by omega, hltH hh, fun _ => ⟨cur, _, hh⟩, fun i hi => ⟨rfl, fun j hj => ?_⟩⟩, fun i hi => ?_⟩
  · have := hx i (by omega) j hj
    simp only [World.cell?, hh, Nat.zero_add, getElem!_pos rows i (show i < rows.length by omega)]
    rw [show BlE.sz = 5 from rfl] at this
    simpa using this
  · have hi' : i < rows.length := by omega
    obtain ⟨h1, h2, h3⟩ := hr i hi'
    have e : (rowB bs L)[i] = rows[i].2.2 := by
      rw [h1]
      simp only [rowB, List.getElem_map, getElem!_pos L i (show i < L.length by omega)]
    rw [e]
    simp only [getElem!_pos rows i hi']
    exact ⟨_, _, rfl, h2, (h3.stays InsKeeps bel).mono InsKeeps hC⟩
theorem reUp_two {N : List Int} {rows : List BRow} {i : Nat} (h : i < rows.length) {ux : Option Addr} {kx : Nat} {code : List Ins} {a t0 els : Int} (hx : rows[i] = (ux, kx, (⟨code, 2, a, t0, els⟩ : Blk))) : reUp N rows (i + 1) = reUp N rows i := by
  have e : reR N (rows[i]!) = (reUp N rows i)[i]'(by rw [reUp_len]; exact h) := by rw [reUp_ge N rows i i (Nat.le_refl _) h, getElem!_pos rows i h, hx]; simp [reR, reB]
  show (reUp N rows i).set i (reR N (rows[i]!)) = _
  rw [e, List.set_getElem_self]
theorem reUp_zero {N : List Int} {rows : List BRow} {i : Nat} (h : i < rows.length) {ux : Option Addr} {kx : Nat} {code : List Ins} {a els : Int} {zt : Nat} (hx : rows[i] = (ux, kx, (⟨code, 0, a, (zt : Int), els⟩ : Blk))) : reUp N rows (i + 1) = (reUp N rows i).set i (ux, kx, (⟨code, 0, a, N[zt]!, els⟩ : Blk)) := by
  show (reUp N rows i).set i (reR N (rows[i]!)) = _
  rw [getElem!_pos rows i h, hx]; simp [reR, reB]
theorem reUp_one {N : List Int} {rows : List BRow} {i : Nat} (h : i < rows.length) {ux : Option Addr} {kx : Nat} {code : List Ins} {a : Int} {zt ze : Nat} (hx : rows[i] = (ux, kx, (⟨code, 1, a, (zt : Int), (ze : Int)⟩ : Blk))) : reUp N rows (i + 1) = ((reUp N rows i).set i (ux, kx, (⟨code, 1, a, N[zt]!, (ze : Int)⟩ : Blk))).set i (ux, kx, (⟨code, 1, a, N[zt]!, N[ze]!⟩ : Blk)) := by
  show (reUp N rows i).set i (reR N (rows[i]!)) = _
  rw [getElem!_pos rows i h, hx, List.set_set]; simp [reR, reB]
/-- The answer is this graph. -/
def SpGr (w : World) (x : Gr) (en : Ending) (w' : World) : Prop := ∃ v', en = .returned (.agg v') ∧ GrIs w' w.heap.size v' x ∧ Below w.heap.size w w'
set_option maxRecDepth 100000 in
set_option maxHeartbeats 8000000 in
theorem spec_trim0 (x : Gr) (w : World) (B : Nat) (v : Array Value) (h : GrIs w B v x) (GO : OkIs 23 x) (hf : Fits x) :
    Calls Try.prog 8 #[.agg v] w fun en w' => SpGr w (trimP x) en w' := by
  have HG0 := hideP h
  have HF := hideP hf
  have HGO := hideP GO
  obtain ⟨y, hy⟩ : ∃ y, grOk x = y := ⟨_, rfl⟩
  have HY := hideP hy
  have CY : Hid (∀ W, Below w.heap.size w W → Calls Try.prog 23 #[.agg v] W fun en w' => en = .returned (.bool y) ∧ Below W.heap.size W w') := fun W hW => by rw [← hy]; exact GO W B v (GrKeeps.stays h hW)
  have CC : Hid (∀ W, Below w.heap.size w W → Calls Try.prog 22 #[.agg v] W fun en w' => SpGr W x en w') := fun W hW => spec_copy x W B v (GrKeeps.stays h hW) hf
  obtain ⟨X, hX⟩ : ∃ X, trimP x = X := ⟨_, rfl⟩
  have HX := hideP hX
  rw [hX]
  clear hy hX GO hf
  obtain ⟨sizes, p, q, r, blocks⟩ := x
  obtain ⟨us, cs, ub, cb, rfl, _⟩ := h
  simp only at *
  have al := below2 w (.cells #[.slice us sizes.length cs, .int .i64 p, .int .i64 q, .int .i64 r, .slice ub blocks.length cb] 29) (.cells #[.slice none 0 0, .int .i64 0, .int .i64 0, .int .i64 0, .slice none 0 0] 29)
  have AL := hideP al
  have TW := hideP (fun w1 => two (w := w) (w1 := w1) (o1 := .cells #[.slice us sizes.length cs, .int .i64 p, .int .i64 q, .int .i64 r, .slice ub blocks.length cb] 29) (o2 := .cells #[.slice none 0 0, .int .i64 0, .int .i64 0, .int .i64 0, .slice none 0 0] 29))
  have hz2 : ((w.alloc (.cells #[.slice us sizes.length cs, .int .i64 p, .int .i64 q, .int .i64 r, .slice ub blocks.length cb] 29)).alloc (.cells #[.slice none 0 0, .int .i64 0, .int .i64 0, .int .i64 0, .slice none 0 0] 29)).heap.size = w.heap.size + 2 := by simp
  have HZ2 := hideP hz2
  clear al hz2
  go_enter Try.func8, Try.ntmps8
  go_wp2_with fail
  refine (CC.out _ AL.out).mono ?_
  rintro e1 w1 ⟨v1, rfl, gi, bel1⟩
  obtain ⟨P1, RR, L1, hw⟩ := TW.out w1 bel1
  rw [HZ2.out] at gi
  obtain ⟨us1, cs1, ub1, cb1, rfl, hwf1, hs1, hb1⟩ := id gi
  simp only at gi hs1 hb1 hwf1 ⊢
  have al2 := (Below.refl w1.heap.size w1).alloc (Nat.le_refl _) (.cells #[.slice us1 sizes.length cs1, .int .i64 p, .int .i64 q, .int .i64 r, .slice ub1 blocks.length cb1] 29)
  have HWb := hideP (below_trans hw al2)
  have A2 := hideP al2
  have P2 := hideP ((al2.block _ (hltH P1)).trans P1)
  have R2 := hideP ((al2.block _ (hltH RR)).trans RR)
  have O2 := hideP (blk_newG w1 (.cells #[.slice us1 sizes.length cs1, .int .i64 p, .int .i64 q, .int .i64 r, .slice ub1 blocks.length cb1] 29))
  have SZ2 : Hid ((w1.alloc (.cells #[.slice us1 sizes.length cs1, .int .i64 p, .int .i64 q, .int .i64 r, .slice ub1 blocks.length cb1] 29)).heap.size = w1.heap.size + 1) := by show _ = _; simp
  have HS1 := hideP hs1
  have HB1 := hideP hb1
  have HWF := hideP hwf1
  have HG1 := hideP gi
  clear bel1 P1 RR hw TW AL CC al2 gi hs1 hb1 hwf1 HZ2
  go_upto_region 2 with fail
  obtain ⟨Wb, hWb⟩ : ∃ Wb, w1.alloc (.cells #[.slice us1 sizes.length cs1, .int .i64 p, .int .i64 q, .int .i64 r, .slice ub1 blocks.length cb1] 29) = Wb := ⟨_, rfl⟩
  rw [hWb] at HWb A2 P2 R2 O2 SZ2 ⊢
  clear hWb
  have c0 := (cells_of P2.out).1 0
  have c1 := (cells_of P2.out).1 1
  have c2 := (cells_of P2.out).1 2
  have c3 := (cells_of P2.out).1 3
  have c4 := (cells_of P2.out).1 4
  simp at c0 c1 c2 c3 c4
  go_wp2_with fail
  refine (CY.out _ HWb.out).mono ?_
  rintro e2 w2 ⟨rfl, bel2⟩
  have B2 := hideP bel2
  clear CY c0 c1 c2 c3 c4
  have P3 := hideP ((bel2.block _ (hltH P2.out)).trans P2.out)
  have R3 := hideP ((bel2.block _ (hltH R2.out)).trans R2.out)
  have O3 := hideP ((bel2.block _ (hltH O2.out)).trans O2.out)
  clear bel2
  cases y with
  | false =>
    have E : Hid (X = ⟨sizes, p, q, r, blocks⟩) := by show _ = _; rw [← HX.out]; exact trimP_no (by rw [HY.out]; simp)
    have d0 := (cells_of O3.out).1 0
    have d1 := (cells_of O3.out).1 1
    have d2 := (cells_of O3.out).1 2
    have d3 := (cells_of O3.out).1 3
    have d4 := (cells_of O3.out).1 4
    have z := R3.out
    have r0 := (cells_of z).1 0
    have r1 := (cells_of z).1 1
    have r2 := (cells_of z).1 2
    have r3 := (cells_of z).1 3
    have r4 := (cells_of z).1 4
    have rf := (cells_of z).2
    simp at d0 d1 d2 d3 d4 r0 r1 r2 r3 r4
    have z0 := heap_setCell_same w2 _ 0 _ _ (.slice us1 sizes.length cs1) z
    have z1 := heap_setCell_same _ _ 1 _ _ (.int .i64 p) z0
    have z2 := heap_setCell_same _ _ 2 _ _ (.int .i64 q) z1
    have z3 := heap_setCell_same _ _ 3 _ _ (.int .i64 r) z2
    have z4 : (((((w2.setCell ⟨w.heap.size + 1, 0, none⟩ (.slice us1 sizes.length cs1)).setCell ⟨w.heap.size + 1, 1, none⟩ (.int .i64 p)).setCell ⟨w.heap.size + 1, 2, none⟩ (.int .i64 q)).setCell ⟨w.heap.size + 1, 3, none⟩ (.int .i64 r)).setCell ⟨w.heap.size + 1, 4, none⟩ (.slice ub1 blocks.length cb1)).heap[w.heap.size + 1]? = some (.cells #[.slice us1 sizes.length cs1, .int .i64 p, .int .i64 q, .int .i64 r, .slice ub1 blocks.length cb1] 29 (0, 0)) := heap_setCell_same _ _ 4 _ _ (.slice ub1 blocks.length cb1) z3
    have ZF := hideP z4
    have BU : Hid (But (w.heap.size + 1) w2 (((((w2.setCell ⟨w.heap.size + 1, 0, none⟩ (.slice us1 sizes.length cs1)).setCell ⟨w.heap.size + 1, 1, none⟩ (.int .i64 p)).setCell ⟨w.heap.size + 1, 2, none⟩ (.int .i64 q)).setCell ⟨w.heap.size + 1, 3, none⟩ (.int .i64 r)).setCell ⟨w.heap.size + 1, 4, none⟩ (.slice ub1 blocks.length cb1))) := ((((((But.refl (w.heap.size + 1) w2).set 0 (.slice us1 sizes.length cs1)).set 1 (.int .i64 p)).set 2 (.int .i64 q)).set 3 (.int .i64 r)).set 4 (.slice ub1 blocks.length cb1))
    clear z z0 z1 z2 z3 z4
    go_wp2
    refine bodyPost_ret (results_cell_row rfl _ _ (w.heap.size + 1) 29 #[.slice us1 sizes.length cs1, .int .i64 p, .int .i64 q, .int .i64 r, .slice ub1 blocks.length cb1] (0, 0) _ rfl ZF.out Try.underlying29 rfl (by kernel_rfl)) rfl ?_
    rw [E.out]
    have h1 := SZ2.out
    have h2 := B2.out.size
    have h3 := hltH R2.out
    have gw := GrKeeps.stays (GrKeeps.stays HG1.out A2.out) B2.out
    exact ⟨_, rfl, GrKeeps.mono (GrKeeps.but gw (by omega) BU.out) (by omega), (below_trans HWb.out B2.out).trans (BU.out.below (by omega) (by omega))⟩
  | true =>
    have hok : Hid (grOk ⟨sizes, p, q, r, blocks⟩ = true) := HY.out
    have JT := hideP (fun (b : Blk) (hb : b ∈ blocks) => And.intro (jump_to hok.out hb) (And.intro (jump_els hok.out hb) (jump_three hok.out hb)))
    obtain ⟨L, hL⟩ : ∃ L, blocksP ⟨sizes, p, q, r, blocks⟩ = L := ⟨_, rfl⟩
    have E : Hid (X = ⟨sizes, p, q, r, rowB blocks L⟩) := by show _ = _; rw [← HX.out, ← hL]; exact trimP_ok hok.out
    have HIN : Hid (Inn blocks.length L) := by rw [← hL]; exact blocksP_in hok.out
    have hLn : L.length ≤ 300 := by rw [← hL]; exact blocksP_few _
    have hbl : blocks.length ≤ 300 := by have := hok.out; simp only [grOk, Bool.and_eq_true, decide_eq_true_eq] at this; omega
    have CB : Hid (∀ W, Below w.heap.size w W → Calls Try.prog 24 #[.agg #[.slice us sizes.length cs, .int .i64 p, .int .i64 q, .int .i64 r, .slice ub blocks.length cb]] W fun en w' => ∃ g2 c2, en = .returned (.slice (some ⟨g2, 0, none⟩) L.length c2) ∧ OwnI w' W.heap.size (.slice (some ⟨g2, 0, none⟩) L.length c2) L ∧ Below W.heap.size W w') := fun W hW => by
      refine (spec_blocks _ W B _ (GrKeeps.stays HG0.out hW) HGO.out).mono ?_
      rintro en w' ⟨v', rfl, o1, b1⟩
      rw [hL] at o1
      obtain ⟨g2, c2, rfl, _⟩ := id o1
      exact ⟨g2, c2, rfl, o1, b1⟩
    clear hL HY HX
    have c0 := (cells_of P3.out).1 0
    have c1 := (cells_of P3.out).1 1
    have c2 := (cells_of P3.out).1 2
    have c3 := (cells_of P3.out).1 3
    have c4 := (cells_of P3.out).1 4
    simp at c0 c1 c2 c3 c4
    go_wp2_with fail
    refine (CB.out _ (below_trans HWb.out B2.out)).mono ?_
    rintro e3 w3 ⟨gL, kL, rfl, o3, bel3⟩
    replace c4 := (cells_of ((bel3.block _ (hltH P3.out)).trans P3.out)).1 4
    simp at c4
    have O4 := hideP o3
    have B3 := hideP (below_trans B2.out bel3)
    clear bel3 o3 c0 c1 c2 c3 CB
    go_wp2_with fail
    refine (zeros_any blocks.length _ (by omega)).mono ?_
    rintro e4 w4 ⟨v4, rfl, o4, bel4⟩
    obtain ⟨gN, kN, rfl, _⟩ := id o4
    rw [List.length_replicate] at o4 ⊢
    have hgN := o4.low gN rfl
    have hgL := O4.out.low gL rfl
    have T0 : Hid (TB Wb gL kL gN L (numF blocks.length L 0) (.slice (some ⟨w4.heap.size, 0, none⟩) 0 0) [] (w4.alloc (.cells #[] 43))) := by
      have al := (Below.refl w4.heap.size w4).alloc (Nat.le_refl _) (.cells #[] 43)
      have hz3 := B3.out.size
      have hz2 := B2.out.size
      have hz4 := bel4.size
      obtain ⟨g', cap', cur, hv, _, hh, hc, _, hcs, hx⟩ := o4.parts
      simp at hv
      obtain ⟨rfl, rfl⟩ := hv
      refine ⟨below_trans (below_trans B3.out bel4) al, ?_, ((O4.out.stays bel4).stays al).mono (by omega), (own_nil BlE_ok w4 w4.heap.size rfl).mono (by omega), by omega, by omega⟩
      exact ⟨cur, (al.block gN (by omega)).trans hh, by rw [numF_len]; simp at hc; omega, fun i hi => by have := hx i (by rw [numF_len] at hi; simpa using hi); simpa [numF] using this⟩
    have hlow1 := SZ2.out
    clear o4 bel4 c4 O4 hgN hgL B2 B3 P3 R3 O3
    go_wp2
    go_loopg [6, 7] L.length (fun gk qv ix wr => ∃ rows : List BRow, gk + rows.length = L.length ∧ ix = .int .i64 (rows.length : Nat) ∧ Hid (TB Wb gL kL gN L (numF blocks.length L rows.length) qv rows wr) ∧ Hid (Rows0 w1 (w.heap.size + 2) blocks L rows))
    case atStart => exact ⟨[], by simp, rfl, T0.out, fun i hi => absurd hi (Nat.not_lt_zero _)⟩
    case round =>
      obtain ⟨rows, hgk, rfl, hT, hR⟩ := hrel
      clear T0
      obtain ⟨gq, cq, rfl, _⟩ := id hT.out.own
      by_cases hlt : rows.length < L.length
      · have hz := HIN.out _ (List.getElem_mem hlt)
        obtain ⟨zt, hzt⟩ : ∃ zt : Nat, L[rows.length] = (zt : Int) := ⟨L[rows.length].toNat, by have := hz.1; omega⟩
        have hzl : zt < blocks.length := by have := hz.1; have := hz.2; omega
        have lc := hT.out.lst.at rows.length hlt
        rw [hzt] at lc
        simp only [Nat.zero_add] at lc
        obtain ⟨nc, nf⟩ := hT.out.num.at (i := zt) (by rw [numF_len]; exact hzl)
        have T1 : Hid (TB Wb gL kL gN L (numF blocks.length L (rows.length + 1)) (.slice (some ⟨gq, 0, none⟩) rows.length cq) rows (wr.setCell ⟨gN, zt, none⟩ (.int .i64 (rows.length : Nat)))) := by
          have := hT.out.set zt (rows.length : Int)
          show TB _ _ _ _ _ _ _ _ _
          rw [show numF blocks.length L (rows.length + 1) = (numF blocks.length L rows.length).set zt (rows.length : Int) by simp only [numF, getElem!_pos L rows.length hlt, hzt]; simp]
          exact this
        have HZT : Hid ((L[rows.length]!).toNat = zt) := by show _ = _; rw [getElem!_pos L rows.length hlt, hzt]; simp
        clear hT hz
        go_upto_region 11 with fail
        obtain ⟨wn, hwn⟩ : ∃ wn, wr.setCell ⟨gN, zt, none⟩ (.int .i64 (rows.length : Nat)) = wn := ⟨_, rfl⟩
        rw [hwn] at T1 ⊢
        clear hwn lc nc nf
        have bel := T1.out.bel
        have belw := below_trans A2.out bel
        obtain ⟨b, oo, code, jump, a, t0, els, ux, kx, rfl, _, hbb, hx, q0, q1, q2, q3, q4, hbX⟩ := Blk_get HB1.out zt hzl
        have lc := T1.out.lst.at rows.length hlt
        rw [hzt] at lc
        simp only [Nat.zero_add] at lc
        have SK : Hid (∀ W', KpB wn (some gq) W' → W'.cell? ⟨w1.heap.size, 4, none⟩ = some (.slice (some ⟨b, oo, none⟩) blocks.length cb1) ∧ W'.cell? ⟨gL, rows.length, none⟩ = some (.int .i64 (zt : Int)) ∧ W'.cell? ⟨b, oo + zt * 5, none⟩ = some (.slice ux code.length kx) ∧ W'.cell? ⟨b, oo + zt * 5 + 1, none⟩ = some (.int .i64 jump) ∧ W'.cell? ⟨b, oo + zt * 5 + 2, none⟩ = some (.int .i64 a) ∧ W'.cell? ⟨b, oo + zt * 5 + 3, none⟩ = some (.int .i64 t0) ∧ W'.cell? ⟨b, oo + zt * 5 + 4, none⟩ = some (.int .i64 els)) := fun W' hk => by
          have lowq := T1.out.own.low gq rfl
          have ob := (hk w1.heap.size (by omega) (by simp; omega)).trans ((bel.block w1.heap.size (by omega)).trans O2.out)
          have hgl := T1.out.lst.low gL rfl
          have hni := own_neI T1.out.own T1.out.lst
          have hbw : ∀ n u, w1.cell? ⟨b, n, none⟩ = some u → W'.cell? ⟨b, n, none⟩ = some u := fun n u hu => (World.cell?_of_block (a := ⟨b, n, none⟩) (hk b (by have := belw.size; omega) (by simp; omega))).trans ((belw.cell (p := ⟨b, n, none⟩) hbb).trans hu)
          exact ⟨(cells_of ob).1 4, (World.cell?_of_block (a := ⟨gL, rows.length, none⟩) (hk gL hgl.2 (fun e => hni (by rw [e]; rfl)))).trans lc, hbw _ _ q0, hbw _ _ q1, hbw _ _ q2, hbw _ _ q3, hbw _ _ q4⟩
        have AD := hideP ((Below.refl wn.heap.size wn).drew.alloc (Nat.le_refl _) (.cells #[.slice ux code.length kx, .int .i64 jump, .int .i64 a, .int .i64 t0, .int .i64 els] 43))
        have OA := hideP (T1.out.own.stays AD.out)
        have CQ : Hid (∀ r, r < BlE.sz → (wn.drew.alloc (.cells #[.slice ux code.length kx, .int .i64 jump, .int .i64 a, .int .i64 t0, .int .i64 els] 43)).cell? ⟨wn.heap.size, 0 + r, none⟩ = (BlE.cs (ux, kx, (⟨code, jump, a, t0, els⟩ : Blk)))[r]?) := fun r _ => by
          have := (cells_of (heap_alloc_new wn.drew (.cells #[.slice ux code.length kx, .int .i64 jump, .int .i64 a, .int .i64 t0, .int .i64 els] 43))).1 r
          rw [Nat.zero_add]
          refine Eq.trans this ?_
          simp [BlE]
        have hsz1 : Hid (Wb.heap.size ≤ (wn.drew.alloc (.cells #[.slice ux code.length kx, .int .i64 jump, .int .i64 a, .int .i64 t0, .int .i64 els] 43)).heap.size) := Nat.le_trans bel.size AD.out.size
        have hbX' := hbX
        obtain ⟨u', c', hv, hwfb, hcode⟩ := hbX'
        simp at hv
        obtain ⟨⟨rfl, rfl⟩, -⟩ := hv
        have R6 : Hid (Rows0 w1 (w.heap.size + 2) blocks L (rows ++ [(ux, kx, (⟨code, jump, a, t0, els⟩ : Blk))])) := hR.out.snoc (by rw [HZT.out, getElem!_pos blocks zt hzl]; exact hx.symm) hwfb hcode
        clear bel belw lc hbX hwfb hcode hx q0 q1 q2 q3 q4 hR
        go_region_held3 (fun W' => W'.cell? ⟨w1.heap.size, 4, none⟩ = some (.slice (some ⟨b, oo, none⟩) blocks.length cb1) ∧ W'.cell? ⟨gL, rows.length, none⟩ = some (.int .i64 (zt : Int)) ∧ W'.cell? ⟨b, oo + zt * 5, none⟩ = some (.slice ux code.length kx) ∧ W'.cell? ⟨b, oo + zt * 5 + 1, none⟩ = some (.int .i64 jump) ∧ W'.cell? ⟨b, oo + zt * 5 + 2, none⟩ = some (.int .i64 a) ∧ W'.cell? ⟨b, oo + zt * 5 + 3, none⟩ = some (.int .i64 t0) ∧ W'.cell? ⟨b, oo + zt * 5 + 4, none⟩ = some (.int .i64 els)) (first | exact SK.out _ (KpB.of (Below.refl _ _).drew) | exact SK.out _ (KpB.of AD.out) | exact SK.out _ K6.out) (first
          | (refine step_appE BlE_ok _ rfl _ _ rfl Wb.heap.size _ rows (ux, kx, (⟨code, jump, a, t0, els⟩ : Blk)) wn.heap.size 0 1 rfl rfl OA.out CQ.out (by omega) hsz1.out ?_; intro v6 w6 o6 grow6 loc6; obtain ⟨g6, c6, rfl, _⟩ := id o6; have T6 := hideP (T1.out.app AD.out o6 grow6); have K6 : Hid (KpB wn (some gq) w6) := KpB.grown AD.out grow6; clear o6 grow6 loc6))
        clear SK AD OA CQ hsz1 K6 T1
        go_wp2
        go_roundg (L.length - (rows.length + 1))
        case rel =>
          refine ⟨rows ++ [(ux, kx, (⟨code, jump, a, t0, els⟩ : Blk))], by simp; omega, by simp only [List.length_append, List.length_singleton]; go_num, ?_, R6.out⟩
          show TB _ _ _ _ _ _ _ _ _
          have := T6.out
          simp only [List.length_append, List.length_singleton] at this ⊢
          exact this
        case measure => omega
      · have hE : rows.length = L.length := by omega
        obtain ⟨N, hN⟩ : ∃ N, numF blocks.length L L.length = N := ⟨_, rfl⟩
        have HNL : Hid (N.length = blocks.length) := by rw [← hN]; exact numF_len _ _ _
        have HNI : Hid (∀ z ∈ N, I64 z) := by rw [← hN]; exact numF_i64 _ _ _ (by omega)
        rw [hE, hN] at hT
        have HN := hideP hN
        have HE := hideP hE
        rw [hE]
        clear hN hE hlt hgk
        go_wp2
        go_loopg [8] L.length (fun hk ix wr2 => ∃ i : Nat, hk + i = L.length ∧ ix = .int .i64 i ∧ Hid (TB Wb gL kL gN L N (.slice (some ⟨gq, 0, none⟩) L.length cq) (reUp N rows i) wr2))
        case atStart => exact ⟨0, by simp, rfl, hT.out⟩
        case round =>
          obtain ⟨i, hi, rfl, hT2⟩ := hrel
          clear hT
          by_cases hlt : i < L.length
          · have hir : i < rows.length := by rw [HE.out]; exact hlt
            obtain ⟨X, hX⟩ : ∃ X, rows[i] = X := ⟨_, rfl⟩
            obtain ⟨ux, kx, code, jump, a, t0, els⟩ := X
            have hi0 : (reUp N rows i)[i]'(by rw [reUp_len]; exact hir) = (ux, kx, (⟨code, jump, a, t0, els⟩ : Blk)) := by rw [reUp_ge N rows i i (Nat.le_refl _) hir]; exact hX
            obtain ⟨b0, b1, b2, b3, b4, bf⟩ := bl_at hT2.out.own i (by rw [reUp_len]; exact hir) hi0
            have hzi := HIN.out _ (List.getElem_mem hlt)
            have hzb : L[i].toNat < blocks.length := by have := hzi.1; have := hzi.2; omega
            have hmem : (⟨code, jump, a, t0, els⟩ : Blk) ∈ blocks := by
              have := (hR.out i hir).1
              rw [hX, getElem!_pos L i hlt, getElem!_pos blocks _ hzb] at this
              simp only at this
              rw [this]; exact List.getElem_mem _
            obtain ⟨j1, j2, j3⟩ := JT.out _ hmem
            simp only at j1 j2 j3
            have HX := hideP hX
            have hil : i < (reUp N rows i).length := by rw [reUp_len]; exact hir
            have HI0 := hideP hi0
            clear hmem hzi hzb hX hi0 b0 b2
            rcases j3 with rfl | rfl | rfl
            · have hjt := j1 (Or.inl rfl)
              obtain ⟨zt, rfl⟩ : ∃ zt : Nat, t0 = (zt : Int) := ⟨t0.toNat, by have := hjt.1; omega⟩
              have hzl : zt < blocks.length := by have := hjt.2; omega
              obtain ⟨nc, nf⟩ := hT2.out.num.at (i := zt) (by rw [HNL.out]; exact hzl)
              have O2' : Hid (OwnE BlE (wr.setCell ⟨gq, i * 5 + 3, none⟩ (.int .i64 (N[zt]!))) Wb.heap.size (.slice (some ⟨gq, 0, none⟩) L.length cq) (reUp N rows (i + 1))) := by
                rw [reUp_zero hir HX.out]
                exact hT2.out.own.setR BlE_ok hil (r := 3) (by decide) (by rw [HI0.out]; rfl)
              have T3 := hideP (hT2.out.own_set rfl O2'.out)
              obtain ⟨y, hy⟩ : ∃ y, N[zt]! = y := ⟨_, rfl⟩
              rw [hy] at nc T3
              clear j1 j2 O2' hT2 hy
              go_wp2
              go_roundg (L.length - (i + 1))
              case rel => exact ⟨i + 1, by omega, by go_num, T3.out⟩
              case measure => omega
            · have hjt := j1 (Or.inr rfl)
              have hje := j2 rfl
              obtain ⟨zt, rfl⟩ : ∃ zt : Nat, t0 = (zt : Int) := ⟨t0.toNat, by have := hjt.1; omega⟩
              obtain ⟨ze, rfl⟩ : ∃ ze : Nat, els = (ze : Int) := ⟨els.toNat, by have := hje.1; omega⟩
              have hzl : zt < blocks.length := by have := hjt.2; omega
              have hel : ze < blocks.length := by have := hje.2; omega
              obtain ⟨nc, nf⟩ := hT2.out.num.at (i := zt) (by rw [HNL.out]; exact hzl)
              have O2' : Hid (OwnE BlE (wr.setCell ⟨gq, i * 5 + 3, none⟩ (.int .i64 (N[zt]!))) Wb.heap.size (.slice (some ⟨gq, 0, none⟩) L.length cq) ((reUp N rows i).set i (ux, kx, (⟨code, 1, a, N[zt]!, (ze : Int)⟩ : Blk)))) := hT2.out.own.setR BlE_ok hil (r := 3) (by decide) (by rw [HI0.out]; rfl)
              have T3 := hideP (hT2.out.own_set rfl O2'.out)
              have RU : Hid (reUp N rows (i + 1) = ((reUp N rows i).set i (ux, kx, (⟨code, 1, a, N[zt]!, (ze : Int)⟩ : Blk))).set i (ux, kx, (⟨code, 1, a, N[zt]!, N[ze]!⟩ : Blk))) := reUp_one hir HX.out
              obtain ⟨y, hy⟩ : ∃ y, N[zt]! = y := ⟨_, rfl⟩
              rw [hy] at nc T3 RU
              clear j1 j2 O2' hT2 hy
              go_upto_region 17 with fail
              obtain ⟨wa, hwa⟩ : ∃ wa, wr.setCell ⟨gq, i * 5 + 3, none⟩ (.int .i64 y) = wa := ⟨_, rfl⟩
              rw [hwa] at T3 ⊢
              clear hwa nc nf b1 b3 b4 bf
              have hil2 : i < ((reUp N rows i).set i (ux, kx, (⟨code, 1, a, y, (ze : Int)⟩ : Blk))).length := by rw [List.length_set]; exact hil
              have hi2 : ((reUp N rows i).set i (ux, kx, (⟨code, 1, a, y, (ze : Int)⟩ : Blk)))[i] = (ux, kx, (⟨code, 1, a, y, (ze : Int)⟩ : Blk)) := List.getElem_set_self _
              obtain ⟨b0, b1, b2, b3, b4, bf⟩ := bl_at T3.out.own i hil2 hi2
              obtain ⟨nc, nf⟩ := T3.out.num.at (i := ze) (by rw [HNL.out]; exact hel)
              have O4' : Hid (OwnE BlE (wa.setCell ⟨gq, i * 5 + 4, none⟩ (.int .i64 (N[ze]!))) Wb.heap.size (.slice (some ⟨gq, 0, none⟩) L.length cq) (reUp N rows (i + 1))) := by
                rw [RU.out]
                exact T3.out.own.setR BlE_ok hil2 (r := 4) (by decide) (by rw [hi2]; rfl)
              have T4 := hideP (T3.out.own_set rfl O4'.out)
              obtain ⟨y2, hy2⟩ : ∃ y2, N[ze]! = y2 := ⟨_, rfl⟩
              rw [hy2] at nc T4
              clear O4' T3 RU hy2 hi2 hil2 b0 b2 b3
              go_wp2
              go_roundg (L.length - (i + 1))
              case rel => exact ⟨i + 1, by omega, by go_num, T4.out⟩
              case measure => omega
            · have RU : Hid (reUp N rows (i + 1) = reUp N rows i) := reUp_two hir HX.out
              go_wp2
              go_roundg (L.length - (i + 1))
              case rel => exact ⟨i + 1, by omega, by go_num, by show TB _ _ _ _ _ _ _ _ _; rw [RU.out]; exact hT2.out⟩
              case measure => omega
          · have hiL : i = L.length := by omega
            subst hiL
            have lowq := hT2.out.own.low gq rfl
            have bel := hT2.out.bel
            have ob := (bel.block w1.heap.size (by omega)).trans O2.out
            have d0 := (cells_of ob).1 4
            have df := (cells_of ob).2
            simp at d0
            have ob2 := heap_setCell_same wr w1.heap.size 4 _ _ (.slice (some ⟨gq, 0, none⟩) L.length cq) ob
            have OB : Hid ((wr.setCell ⟨w1.heap.size, 4, none⟩ (.slice (some ⟨gq, 0, none⟩) L.length cq)).heap[w1.heap.size]? = some (.cells #[.slice us1 sizes.length cs1, .int .i64 p, .int .i64 q, .int .i64 r, .slice (some ⟨gq, 0, none⟩) L.length cq] 29 (0, 0))) := ob2
            have rr := (bel.block _ (hltH R2.out)).trans R2.out
            have hr1 := hltH R2.out
            have RS : Hid ((wr.setCell ⟨w1.heap.size, 4, none⟩ (.slice (some ⟨gq, 0, none⟩) L.length cq)).heap[w.heap.size + 1]? = some (.cells #[.slice none 0 0, .int .i64 0, .int .i64 0, .int .i64 0, .slice none 0 0] 29 (0, 0))) := (Below.heap_setCell wr ⟨w1.heap.size, 4, none⟩ _ _ (by simp only; have := HWb.out.size; have := L1; omega)).trans rr
            have BW1 : Hid (Below w1.heap.size w1 (wr.setCell ⟨w1.heap.size, 4, none⟩ (.slice (some ⟨gq, 0, none⟩) L.length cq))) := (below_trans A2.out bel).setCell (p := ⟨w1.heap.size, 4, none⟩) (Nat.le_refl _) _
            have BWB : Hid (Below w.heap.size w (wr.setCell ⟨w1.heap.size, 4, none⟩ (.slice (some ⟨gq, 0, none⟩) L.length cq))) := (below_trans HWb.out bel).setCell (p := ⟨w1.heap.size, 4, none⟩) (by simp only; have := L1; omega) _
            have OW : OwnE BlE (wr.setCell ⟨w1.heap.size, 4, none⟩ (.slice (some ⟨gq, 0, none⟩) L.length cq)) Wb.heap.size (.slice (some ⟨gq, 0, none⟩) L.length cq) (reUp N rows L.length) := hT2.out.own.blk (fun k hk hkl => Below.heap_setCell wr ⟨w1.heap.size, 4, none⟩ _ k (by have := hT2.out.own.low k hk; simp only; omega))
            have hRr : (rowB blocks L).length = L.length := by simp [rowB]
            have ROK : RowsOk w1 (w.heap.size + 2) blocks L (reUp N rows L.length) := by
              rw [← HN.out]
              exact reUp_ok hR.out HE.out (by rw [HN.out]; exact HNI.out) (fun b hb => ⟨(JT.out b hb).1, (JT.out b hb).2.1⟩) HIN.out
            have GI : Hid (GrIs (wr.setCell ⟨w1.heap.size, 4, none⟩ (.slice (some ⟨gq, 0, none⟩) L.length cq)) (w.heap.size + 2) #[.slice us1 sizes.length cs1, .int .i64 p, .int .i64 q, .int .i64 r, .slice (some ⟨gq, 0, none⟩) L.length cq] ⟨sizes, p, q, r, rowB blocks L⟩) := ⟨us1, cs1, some ⟨gq, 0, none⟩, cq, by simp only [hRr], HWF.out, HS1.out.stays BW1.out, rows_isB OW ROK (by rw [reUp_len]; exact HE.out) hLn BW1.out (Nat.le_refl _) (by have := L1; omega)⟩
            clear lowq bel ob ob2 rr OW ROK hRr hT2 BW1
            go_upto_region 20 with fail
            obtain ⟨wz, hwz⟩ : ∃ wz, wr.setCell ⟨w1.heap.size, 4, none⟩ (.slice (some ⟨gq, 0, none⟩) L.length cq) = wz := ⟨_, rfl⟩
            rw [hwz] at OB RS BWB GI ⊢
            clear hwz d0 df
            have d0 := (cells_of OB.out).1 0
            have d1 := (cells_of OB.out).1 1
            have d2 := (cells_of OB.out).1 2
            have d3 := (cells_of OB.out).1 3
            have d4 := (cells_of OB.out).1 4
            have z := RS.out
            have r0 := (cells_of z).1 0
            have r1 := (cells_of z).1 1
            have r2 := (cells_of z).1 2
            have r3 := (cells_of z).1 3
            have r4 := (cells_of z).1 4
            have rf := (cells_of z).2
            simp at d0 d1 d2 d3 d4 r0 r1 r2 r3 r4
            have z0 := heap_setCell_same wz _ 0 _ _ (.slice us1 sizes.length cs1) z
            have z1 := heap_setCell_same _ _ 1 _ _ (.int .i64 p) z0
            have z2 := heap_setCell_same _ _ 2 _ _ (.int .i64 q) z1
            have z3 := heap_setCell_same _ _ 3 _ _ (.int .i64 r) z2
            have z4 : (((((wz.setCell ⟨w.heap.size + 1, 0, none⟩ (.slice us1 sizes.length cs1)).setCell ⟨w.heap.size + 1, 1, none⟩ (.int .i64 p)).setCell ⟨w.heap.size + 1, 2, none⟩ (.int .i64 q)).setCell ⟨w.heap.size + 1, 3, none⟩ (.int .i64 r)).setCell ⟨w.heap.size + 1, 4, none⟩ (.slice (some ⟨gq, 0, none⟩) L.length cq)).heap[w.heap.size + 1]? = some (.cells #[.slice us1 sizes.length cs1, .int .i64 p, .int .i64 q, .int .i64 r, .slice (some ⟨gq, 0, none⟩) L.length cq] 29 (0, 0)) := heap_setCell_same _ _ 4 _ _ (.slice (some ⟨gq, 0, none⟩) L.length cq) z3
            have ZF := hideP z4
            have BU : Hid (But (w.heap.size + 1) wz (((((wz.setCell ⟨w.heap.size + 1, 0, none⟩ (.slice us1 sizes.length cs1)).setCell ⟨w.heap.size + 1, 1, none⟩ (.int .i64 p)).setCell ⟨w.heap.size + 1, 2, none⟩ (.int .i64 q)).setCell ⟨w.heap.size + 1, 3, none⟩ (.int .i64 r)).setCell ⟨w.heap.size + 1, 4, none⟩ (.slice (some ⟨gq, 0, none⟩) L.length cq))) := ((((((But.refl (w.heap.size + 1) wz).set 0 (.slice us1 sizes.length cs1)).set 1 (.int .i64 p)).set 2 (.int .i64 q)).set 3 (.int .i64 r)).set 4 (.slice (some ⟨gq, 0, none⟩) L.length cq))
            clear z z0 z1 z2 z3 z4
            go_wp2
            refine bodyPost_ret (results_cell_row rfl _ _ (w.heap.size + 1) 29 #[.slice us1 sizes.length cs1, .int .i64 p, .int .i64 q, .int .i64 r, .slice (some ⟨gq, 0, none⟩) L.length cq] (0, 0) _ rfl ZF.out Try.underlying29 rfl (by kernel_rfl)) rfl ?_
            rw [E.out]
            have hz9 := hltH RS.out
            exact ⟨_, rfl, GrKeeps.mono (GrKeeps.but GI.out (by omega) BU.out) (by omega), BWB.out.trans (BU.out.below (by omega) (by omega))⟩
theorem spec_trim (x : Gr) (w : World) (B : Nat) (v : Array Value) (h : GrIs w B v x) (GO : OkIs 23 x) (hf : Fits x) :
    Calls Try.prog 8 #[.agg v] w fun en w' => ∃ v', en = .returned (.agg v') ∧ GrIs w' w.heap.size v' (trimP x) ∧ Below w.heap.size w w' := spec_trim0 x w B v h GO hf
end Go.Proofs.Ytljeahjcfbcbgaa
