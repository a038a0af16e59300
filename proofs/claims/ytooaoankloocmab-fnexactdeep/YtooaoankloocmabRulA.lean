/- Chapter 10: rows of truths: which block rules which. -/
import Derived.Test.YtooaoankloocmabBlsA
import Derived.Test.YtooaoankloocmabOwnA
import Derived.Deep.RegionHeld3
import Derived.Deep.LoopGhost
import Derived.Test.YtooaoankloocmabPlA
import Derived.Test.YtooaoankloocmabOrdPA
namespace Go.Proofs.Ytooaoankloocmab
open Go.ChangeShapes Go.WideShapes Go.ChangeAt Go.RowKit
/-- Block i rules block k. -/
def Rul (xs : List Blk) (i k : Int) : Prop := Reach xs i ∧ Reach xs k ∧ ¬ (i ≠ 0 ∧ ReaW xs 0 i k)
noncomputable def rulB (xs : List Blk) (i k : Int) : Bool := @decide (Rul xs i k) (Classical.propDecidable _)
noncomputable def comeB (xs : List Blk) (k : Int) : Bool := @decide (Reach xs k) (Classical.propDecidable _)
theorem rulB_iff {xs : List Blk} {i k : Int} : rulB xs i k = true ↔ Rul xs i k := by unfold rulB; exact @decide_eq_true_iff _ (Classical.propDecidable _)
theorem comeB_iff {xs : List Blk} {k : Int} : comeB xs k = true ↔ Reach xs k := by unfold comeB; exact @decide_eq_true_iff _ (Classical.propDecidable _)
/-- Block g is a row of truths, the first n as f says. -/
def RowT (w : World) (g n : Nat) (f : Nat → Bool) : Prop := ∃ cur : Array Value, w.heap[g]? = some (.cells cur 4 (0, 0)) ∧ n ≤ cur.size ∧ ∀ i, i < n → cur[i]? = some (.bool (f i))
section
variable {w w' : World} {g n : Nat} {f f' : Nat → Bool}
theorem RowT.lt (h : RowT w g n f) : g < w.heap.size := let ⟨_, h1, _⟩ := h; (Array.getElem?_eq_some_iff.1 h1).1
theorem RowT.keep (h : RowT w g n f) (hk : w'.heap[g]? = w.heap[g]?) : RowT w' g n f := let ⟨c, h1, h2⟩ := h; ⟨c, hk.trans h1, h2⟩
theorem RowT.stays (h : RowT w g n f) (b : Below w.heap.size w w') : RowT w' g n f := h.keep (b.block _ h.lt)
theorem RowT.congr (h : RowT w g n f) (e : ∀ i, i < n → f i = f' i) : RowT w g n f' := let ⟨c, h1, h2, h3⟩ := h; ⟨c, h1, h2, fun i hi => by rw [← e i hi]; exact h3 i hi⟩
theorem RowT.at (h : RowT w g n f) {i : Nat} (hi : i < n) : w.cell? ⟨g, i, none⟩ = some (.bool (f i)) ∧ w.frozen? ⟨g, i, none⟩ = false := by
  obtain ⟨cur, hh, _, hc⟩ := h
  exact ⟨by simp [World.cell?, hh, hc i hi], by simp [World.frozen?, hh]⟩
theorem RowT.set (h : RowT w g n f) {i : Nat} (hi : i < n) {b : Bool} (e : ∀ j, j < n → f' j = if j = i then b else f j) : RowT (w.setCell ⟨g, i, none⟩ (.bool b)) g n f' := by
  obtain ⟨cur, hh, hs, hc⟩ := h
  refine ⟨_, heap_setCell_same w g i cur _ _ hh, by simpa using hs, fun j hj => ?_⟩
  rw [Array.getElem?_setIfInBounds, e j hj]
  by_cases he : i = j
  · subst he; rw [if_pos rfl, if_pos (by omega), if_pos rfl]
  · rw [if_neg he, hc j hj, if_neg (fun e => he e.symm)]
theorem SeenB.row {met : List Int} (h : SeenB w g n met) : RowT w g n (fun i => decide ((i : Int) ∈ met)) := h
theorem RowT.seen (h : RowT w g n (fun _ => false)) : SeenB w g n [] := h.congr (fun i _ => by simp)
end
theorem infoBR : (Try.prog.info? 4).map (fun i => (i.zero, i.size, i.bytes)) = some (some (.bool false), 1, 1) := by kernel_rfl
theorem make_boolR (V : Nat) (hV : V ≤ 1000) (W : World) : (Instr.makeSlice 72 (.int .i64 (V : Int)) (.int .i64 (V : Int))).run Try.prog W = .ok (.slice (some ⟨W.heap.size, 0, none⟩) V V) (W.alloc (.cells (madeCells #[.bool false] V) 4)) := by
  have := make_n (P := Try.prog) Try.underlying72 infoBR V (by omega) (by omega) W
  rw [Nat.mul_one] at this
  exact this
theorem made_row (w : World) (n : Nat) : RowT (w.alloc (.cells (madeCells #[.bool false] n) 4)) w.heap.size n (fun _ => false) :=
  ⟨_, by show (w.heap.push _)[w.heap.size]? = _; exact Array.getElem?_push_size, by rw [size_madeCells]; exact Nat.le_refl _, fun s hs => by simp [madeCells, hs, Nat.mod_one]⟩
/-- The rows, as slices of n truths. -/
def RbE (n : Nat) : Elem Nat := { T := 72, ST := 56, sz := 1, bys := 24, z := .slice none 0 0, cs := fun q => [.slice (some ⟨q, 0, none⟩) n n] }
theorem RbOk (n : Nat) : (RbE n).Ok where
  und := Try.underlying56
  info := by kernel_rfl
  zs := rfl
  pos := by show 0 < 1; decide
  few := by show 24 ≤ 1000; decide
  len := fun _ => rfl
  one := fun x u hu => by simp [RbE] at hu; rw [hu]; rfl
/-- The box of the graph, what one comes to, the rows and what they tell. -/
structure RuAt (w : World) (n : Nat) (bv : Array Value) (C : Nat → Bool) (v : Value) (rows : List Nat) (F : Nat → Nat → Bool) (W : World) : Prop where
  own : OwnE (RbE n) W (w.heap.size + 1) v rows
  row : ∀ i (hi : i < rows.length), RowT W rows[i] n (F i) ∧ w.heap.size + 1 ≤ rows[i]
  come : RowT W (w.heap.size + 1) n C
  box : W.heap[w.heap.size]? = some (.cells bv 30 (0, 0))
  bel : Below w.heap.size w W
section
variable {w W W' : World} {n : Nat} {bv : Array Value} {C : Nat → Bool} {v v' : Value} {rows : List Nat} {F : Nat → Nat → Bool}
theorem RuAt.lt (h : RuAt w n bv C v rows F W) : w.heap.size + 1 < W.heap.size := h.come.lt
theorem RuAt.stays (h : RuAt w n bv C v rows F W) (b : Below W.heap.size W W') : RuAt w n bv C v rows F W' :=
  ⟨h.own.stays b, fun i hi => ⟨(h.row i hi).1.stays b, (h.row i hi).2⟩, h.come.stays b, (b.block _ (Array.getElem?_eq_some_iff.1 h.box).1).trans h.box, below_trans h.bel b⟩
theorem RuAt.ne {g k : Nat} {f : Nat → Bool} (h : RuAt w n bv C v rows F W) (hv : v.ownBlock = some g) (hr : RowT W k n f) : k ≠ g := fun e => by
  obtain ⟨g', cap, cur, rfl, _, hh, _⟩ := h.own.parts (RbOk n)
  obtain ⟨c, h1, _⟩ := hr
  have e2 : g' = g := by simpa [Value.ownBlock] using hv
  subst e2 e
  rw [hh] at h1
  injection h1 with h1
  injection h1 with _ h2
  exact absurd h2 (by show ¬ ((72 : Nat) = 4); decide)
/-- One row more. -/
theorem RuAt.grow {gr : Nat} {o : Obj} (h : RuAt w n bv C v rows F W) (hr : RowT W gr n (F rows.length)) (hg0 : w.heap.size + 1 ≤ gr) (ho : OwnE (RbE n) W' (w.heap.size + 1) v' (rows ++ [gr])) (hg : (W.alloc o).grownBy W' v.ownBlock) : RuAt w n bv C v' (rows ++ [gr]) F W' := by
  have b2 : Below W.heap.size W (W.alloc o) := (Below.refl _ _).alloc (Nat.le_refl _) _
  have h2 := h.stays b2
  obtain ⟨g, cap, hv, _⟩ := id h2.own
  have hvo : v.ownBlock = some g := by rw [hv]; rfl
  have kp : ∀ {k : Nat} {f : Nat → Bool}, RowT (W.alloc o) k n f → RowT W' k n f := fun {k f} hk => hk.keep (hg.block _ hk.lt (by rw [hvo]; intro e; injection e with e; exact h2.ne hvo hk e))
  have hlo := h2.own.low g hvo
  have hbx := (Array.getElem?_eq_some_iff.1 h2.box).1
  refine ⟨ho, fun i hi => ?_, kp h2.come, (hg.block _ hbx (by rw [hvo]; intro e; injection e with e; omega)).trans h2.box, h2.bel.grown hg h2.bel.size (fun b' hb' => by rw [hvo] at hb'; injection hb' with e; omega)⟩
  by_cases e : i < rows.length
  · rw [List.getElem_append_left e]
    exact ⟨kp (h2.row i e).1, (h2.row i e).2⟩
  · have e2 : i = rows.length := by rw [List.length_append, List.length_singleton] at hi; omega
    subst e2
    rw [List.getElem_append_right (Nat.le_refl _)]
    simp only [Nat.sub_self, List.getElem_cons_zero]
    exact ⟨kp (hr.stays b2), hg0⟩
end
end Go.Proofs.Ytooaoankloocmab

/- The contract of spec.l10Rules (written by wip/mkruls.py). -/
namespace Go.Proofs.Ytooaoankloocmab
open Go.ChangeShapes Go.WideShapes Go.ChangeAt Go.RowKit
/-- What it tells: rows of truths in memory of its own. -/
def RulMade (w : World) (xs : List Blk) (en : Ending) (w' : World) : Prop := ∃ v' rows, en = .returned v' ∧ rows.length = xs.length ∧ OwnE (RbE xs.length) w' (w.heap.size + 1) v' rows ∧ (∀ i (hi : i < rows.length), RowT w' rows[i] xs.length (fun k => rulB xs (i : Int) (k : Int)) ∧ w.heap.size + 1 ≤ rows[i]) ∧ Below w.heap.size w w'
theorem upto_come {R : List Int} {j : Nat} (hj : j < R.length) {z : Nat} (hz : R[j] = (z : Int)) (k : Nat) : decide ((k : Int) ∈ R.take (j + 1)) = if k = z then true else decide ((k : Int) ∈ R.take j) := by
  rw [List.take_succ_eq_append_getElem hj, hz]
  by_cases e : k = z
  · subst e; simp
  · rw [if_neg e]
    have : ((k : Int) ∈ R.take j ++ [(z : Int)]) ↔ ((k : Int) ∈ R.take j) := by
      rw [List.mem_append, List.mem_singleton]
      exact ⟨fun h => h.resolve_right (by omega), Or.inl⟩
    simp [this]
theorem rul_val {xs : List Blk} {i k : Nat} {wi : Bool} (hw : wi = true ↔ ((i : Int) ≠ 0 ∧ ReaW xs 0 i k)) : rulB xs i k = (comeB xs i && comeB xs k && !wi) := by
  rw [Bool.eq_iff_iff, rulB_iff, Bool.and_eq_true, Bool.and_eq_true, comeB_iff, comeB_iff, Bool.not_eq_true', ← Bool.not_eq_true, hw]
  unfold Rul
  rw [and_assoc]
set_option maxHeartbeats 8000000 in
set_option maxRecDepth 100000 in
theorem spec_rules (g : Gr) (w : World) (B : Nat) (v : Array Value) (h : GrIs w B v g) (ok : grOk g = true) (GO : OkIs 18 g) :
    Calls Try.prog 31 #[.agg v] w fun en w' => RulMade w g.blocks en w' := by
  have HG := hideP h
  have hb0 := grOk_blocks ok
  obtain ⟨R, hR⟩ : ∃ R, blocksP g = R := ⟨_, rfl⟩
  have BL : Hid (∀ W, Below w.heap.size w W → Calls Try.prog 32 #[.agg v] W fun en w' => ∃ gl cl, en = .returned (.slice (some ⟨gl, 0, none⟩) R.length cl) ∧ OwnI w' W.heap.size (.slice (some ⟨gl, 0, none⟩) R.length cl) R ∧ Below W.heap.size W w') := fun W hW => by
    refine (spec_blocks g W B v (GrKeeps.stays h hW) GO).mono ?_
    rintro en w' ⟨v', he, ho, hb⟩
    rw [hR] at ho
    obtain ⟨gl, cl, rfl, _⟩ := id ho
    exact ⟨gl, cl, he, ho, hb⟩
  have SPR : Hid (∀ (W0 W : World), Below w.heap.size w W0 → Below W0.heap.size W0 W → ∀ (i gs : Nat), W0.heap.size ≤ gs → SeenB W gs g.blocks.length [] → Calls Try.prog 56 #[.agg v, .int .i64 0, .int .i64 (i : Int), .slice (some ⟨gs, 0, none⟩) g.blocks.length g.blocks.length] W fun en w' => ∃ met, en = .returned (.tuple #[]) ∧ SeenB w' gs g.blocks.length met ∧ (∀ y, y ∈ met ↔ ReaW g.blocks 0 i y) ∧ But gs W w') := fun W0 W h0 h1 i gs hgs hs => by
    have := spec_spread g W0 W B v (GrKeeps.stays h h0) ok h1 0 (i : Int) gs g.blocks.length (by omega) hgs hs
    simpa using this
  have MR : Hid (∀ y : Int, y ∈ R ↔ Reach g.blocks y) := fun y => by
    rw [← hR]; unfold blocksP; rw [addAll_mem, order_mem ok]
  have INR : Hid (∀ y ∈ R, InR g.blocks.length y) := fun y hy => reach_in ok ((MR.out y).1 hy)
  have hRl : R.length ≤ 300 := by rw [← hR]; exact blocksP_few g
  clear hR
  obtain ⟨sizes, params, vars, slots, blocks⟩ := g
  obtain ⟨us, cs, ub, cb, rfl, _, _, _⟩ := h
  simp only at *
  have hm := maxLen_lt
  have hmk := make_boolR blocks.length (by omega)
  have AL1 := hideP (below2 w (.cells #[.slice us sizes.length cs, .int .i64 params, .int .i64 vars, .int .i64 slots, .slice ub blocks.length cb] 30) (.cells (madeCells #[.bool false] blocks.length) 4))
  have BX1 := hideP (two (w := w) (o1 := .cells #[.slice us sizes.length cs, .int .i64 params, .int .i64 vars, .int .i64 slots, .slice ub blocks.length cb] 30) (o2 := .cells (madeCells #[.bool false] blocks.length) 4) (Below.refl _ _)).1
  have RC : Hid (RowT ((w.alloc (.cells #[.slice us sizes.length cs, .int .i64 params, .int .i64 vars, .int .i64 slots, .slice ub blocks.length cb] 30)).alloc (.cells (madeCells #[.bool false] blocks.length) 4)) (w.heap.size + 1) blocks.length (fun _ => false)) := by
    have := made_row (w.alloc (.cells #[.slice us sizes.length cs, .int .i64 params, .int .i64 vars, .int .i64 slots, .slice ub blocks.length cb] 30)) blocks.length
    show RowT _ _ _ _
    simpa using this
  clear HG
  go_enter Try.func31, Try.ntmps31
  go_wp2_with fail
  refine (BL.out _ AL1.out).mono ?_
  rintro e1 w1 ⟨gl, cl, rfl, o1, b1⟩
  have BX := hideP ((b1.block _ (Array.getElem?_eq_some_iff.1 BX1.out).1).trans BX1.out)
  have RC1 := hideP (RC.out.stays b1)
  have BW := hideP (below_trans AL1.out b1)
  have hgl := o1.low gl rfl
  simp at hgl
  have N2 := hideP o1.is.2.sees
  clear o1 b1 BX1 RC AL1 BL
  go_wp2
  go_loopg [6] R.length (fun hk ix wr => ∃ j : Nat, hk + j = R.length ∧ ix = .int .i64 j ∧ Hid (RowT wr (w.heap.size + 1) blocks.length (fun k => decide ((k : Int) ∈ R.take j))) ∧ Hid (But (w.heap.size + 1) w1 wr))
  case atStart => exact ⟨0, by simp, rfl, RC1.out.congr (fun i _ => by simp), But.refl _ _⟩
  case round =>
    obtain ⟨j, hj, rfl, hrow, hbut⟩ := hrel
    by_cases hlt : j < R.length
    · obtain ⟨b', o', he, hc⟩ := N2.out.get j hlt
      cases he
      rw [Nat.zero_add] at hc
      have hz := INR.out _ (List.getElem_mem hlt)
      obtain ⟨z, hzl⟩ : ∃ z : Nat, R[j] = (z : Int) := ⟨R[j].toNat, by have := hz.1; omega⟩
      have UP := hideP (upto_come hlt hzl)
      rw [hzl] at hc hz
      have hzb : z < blocks.length := by have := hz.2; omega
      have hcz : wr.cell? ⟨gl, j, none⟩ = some (.int .i64 (z : Int)) := (World.cell?_of_block (w := w1) (w' := wr) (a := ⟨gl, j, none⟩) (hbut.out.block gl (by omega) (by omega))).trans hc
      obtain ⟨m1, f1⟩ := hrow.out.at hzb
      have R2 := hideP (hrow.out.set (f' := fun k => decide ((k : Int) ∈ R.take (j + 1))) hzb (b := true) (fun k _ => UP.out k))
      have B2 := hideP (hbut.out.set z (.bool true))
      clear hc hz hzl
      go_wp2
      go_roundg (R.length - (j + 1))
      case rel => exact ⟨j + 1, by omega, by go_num, R2.out, B2.out⟩
      case measure => omega
    · have hjn : j = R.length := by omega
      subst hjn
      have CM : Hid (RowT wr (w.heap.size + 1) blocks.length (fun k => comeB blocks (k : Int))) := hrow.out.congr (fun k _ => by
        rw [List.take_length, Bool.eq_iff_iff, comeB_iff, decide_eq_true_iff]; exact MR.out _)
      have BX3 := hideP ((hbut.out.block w.heap.size (Array.getElem?_eq_some_iff.1 BX.out).1 (by omega)).trans BX.out)
      have BW3 := hideP (BW.out.trans (hbut.out.below (by omega) BW.out.size))
      have I0 : Hid (RuAt w blocks.length #[.slice us sizes.length cs, .int .i64 params, .int .i64 vars, .int .i64 slots, .slice ub blocks.length cb] (fun k => comeB blocks (k : Int)) (.slice (some ⟨wr.heap.size, 0, none⟩) 0 0) [] (fun i k => rulB blocks (i : Int) (k : Int)) (wr.alloc (.cells #[] 72))) := by
        have h2 := own_nil (RbOk blocks.length) wr wr.heap.size rfl
        have b2 : Below wr.heap.size wr (wr.alloc (.cells #[] 72)) := (Below.refl _ _).alloc (Nat.le_refl _) _
        have hl := CM.out.lt
        exact ⟨h2.mono (by omega), fun i hi => absurd hi (Nat.not_lt_zero _), CM.out.stays b2, (b2.block _ (by omega)).trans BX3.out, below_trans BW3.out b2⟩
      clear hrow hbut BX BW RC1 N2 INR MR CM BX3 BW3 hgl
      obtain ⟨wa, hwa⟩ : ∃ wa, wa = wr := ⟨_, rfl⟩
      subst hwa
      go_wp2
      go_loopg [7, 8] blocks.length (fun hk v ix wr => ∃ (j : Nat) (rows : List Nat), hk + j = blocks.length ∧ ix = .int .i64 j ∧ rows.length = j ∧ Hid (RuAt w blocks.length #[.slice us sizes.length cs, .int .i64 params, .int .i64 vars, .int .i64 slots, .slice ub blocks.length cb] (fun k => comeB blocks (k : Int)) v rows (fun i k => rulB blocks (i : Int) (k : Int)) wr))
      case atStart => exact ⟨0, [], by simp, rfl, rfl, I0.out⟩
      case round =>
        obtain ⟨j, rows, hj, rfl, hrl, hI⟩ := hrel
        have HRL := hideP hrl
        clear I0 hrl
        obtain ⟨wo, hwo⟩ : ∃ wo, wo = wr := ⟨_, rfl⟩
        subst hwo
        by_cases hlt : j < blocks.length
        · obtain ⟨g0, k0, hv0, _⟩ := id hI.out.own
          subst hv0
          have AX := hideP ((Below.refl wo.heap.size wo).alloc (Nat.le_refl _) (.cells (madeCells #[.bool false] blocks.length) 4))
          have SN : Hid (SeenB (wo.alloc (.cells (madeCells #[.bool false] blocks.length) 4)) wo.heap.size blocks.length []) := (made_row wo blocks.length).seen
          by_cases hj0 : j = 0
          · obtain ⟨wi, hwi⟩ : ∃ wi : Nat → Bool, wi = fun _ => false := ⟨_, rfl⟩
            have HWI : Hid (∀ k : Nat, wi k = true ↔ ((j : Int) ≠ 0 ∧ ReaW blocks 0 (j : Int) (k : Int))) := fun k => by rw [hwi, hj0]; simp
            have RW : Hid (RowT (wo.alloc (.cells (madeCells #[.bool false] blocks.length) 4)) wo.heap.size blocks.length wi) := by rw [hwi]; exact made_row wo blocks.length
            obtain ⟨w2, hw2⟩ : ∃ w2, wo.alloc (.cells (madeCells #[.bool false] blocks.length) 4) = w2 := ⟨_, rfl⟩
            rw [hw2] at AX RW
            have B2 := AX
            have HJ0 := hideP hj0
            have hjb : ((j : Int) == 0) = true := by rw [hj0]; rfl
            clear hwi SN AX hj0
            go_upto_region 15 with fail
            clear hw2
            have A3 := hideP (B2.out.alloc B2.out.size (.cells (madeCells #[.bool false] blocks.length) 4))
            have R3 := hideP (made_row w2 blocks.length)
            have RW3 := hideP (RW.out.stays ((Below.refl w2.heap.size w2).alloc (Nat.le_refl _) (.cells (madeCells #[.bool false] blocks.length) 4)))
            have lw : wo.heap.size < w2.heap.size := RW.out.lt
            clear RW B2
            obtain ⟨w3, hw3⟩ : ∃ w3, w2.alloc (.cells (madeCells #[.bool false] blocks.length) 4) = w3 := ⟨_, rfl⟩
            have hs3 : w3.heap.size = w2.heap.size + 1 := by rw [← hw3]; simp
            rw [hw3] at A3 R3 RW3
            go_upto_region 16 with fail
            clear hw3
            go_wp2
            go_loopg [11] blocks.length (fun hk ix W => ∃ k : Nat, hk + k = blocks.length ∧ ix = .int .i64 k ∧ Hid (RowT W w2.heap.size blocks.length (fun t => if t < k then rulB blocks (j : Int) (t : Int) else false)) ∧ Hid (But w2.heap.size w3 W))
            case atStart => exact ⟨0, by simp, rfl, R3.out.congr (fun i _ => by simp), But.refl _ _⟩
            case round =>
              obtain ⟨k, hk, rfl, hrow, hbt⟩ := hrel
              have BB := hideP (A3.out.trans (hbt.out.below (Nat.le_of_lt lw) A3.out.size))
              have RI := hideP (hI.out.stays BB.out)
              by_cases hkl : k < blocks.length
              · have c1 := (RI.out.come.at hlt).1
                have c2 := (RI.out.come.at hkl).1
                have c3 := ((RW3.out.keep (w' := wr) (hbt.out.block _ RW3.out.lt (by omega))).at hkl).1
                obtain ⟨c4, f4⟩ := hrow.out.at hkl
                have VAL := rul_val (HWI.out k)
                have RR := hideP (hrow.out.set (f' := fun t => if t < k + 1 then rulB blocks (j : Int) (t : Int) else false) hkl (b := rulB blocks (j : Int) (k : Int)) (fun t _ => by
                  by_cases e1 : t = k
                  · subst e1; simp
                  · rw [if_neg e1]
                    by_cases e2 : t < k
                    · rw [if_pos (by omega), if_pos e2]
                    · rw [if_neg (by omega), if_neg e2]))
                have BT := hideP (hbt.out.set k (.bool (rulB blocks (j : Int) (k : Int))))
                rw [VAL] at RR BT
                clear VAL BB RI
                obtain ⟨p1, hp1⟩ : ∃ p, comeB blocks (j : Int) = p := ⟨_, rfl⟩
                obtain ⟨p2, hp2⟩ : ∃ p, comeB blocks (k : Int) = p := ⟨_, rfl⟩
                obtain ⟨p3, hp3⟩ : ∃ p, wi k = p := ⟨_, rfl⟩
                rw [hp1] at c1 RR BT
                rw [hp2] at c2 RR BT
                rw [hp3] at c3 RR BT
                clear hp1 hp2 hp3
                cases p1 <;> cases p2 <;> cases p3 <;> simp only [Bool.false_and, Bool.and_false, Bool.not_true, Bool.not_false, Bool.and_self] at RR BT
                all_goals go_wp2
                all_goals go_roundg (blocks.length - (k + 1))
                all_goals first
                  | exact ⟨k + 1, by omega, by go_num, RR.out, BT.out⟩
                  | omega
              · have hkn : k = blocks.length := by omega
                subst hkn
                have ROW : RowT wr w2.heap.size blocks.length (fun t => rulB blocks (j : Int) (t : Int)) := hrow.out.congr (fun t ht => if_pos ht)
                have al := (Below.refl wr.heap.size wr).alloc (Nat.le_refl _) (.cells #[.slice (some ⟨w2.heap.size, 0, none⟩) blocks.length blocks.length] 72)
                have OA := hideP (RI.out.own.stays al)
                have CQ : Hid (∀ r, r < (RbE blocks.length).sz → (wr.alloc (.cells #[.slice (some ⟨w2.heap.size, 0, none⟩) blocks.length blocks.length] 72)).cell? ⟨wr.heap.size, 0 + r, none⟩ = ((RbE blocks.length).cs w2.heap.size)[r]?) := fun r _ => by
                  have hn : (wr.alloc (.cells #[.slice (some ⟨w2.heap.size, 0, none⟩) blocks.length blocks.length] 72)).heap[wr.heap.size]? = some (.cells #[.slice (some ⟨w2.heap.size, 0, none⟩) blocks.length blocks.length] 72) := by show (wr.heap.push _)[wr.heap.size]? = _; exact Array.getElem?_push_size
                  have := (cells_of hn).1 r
                  rw [Nat.zero_add, this]; simp [RbE]
                have hsz1 : Hid (w.heap.size + 1 ≤ (wr.alloc (.cells #[.slice (some ⟨w2.heap.size, 0, none⟩) blocks.length blocks.length] 72)).heap.size) := by have := RI.out.lt; show _ ≤ _; simp; omega
                have hlo : w.heap.size + 1 ≤ w2.heap.size := by have := hI.out.lt; omega
                have GR := hideP (fun v' W' ho hg => RI.out.grow (v' := v') (W' := W') (o := (.cells #[.slice (some ⟨w2.heap.size, 0, none⟩) blocks.length blocks.length] 72)) (gr := w2.heap.size) (by rw [HRL.out]; exact ROW) hlo ho hg)
                clear al ROW RI BB hrow hbt RW3 R3 A3
                go_wp2_with (at_builtin; refine list_appE (RbOk blocks.length) _ rfl _ _ rfl (w.heap.size + 1) _ rows w2.heap.size wr.heap.size 0 1 rfl rfl OA.out CQ.out (by rw [HRL.out]; omega) hsz1.out ?_; intro v6 w6 o6 grow6 loc6)
                have S6 := hideP (GR.out v6 w6 o6 grow6)
                clear o6 grow6 loc6 OA CQ hsz1 GR
                go_wp2
                go_roundg (blocks.length - (j + 1))
                case rel => exact ⟨j + 1, _, by omega, by go_num, by rw [List.length_append, HRL.out]; rfl, S6.out⟩
                case measure => omega
          · have bxf := (cells_of ((AX.out.block _ (Array.getElem?_eq_some_iff.1 hI.out.box).1).trans hI.out.box)).1
            have y0 := bxf 0
            have y1 := bxf 1
            have y2 := bxf 2
            have y3 := bxf 3
            have y4 := bxf 4
            simp at y0 y1 y2 y3 y4
            clear bxf
            have hjb : ((j : Int) == 0) = false := by simpa using hj0
            go_wp2_with fail
            refine (SPR.out wo _ hI.out.bel AX.out j wo.heap.size (Nat.le_refl _) SN.out).mono ?_
            rintro e2 w2 ⟨met, rfl, sn2, mm, bt2⟩
            obtain ⟨wi, hwi⟩ : ∃ wi : Nat → Bool, (fun k : Nat => decide ((k : Int) ∈ met)) = wi := ⟨_, rfl⟩
            have HWI : Hid (∀ k : Nat, wi k = true ↔ ((j : Int) ≠ 0 ∧ ReaW blocks 0 (j : Int) (k : Int))) := fun k => by
              rw [← hwi]
              simp only [decide_eq_true_iff]
              rw [mm]
              exact ⟨fun h => ⟨by omega, h⟩, fun h => h.2⟩
            have RW : Hid (RowT w2 wo.heap.size blocks.length wi) := by rw [← hwi]; exact sn2.row
            have B2 := hideP (AX.out.trans (bt2.below (Nat.le_refl _) AX.out.size))
            clear hwi sn2 mm bt2 y0 y1 y2 y3 y4 SN AX hj0
            have A3 := hideP (B2.out.alloc B2.out.size (.cells (madeCells #[.bool false] blocks.length) 4))
            have R3 := hideP (made_row w2 blocks.length)
            have RW3 := hideP (RW.out.stays ((Below.refl w2.heap.size w2).alloc (Nat.le_refl _) (.cells (madeCells #[.bool false] blocks.length) 4)))
            have lw : wo.heap.size < w2.heap.size := RW.out.lt
            clear RW B2
            obtain ⟨w3, hw3⟩ : ∃ w3, w2.alloc (.cells (madeCells #[.bool false] blocks.length) 4) = w3 := ⟨_, rfl⟩
            have hs3 : w3.heap.size = w2.heap.size + 1 := by rw [← hw3]; simp
            rw [hw3] at A3 R3 RW3
            go_upto_region 16 with fail
            clear hw3
            go_wp2
            go_loopg [11] blocks.length (fun hk ix W => ∃ k : Nat, hk + k = blocks.length ∧ ix = .int .i64 k ∧ Hid (RowT W w2.heap.size blocks.length (fun t => if t < k then rulB blocks (j : Int) (t : Int) else false)) ∧ Hid (But w2.heap.size w3 W))
            case atStart => exact ⟨0, by simp, rfl, R3.out.congr (fun i _ => by simp), But.refl _ _⟩
            case round =>
              obtain ⟨k, hk, rfl, hrow, hbt⟩ := hrel
              have BB := hideP (A3.out.trans (hbt.out.below (Nat.le_of_lt lw) A3.out.size))
              have RI := hideP (hI.out.stays BB.out)
              by_cases hkl : k < blocks.length
              · have c1 := (RI.out.come.at hlt).1
                have c2 := (RI.out.come.at hkl).1
                have c3 := ((RW3.out.keep (w' := wr) (hbt.out.block _ RW3.out.lt (by omega))).at hkl).1
                obtain ⟨c4, f4⟩ := hrow.out.at hkl
                have VAL := rul_val (HWI.out k)
                have RR := hideP (hrow.out.set (f' := fun t => if t < k + 1 then rulB blocks (j : Int) (t : Int) else false) hkl (b := rulB blocks (j : Int) (k : Int)) (fun t _ => by
                  by_cases e1 : t = k
                  · subst e1; simp
                  · rw [if_neg e1]
                    by_cases e2 : t < k
                    · rw [if_pos (by omega), if_pos e2]
                    · rw [if_neg (by omega), if_neg e2]))
                have BT := hideP (hbt.out.set k (.bool (rulB blocks (j : Int) (k : Int))))
                rw [VAL] at RR BT
                clear VAL BB RI
                obtain ⟨p1, hp1⟩ : ∃ p, comeB blocks (j : Int) = p := ⟨_, rfl⟩
                obtain ⟨p2, hp2⟩ : ∃ p, comeB blocks (k : Int) = p := ⟨_, rfl⟩
                obtain ⟨p3, hp3⟩ : ∃ p, wi k = p := ⟨_, rfl⟩
                rw [hp1] at c1 RR BT
                rw [hp2] at c2 RR BT
                rw [hp3] at c3 RR BT
                clear hp1 hp2 hp3
                cases p1 <;> cases p2 <;> cases p3 <;> simp only [Bool.false_and, Bool.and_false, Bool.not_true, Bool.not_false, Bool.and_self] at RR BT
                all_goals go_wp2
                all_goals go_roundg (blocks.length - (k + 1))
                all_goals first
                  | exact ⟨k + 1, by omega, by go_num, RR.out, BT.out⟩
                  | omega
              · have hkn : k = blocks.length := by omega
                subst hkn
                have ROW : RowT wr w2.heap.size blocks.length (fun t => rulB blocks (j : Int) (t : Int)) := hrow.out.congr (fun t ht => if_pos ht)
                have al := (Below.refl wr.heap.size wr).alloc (Nat.le_refl _) (.cells #[.slice (some ⟨w2.heap.size, 0, none⟩) blocks.length blocks.length] 72)
                have OA := hideP (RI.out.own.stays al)
                have CQ : Hid (∀ r, r < (RbE blocks.length).sz → (wr.alloc (.cells #[.slice (some ⟨w2.heap.size, 0, none⟩) blocks.length blocks.length] 72)).cell? ⟨wr.heap.size, 0 + r, none⟩ = ((RbE blocks.length).cs w2.heap.size)[r]?) := fun r _ => by
                  have hn : (wr.alloc (.cells #[.slice (some ⟨w2.heap.size, 0, none⟩) blocks.length blocks.length] 72)).heap[wr.heap.size]? = some (.cells #[.slice (some ⟨w2.heap.size, 0, none⟩) blocks.length blocks.length] 72) := by show (wr.heap.push _)[wr.heap.size]? = _; exact Array.getElem?_push_size
                  have := (cells_of hn).1 r
                  rw [Nat.zero_add, this]; simp [RbE]
                have hsz1 : Hid (w.heap.size + 1 ≤ (wr.alloc (.cells #[.slice (some ⟨w2.heap.size, 0, none⟩) blocks.length blocks.length] 72)).heap.size) := by have := RI.out.lt; show _ ≤ _; simp; omega
                have hlo : w.heap.size + 1 ≤ w2.heap.size := by have := hI.out.lt; omega
                have GR := hideP (fun v' W' ho hg => RI.out.grow (v' := v') (W' := W') (o := (.cells #[.slice (some ⟨w2.heap.size, 0, none⟩) blocks.length blocks.length] 72)) (gr := w2.heap.size) (by rw [HRL.out]; exact ROW) hlo ho hg)
                clear al ROW RI BB hrow hbt RW3 R3 A3
                go_wp2_with (at_builtin; refine list_appE (RbOk blocks.length) _ rfl _ _ rfl (w.heap.size + 1) _ rows w2.heap.size wr.heap.size 0 1 rfl rfl OA.out CQ.out (by rw [HRL.out]; omega) hsz1.out ?_; intro v6 w6 o6 grow6 loc6)
                have S6 := hideP (GR.out v6 w6 o6 grow6)
                clear o6 grow6 loc6 OA CQ hsz1 GR
                go_wp2
                go_roundg (blocks.length - (j + 1))
                case rel => exact ⟨j + 1, _, by omega, by go_num, by rw [List.length_append, HRL.out]; rfl, S6.out⟩
                case measure => omega
        · have hjn : j = blocks.length := by omega
          subst hjn
          go_wp2
          go_ret
          exact ⟨_, rows, rfl, HRL.out, hI.out.own, hI.out.row, hI.out.bel⟩
end Go.Proofs.Ytooaoankloocmab

/- The contract of spec.Below (written by wip/mkblws.py). -/
namespace Go.Proofs.Ytooaoankloocmab
open Go.ChangeShapes Go.WideShapes Go.ChangeAt Go.RowKit
noncomputable def belowP (g : Gr) (b : Int) : List Int := if grOk g = true ∧ 0 ≤ b ∧ b < g.blocks.length then upB (fun k => rulB g.blocks b (k : Int)) g.blocks.length else []
end Go.Proofs.Ytooaoankloocmab
