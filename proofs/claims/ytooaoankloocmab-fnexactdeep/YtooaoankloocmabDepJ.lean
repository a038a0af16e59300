/- The contract of impl.Deep: the walk. -/
import Derived.Test.YtooaoankloocmabDepI
namespace Go.Proofs.Ytooaoankloocmab
open Go.ChangeShapes Go.WideShapes Go.ChangeAt Go.RowKit Go.Maps
theorem RgE.kept {w w' : World} {b r n cnt : Nat} {E : Int → Option Value} {dn : List Int} {row : Option Nat} (h : RgE w b r n E dn cnt) (hg : w.grownBy w' row) (hb : some b ≠ row) (hr : some r ≠ row) : RgE w' b r n E dn cnt := h.keep (hg.block b h.lt.1 hb) (hg.block r h.lt.2 hr)
theorem RgE.sub {w : World} {b r n cnt : Nat} {E : Int → Option Value} {dn : List Int} (h : RgE w b r n E dn cnt) : (∀ s ∈ dn, (E s).isSome = true) ∧ dn.Nodup := by
  obtain ⟨_, D, left, _, _, _, _, h6, h7⟩ := h
  exact ⟨h6, h7⟩
theorem nodup_few {n : Nat} {dn : List Int} (hn : dn.Nodup) (h : ∀ s ∈ dn, InR n s) : dn.length ≤ n := by
  have : dn.length = (upB (fun i => decide ((i : Int) ∈ dn)) n).length := by
    refine List.Perm.length_eq ((List.perm_ext_iff_of_nodup hn ((upB_up _ _).imp (fun {a b} h => by omega))).2 (fun s => ?_))
    rw [upB_mem]
    constructor
    · intro hs
      have h2 := h s hs
      exact ⟨s.toNat, by have := h2.1; omega, by have := h2.1; have := h2.2; omega, by rw [decide_eq_true_eq]; rwa [show ((s.toNat : Nat) : Int) = s by have := h2.1; omega]⟩
    · rintro ⟨i, rfl, _, h2⟩
      exact of_decide_eq_true h2
  rw [this]
  exact upB_len _ _
theorem fsQ_in {n : Nat} {Q : List (Nat × Nat)} (hQ : ∀ p ∈ Q, p.1 < n ∧ p.2 < n) {x : Int} : (∀ y ∈ fsQ Q x, InR n y) ∧ (fsQ Q x ≠ [] → InR n x) := by
  constructor
  · intro y hy
    obtain ⟨p, hp, _, rfl⟩ := fsQ_mem.1 hy
    have := (hQ p hp).1
    exact ⟨by omega, by omega⟩
  · intro hne
    obtain ⟨y, hy⟩ := List.exists_mem_of_ne_nil _ hne
    obtain ⟨p, hp, rfl, _⟩ := fsQ_mem.1 hy
    have := (hQ p hp).2
    exact ⟨by omega, by omega⟩
open Classical in
theorem cntD_le (xs : List Blk) (Q : List (Nat × Nat)) (dn : List Int) (y : Int) : cntD xs Q dn y ≤ dn.length := by
  unfold cntD
  exact List.length_filter_le _ _
theorem make_intD (n : Nat) (hn : n ≤ 1000) (W : World) : (Instr.makeSlice 22 (.int .i64 (n : Int)) (.int .i64 (n : Int))).run Try.prog W = .ok (.slice (some ⟨W.heap.size, 0, none⟩) n n) (W.alloc (.cells (madeCells #[.int .i64 0] n) 3)) := by
  have := make_n (P := Try.prog) Try.underlying22 infoInt n (by omega) (by omega) W
  rw [Nat.mul_one] at this
  exact this
theorem own_made (w : World) (n : Nat) (hn : n ≤ 1000) : OwnI (w.alloc (.cells (madeCells #[.int .i64 0] n) 3)) w.heap.size (.slice (some ⟨w.heap.size, 0, none⟩) n n) (rowF n (fun _ => 0)) := by
  have := OwnI.of_parts (w := w.alloc (.cells (madeCells #[.int .i64 0] n) 3)) (B := w.heap.size) (l := rowF n (fun _ => 0)) (cap := n) (Nat.le_refl _) (newB8 w _) (by rw [rowF_len]; exact Nat.le_refl _) (by unfold maxLen; omega) (size_madeCells _ _) (fun j hj => by
    rw [rowF_at]
    rw [rowF_len] at hj
    exact made_one _ n j hj)
  rw [rowF_len] at this
  exact this
/-- What the first loop of Deep carries. -/
structure DiAt (w : World) (bv : Array Value) (eb n : Nat) (E : Int → Option Value) (L : List (Nat × Nat)) (gq cq : Nat) (Q : List (Nat × Nat)) (W : World) : Prop where
  ed : EdAt W (w.heap.size + 1) eb n E L
  bk : OwnE A2E W 0 (.slice (some ⟨gq, 0, none⟩) Q.length cq) Q
  box : W.heap[w.heap.size]? = some (.cells bv 30 (0, 0))
  eb1 : w.heap.size < eb
  bel : Below w.heap.size w W
section
variable {w W W1 W6 W7 : World} {bv : Array Value} {eb n : Nat} {E : Int → Option Value} {L : List (Nat × Nat)} {gq cq : Nat} {Q : List (Nat × Nat)}
theorem DiAt.stays (h : DiAt w bv eb n E L gq cq Q W) (b : Below W.heap.size W W1) : DiAt w bv eb n E L gq cq Q W1 := ⟨h.ed.stays b, h.bk.stays b, (b.block _ (hltP h.box)).trans h.box, h.eb1, below_trans h.bel b⟩
theorem DiAt.step (h : DiAt w bv eb n E L gq cq Q W) {p : Nat × Nat} {v6 : Value} (b1 : Below W.heap.size W W1) (ho : OwnI W6 (w.heap.size + 1) v6 (fsQ L (p.2 : Int) ++ [(p.1 : Int)])) (hg : W1.grownBy W6 ((E (p.2 : Int)).getD (.slice none 0 0)).ownBlock) (hl : v6.ownBlock = ((E (p.2 : Int)).getD (.slice none 0 0)).ownBlock ∨ v6.ownBlock = some W1.heap.size) (hem : EmAt W7 eb (n + 1) (fun z => if z = (p.2 : Int) then Option.some v6 else E z)) (hb : But eb W6 W7) :
    DiAt w bv eb (n + 1) (fun z => if z = (p.2 : Int) then Option.some v6 else E z) (L ++ [p]) gq cq Q W7 := by
  have h1 := h.stays b1
  have hlow : ∀ g, ((E (p.2 : Int)).getD (.slice none 0 0)).ownBlock = some g → w.heap.size + 1 ≤ g ∧ ∃ cur, W1.heap[g]? = some (.cells cur 3 (0, 0)) := fun g e => by
    have := (h1.ed.numN (p.2 : Int)).low g e
    exact ⟨this.1, this.2.2⟩
  have e1 := h.eb1
  obtain ⟨es, cl, hmap⟩ := h1.ed.em.isMap
  obtain ⟨c2, h2⟩ := A2typ h1.bk (g := gq) rfl
  have n1 : some gq ≠ ((E (p.2 : Int)).getD (.slice none 0 0)).ownBlock := fun e => by
    obtain ⟨_, c3, h3⟩ := hlow gq e.symm
    exact typ_ne h2 h3 (by decide) rfl
  have n2 : gq ≠ eb := fun e => by rw [e, hmap] at h2; cases h2
  have bx6 : W6.heap[w.heap.size]? = some (.cells bv 30 (0, 0)) := (hg.block _ (hltP h1.box) (fun e => by have := (hlow _ e.symm).1; omega)).trans h1.box
  exact ⟨h.ed.step b1 ho hg hl hem hb, (h1.bk.kept hg n1).butG hb (by simp [Value.ownBlock]; exact n2), hb.keepB bx6 (by omega), h.eb1, (h1.bel.grown hg h1.bel.size (fun b' hb' => by have := (hlow b' hb').1; omega)).trans (hb.below (by omega) (Nat.le_trans h1.bel.size hg.size))⟩
end
set_option maxRecDepth 100000 in
set_option maxHeartbeats 8000000 in
theorem impl_deep (g : Gr) (w : World) (B : Nat) (v : Array Value) (h : GrIs w B v g) (GO : OkIs 25 g) :
    Calls Try.prog 8 #[.agg v] w fun en w' => ∃ v', en = .returned v' ∧ OwnI w' w.heap.size v' (deepP g) ∧ Below w.heap.size w w' := by
  obtain ⟨y, hy⟩ : ∃ y, grOk g = y := ⟨_, rfl⟩
  have CY : Hid (∀ W, Below w.heap.size w W → Calls Try.prog 25 #[.agg v] W fun en w' => en = .returned (.bool y) ∧ Below W.heap.size W w') := fun W hW => by rw [← hy]; exact GO W B v (GrKeeps.stays h hW)
  have CB := hideP (fun W (hW : Below w.heap.size w W) => impl_backs g W B v (GrKeeps.stays h hW) GO)
  have CA : Hid (y = true → ∀ W, Below w.heap.size w W → Calls Try.prog 27 #[.agg v] W fun e w' => AhdMade W g.blocks e w') := fun e W hW => aheads_any g W B v (GrKeeps.stays h hW) (hy.trans e)
  have QIN : Hid (∀ p ∈ backsP g, p.1 < g.blocks.length ∧ p.2 < g.blocks.length) := fun p hp => ⟨(backs_in hp).2.1, (backs_in hp).2.2.1⟩
  have BLN := hideP (backsP_len g)
  have HN : Hid (y = true → g.blocks.length ≤ 300) := fun e => (grOk_blocks (hy.trans e)).2
  obtain ⟨P, hP⟩ : ∃ P, deepP g = P := ⟨_, rfl⟩
  have EP : Hid ((y = false → P = []) ∧ (y = true → P = rowF g.blocks.length (fun y => ((depN g.blocks (backsP g) g.blocks.length (y : Int) : Nat) : Int)))) := by
    rw [← hP]
    unfold deepP
    rw [hy]
    exact ⟨fun e => if_neg (by rw [e]; simp), fun e => if_pos e⟩
  have QSH : Hid (y = true → (backsP g).length ≤ 90000) := fun e => by
    unfold backsP
    rw [if_pos (hy.trans e)]
    have h1 := backsUp_len g.blocks g.blocks.length
    have h2 := (grOk_blocks (hy.trans e)).2
    have h3 := Nat.mul_le_mul h2 h2
    omega
  obtain ⟨Q, hQ⟩ : ∃ Q, backsP g = Q := ⟨_, rfl⟩
  rw [hP]
  rw [hQ] at CB QIN BLN EP QSH
  clear hP hQ GO hy
  obtain ⟨sizes, params, vars, slots, blocks⟩ := g
  obtain ⟨us, cs, ub, cb, rfl, _, _, _⟩ := h
  simp only at *
  have AL := hideP ((Below.refl w.heap.size w).alloc (Nat.le_refl _) (.cells #[.slice us sizes.length cs, .int .i64 params, .int .i64 vars, .int .i64 slots, .slice ub blocks.length cb] 30))
  have BX1 := hideP (newB8 w (.cells #[.slice us sizes.length cs, .int .i64 params, .int .i64 vars, .int .i64 slots, .slice ub blocks.length cb] 30))
  have hmm := @run_makeMap Try.prog
  cases y with
  | false =>
    have E0 := hideP (EP.out.1 rfl)
    clear EP HN CB CA QSH
    go_enter Try.func8, Try.ntmps8
    go_wp2_with fail
    refine (CY.out _ AL.out).mono ?_
    rintro e1 w1 ⟨rfl, b1⟩
    have BB := hideP (below_trans AL.out b1)
    have OO := hideP (own_lit w1 [] #[] w1.heap.size 0 rfl rfl rfl (by simp))
    clear b1
    go_wp2
    go_ret
    exact ⟨_, rfl, by rw [E0.out]; exact OO.out.mono BB.out.size, BB.out.alloc BB.out.size _⟩
  | true =>
    have E1 := hideP (EP.out.2 rfl)
    have hn := HN.out rfl
    have CA1 := hideP (CA.out rfl)
    have hQl := QSH.out rfl
    clear EP HN CA QSH BLN
    go_enter Try.func8, Try.ntmps8
    go_wp2_with fail
    refine (CY.out _ AL.out).mono ?_
    rintro e1 w1 ⟨rfl, b1⟩
    have BB := hideP (below_trans AL.out b1)
    have BX := hideP ((b1.block _ (hltP BX1.out)).trans BX1.out)
    have hw1 : w.heap.size < w1.heap.size := hltP BX.out
    have al := (Below.refl w1.heap.size w1).alloc (Nat.le_refl _) (.map #[] 0)
    have D2 := hideP (EdAt.made w1 (w.heap.size + 1))
    have B2 := hideP (below_trans BB.out al)
    have X2 := hideP ((al.block _ (hltP BX.out)).trans BX.out)
    have bxf := (cells_of X2.out).1
    have z0 := bxf 0
    have z1 := bxf 1
    have z2 := bxf 2
    have z3 := bxf 3
    have z4 := bxf 4
    simp at z0 z1 z2 z3 z4
    clear bxf al b1 BX1 AL CY BB BX
    go_wp2_with fail
    refine (CB.out _ B2.out).mono ?_
    rintro e3 w3 ⟨v3, rfl, o3, b3⟩
    obtain ⟨gq, cq, hv3, _⟩ := id o3
    subst hv3
    have K3 : Hid (DiAt w #[.slice us sizes.length cs, .int .i64 params, .int .i64 vars, .int .i64 slots, .slice ub blocks.length cb] w1.heap.size 0 (fun _ => none) [] gq cq Q w3) := ⟨D2.out.stays b3, o3.mono (Nat.zero_le _), (b3.block _ (hltP X2.out)).trans X2.out, hw1, below_trans B2.out b3⟩
    clear o3 b3 D2 B2 X2 z0 z1 z2 z3 z4 CB hmm
    go_wp2
    obtain ⟨eb, heb⟩ : ∃ eb, w1.heap.size = eb := ⟨_, rfl⟩
    rw [heb] at K3 hw1 ⊢
    clear heb
    go_loopg [19] Q.length (fun gk ix wr => ∃ (i : Nat) (E : Int → Option Value), gk + i = Q.length ∧ ix = .int .i64 i ∧ Hid (DiAt w #[.slice us sizes.length cs, .int .i64 params, .int .i64 vars, .int .i64 slots, .slice ub blocks.length cb] eb i E (Q.take i) gq cq Q wr))
    case atStart => exact ⟨0, fun _ => none, by simp, rfl, K3.out⟩
    case round =>
      obtain ⟨i, E, hi, rfl, hK⟩ := hrel
      clear K3
      by_cases hil : i < Q.length
      · obtain ⟨p, hp⟩ : ∃ p, Q[i] = p := ⟨_, rfl⟩
        have TK : Hid (Q.take (i + 1) = Q.take i ++ [p]) := by show _ = _; rw [List.take_succ_eq_append_getElem hil, hp]
        have PIN := hideP (QIN.out p (hp ▸ List.getElem_mem hil))
        have q0 := hK.out.bk.at A2Ok i hil 0 (by decide)
        have q1 := hK.out.bk.at A2Ok i hil 1 (by decide)
        rw [hp] at q0 q1
        simp [A2E] at q0 q1
        have al := (Below.refl wr.heap.size wr).alloc (Nat.le_refl _) (.cells #[.int .i64 (p.1 : Int), .int .i64 (p.2 : Int)] 42)
        have K4 := hideP (hK.out.stays al)
        have PX := hideP (newB8 wr (.cells #[.int .i64 (p.1 : Int), .int .i64 (p.2 : Int)] 42))
        clear hp al hK
        go_upto_region 7 with fail
        obtain ⟨wp, hwp⟩ : ∃ wp, wr.alloc (.cells #[.int .i64 (p.1 : Int), .int .i64 (p.2 : Int)] 42) = wp := ⟨_, rfl⟩
        obtain ⟨px, hpx⟩ : ∃ px, wr.heap.size = px := ⟨_, rfl⟩
        rw [hwp] at K4 PX ⊢
        rw [hpx] at PX ⊢
        clear hwp hpx q0 q1
        have IS : Hid (I64 (p.2 : Int)) := by have := PIN.out.2; show I64 _; unfold I64; omega
        have LK : Hid (∀ W, Below wp.heap.size wp W → (Instr.lookup 47 (.map (some eb)) (.int .i64 (p.2 : Int)) false).run Try.prog W = .ok ((E (p.2 : Int)).getD (.slice none 0 0)) W) := fun W hW => (K4.out.ed.em.stays hW).look Try.underlying47 IS.out
        have NN := hideP (K4.out.ed.numN (p.2 : Int))
        have FL := fsQ_len (Q.take i) (p.2 : Int)
        rw [List.length_take] at FL
        obtain ⟨v0, hv0⟩ : ∃ v0, (E (p.2 : Int)).getD (.slice none 0 0) = v0 := ⟨_, rfl⟩
        obtain ⟨F, hF⟩ : ∃ F, fsQ (Q.take i) (p.2 : Int) = F := ⟨_, rfl⟩
        have AW := hideP (((Below.refl wp.heap.size wp).alloc (Nat.le_refl _) (.cells #[.int .i64 (p.1 : Int)] 3)).drew)
        have NA : Hid (NumN (wp.alloc (.cells #[.int .i64 (p.1 : Int)] 3)).drew (w.heap.size + 1) v0 F) := by rw [← hv0, ← hF]; exact NN.out.keep (fun g _ hlt => AW.out.block g hlt)
        have LC : Hid ((wp.alloc (.cells #[.int .i64 (p.1 : Int)] 3)).drew.cell? ⟨wp.heap.size, 0, none⟩ = some (.int .i64 (p.1 : Int))) := (cells_of (newB8 wp (.cells #[.int .i64 (p.1 : Int)] 3))).1 0
        have hlo : w.heap.size + 1 ≤ (wp.alloc (.cells #[.int .i64 (p.1 : Int)] 3)).drew.heap.size := Nat.le_trans (hltP K4.out.box) AW.out.size
        have PUT : Hid (∀ v6 w6, OwnI w6 (w.heap.size + 1) v6 (F ++ [(p.1 : Int)]) → (wp.alloc (.cells #[.int .i64 (p.1 : Int)] 3)).drew.grownBy w6 v0.ownBlock → (v6.ownBlock = v0.ownBlock ∨ v6.ownBlock = some (wp.alloc (.cells #[.int .i64 (p.1 : Int)] 3)).drew.heap.size) → w6.cell? ⟨px, 0, none⟩ = some (.int .i64 (p.1 : Int)) ∧ w6.cell? ⟨px, 1, none⟩ = some (.int .i64 (p.2 : Int)) ∧ ∃ w7, (Instr.mapUpdate 47 (.map (some eb)) (.int .i64 (p.2 : Int)) v6).run Try.prog w6 = .ok () w7 ∧ (w7.cell? ⟨px, 0, none⟩ = some (.int .i64 (p.1 : Int)) ∧ w7.cell? ⟨px, 1, none⟩ = some (.int .i64 (p.2 : Int))) ∧ DiAt w #[.slice us sizes.length cs, .int .i64 params, .int .i64 vars, .int .i64 slots, .slice ub blocks.length cb] eb (i + 1) (fun z => if z = (p.2 : Int) then Option.some v6 else E z) (Q.take (i + 1)) gq cq Q w7) := fun v6 w6 o6 g6 l6 => by
          rw [← hv0] at g6 l6
          have hlow : ∀ g, ((E (p.2 : Int)).getD (.slice none 0 0)).ownBlock = some g → ∃ cur, (wp.alloc (.cells #[.int .i64 (p.1 : Int)] 3)).drew.heap[g]? = some (.cells cur 3 (0, 0)) := fun g e => ((K4.out.stays AW.out).ed.numN (p.2 : Int)).low g e |>.2.2
          have bx : w6.heap[px]? = some (.cells #[.int .i64 (p.1 : Int), .int .i64 (p.2 : Int)] 42 (0, 0)) := (g6.block px (hltP ((AW.out.block px (hltP PX.out)).trans PX.out)) (fun e => by
            obtain ⟨c3, h3⟩ := hlow px e.symm
            exact typ_ne ((AW.out.block px (hltP PX.out)).trans PX.out) h3 (by decide) rfl)).trans ((AW.out.block px (hltP PX.out)).trans PX.out)
          have tt : NumT (wp.alloc (.cells #[.int .i64 (p.1 : Int)] 3)).drew w6 := NumT.of_grown g6 (fun g e => let ⟨c, hc⟩ := hlow g e; ⟨c, _, hc, Or.inl rfl⟩)
          have em6 := (K4.out.ed.em.stays AW.out).num tt
          obtain ⟨w7, hr7, em7, b7⟩ := em6.put Try.underlying47 IS.out v6 (by omega)
          obtain ⟨es8, cl8, hm8⟩ := em6.isMap
          have bx7 := b7.keepB bx (fun e => by rw [e, hm8] at bx; cases bx)
          refine ⟨(cells_of bx).1 0, (cells_of bx).1 1, w7, hr7, ⟨(cells_of bx7).1 0, (cells_of bx7).1 1⟩, ?_⟩
          rw [TK.out]
          exact K4.out.step AW.out (by rw [hF]; exact o6) g6 l6 em7 b7
        rw [hv0] at LK
        have SK : Hid (∀ W', Below wp.heap.size wp W' → W'.cell? ⟨px, 0, none⟩ = some (.int .i64 (p.1 : Int)) ∧ W'.cell? ⟨px, 1, none⟩ = some (.int .i64 (p.2 : Int))) := fun W' bel => ⟨(cells_of ((bel.block _ (hltP PX.out)).trans PX.out)).1 0, (cells_of ((bel.block _ (hltP PX.out)).trans PX.out)).1 1⟩
        have FL1 : F.length + 1 ≤ 8000000 := by rw [← hF]; omega
        clear hv0 hF NN FL
        have l1 := LK.out wp.drew (Below.refl _ _).drew
        have l2 := LK.out _ AW.out
        go_region_held3 (fun W' => W'.cell? ⟨px, 0, none⟩ = some (.int .i64 (p.1 : Int)) ∧ W'.cell? ⟨px, 1, none⟩ = some (.int .i64 (p.2 : Int))) (first | exact SK.out _ (Below.refl _ _) | exact SK.out _ (Below.refl _ _).drew | exact SK.out _ AW.out | exact S6.out | exact S7.out) (first
          | (refine step_lookE _ rfl _ _ _ rfl eb (p.2 : Int) v0 rfl rfl (LK.out _ (by first | exact (Below.refl _ _).drew | exact AW.out)) ?_)
          | (refine step_appN _ rfl _ _ rfl (w.heap.size + 1) v0 F (p.1 : Int) wp.heap.size 0 1 rfl rfl NA.out LC.out FL1 hlo ?_; intro v6 w6 o6 grow6 loc6; obtain ⟨c6, d6, w7, r7, s7, k7⟩ := PUT.out v6 w6 o6 grow6 loc6; have S6 := hideP (And.intro c6 d6); have S7 := hideP s7; have K7 := hideP k7; clear c6 d6 s7 k7 o6 grow6 loc6))
        all_goals (clear S6 S7 AW NA LC PUT SK LK TK r7 l1 l2 K4)
        all_goals go_wp2
        all_goals (go_roundg (Q.length - (i + 1)))
        all_goals first
          | exact ⟨i + 1, _, by omega, by go_num, K7.out⟩
          | omega
      · have hiq : i = Q.length := by omega
        subst hiq
        have hK1 := hK.out
        rw [List.take_length] at hK1
        have KK := hideP hK1
        have bxf := (cells_of hK1.box).1
        have z0 := bxf 0
        have z1 := bxf 1
        have z2 := bxf 2
        have z3 := bxf 3
        have z4 := bxf 4
        simp at z0 z1 z2 z3 z4
        clear bxf hK hK1
        go_wp2_with fail
        refine (CA1.out _ KK.out.bel).mono ?_
        rintro e4 w4 ⟨ga, av, pre, rfl, a4, hp4, hs4, _, b4⟩
        have K4 := hideP (KK.out.stays b4)
        have HP := hideP hp4
        have bxf := (cells_of K4.out.box).1
        have z0 := bxf 0
        have z1 := bxf 1
        have z2 := bxf 2
        have z3 := bxf 3
        have z4 := bxf 4
        simp at z0 z1 z2 z3 z4
        have al := (Below.refl w4.heap.size w4).alloc (Nat.le_refl _) (.cells (madeCells #[.int .i64 0] blocks.length) 3)
        have EM := hideP (K4.out.ed.em.stays al)
        have OD := hideP (own_made w4 blocks.length (by omega))
        have EDS : Hid (∀ W, Below w4.heap.size w4 W → EdAt W (w.heap.size + 1) eb Q.length E Q) := fun W hW => K4.out.ed.stays hW
        have AHS : Hid (∀ W, Below w4.heap.size w4 W → AhAt wr.heap.size blocks.length ga av pre W) := fun W hW => a4.stays hW
        have BW4 := hideP K4.out.bel
        have AL4 := hideP al
        have HEB : Hid (eb < w4.heap.size) := K4.out.ed.em.lt
        have hm := make_intD blocks.length (by omega)
        clear bxf al a4 b4 hp4 KK CA1
        go_wp2_with (first
          | (at_range; refine rge_range _ rfl _ _ Try.underlying47 rfl eb Q.length E rfl EM.out ?_; intro w5 cnt5 hrg5 hg5 hs5)
          | go_in)
        have bel5 := grown_below (B := (w4.alloc (.cells (madeCells #[.int .i64 0] blocks.length) 3)).heap.size) hg5 (fun b h => by cases h) (Nat.le_refl _)
        have B5 := hideP (AL4.out.trans (bel5.mono AL4.out.size))
        have O5 := hideP (OD.out.stays bel5)
        obtain ⟨r5, hr5⟩ : ∃ r5, (w4.alloc (.cells (madeCells #[.int .i64 0] blocks.length) 3)).heap.size = r5 := ⟨_, rfl⟩
        obtain ⟨gd, hgd⟩ : ∃ gd, w4.heap.size = gd := ⟨_, rfl⟩
        have hre : r5 = gd + 1 := by rw [← hr5, ← hgd]; simp
        rw [hr5] at hrg5 ⊢
        have BWS : Hid (w.heap.size ≤ gd) := by rw [← hgd]; exact BW4.out.size
        rw [hgd] at O5 B5 EDS AHS HEB ⊢
        have RG5 := hideP hrg5
        have HRE := hideP hre
        clear hrg5 hg5 hs5 bel5 hr5 hgd hre z0 z1 z2 z3 z4 hm EM OD K4 AL4
        go_frame
        go_loopw [] (fun wr => ∃ (dn : List Int) (cnt : Nat), Hid (RgE wr eb r5 Q.length E dn cnt) ∧ Hid (Below gd w4 wr) ∧ Hid (OwnI wr gd (.slice (some ⟨gd, 0, none⟩) blocks.length blocks.length) (rowF blocks.length (fun y => ((cntD blocks Q dn (y : Int) : Nat) : Int))))) (fun wr => wr.rangeLeft eb r5)
        case atStart => exact ⟨[], cnt5, RG5.out, B5.out, O5.out⟩
        case round =>
          obtain ⟨dn, cnt, hrg, hB, hO⟩ := hrel
          clear RG5 B5 O5
          go_wp2_with (first
            | (at_next; refine rge_next _ rfl _ rfl eb r5 Q.length E dn cnt rfl hrg.out ?_ ?_)
            | go_in)
          · intro hall hnd
            have FO : Hid (rowF blocks.length (fun y => ((cntD blocks Q dn (y : Int) : Nat) : Int)) = P) := by
              rw [E1.out]
              show rowF _ _ = rowF _ _
              congr 1
              funext y
              rw [cntD_end (fun p hp => by have := (QIN.out p hp).2; omega) (fun s => (hall s).trans ((EDS.out w4 (Below.refl _ _)).there s)) hnd]
            have OF : Hid (OwnI wr w.heap.size (.slice (some ⟨gd, 0, none⟩) blocks.length blocks.length) P) := by rw [← FO.out]; exact hO.out.mono BWS.out
            have BF := hideP (BW4.out.trans (hB.out.mono BWS.out))
            clear hall hnd FO hO hB hrg
            go_wp2
            go_ret
            exact ⟨_, rfl, OF.out, BF.out⟩
          · intro x c w6 cnt6 hx hxn hxi hrg6 hlt6 hg6 hs6 hen
            have hre := HRE.out
            have B6 := hideP (hB.out.grown hg6 (Nat.le_of_lt (hO.out.low gd rfl).2) (fun k hk => by injection hk with e; omega))
            have O6 := hideP (hO.out.kept hg6 (by simp [Value.ownBlock]; omega))
            have RG6 := hideP hrg6
            have LE := hideP hrg.out.left_eq
            have HLT := hideP hlt6
            have OC := (EDS.out w6 B6.out).own x c hx
            have hfx : fsQ Q x ≠ [] := ((EDS.out w6 B6.out).there x).1 (by rw [hx]; rfl)
            have INX := hideP ((fsQ_in QIN.out (x := x)).2 hfx)
            have HFX := hideP hfx
            have hdl : dn.length ≤ blocks.length := nodup_few hrg.out.sub.2 (fun s hs => (fsQ_in QIN.out).2 (((EDS.out w6 B6.out).there s).1 (hrg.out.sub.1 s hs)))
            obtain ⟨gv, cv, hv, _⟩ := id OC
            subst hv
            have CL := hideP (loop_any blocks.length pre (fsQ Q x) x w6 _ ga _ av _ (AHS.out w6 B6.out) OC (fun i hi y hy => prdL_in y ((HP.out i hi y).1 hy)) (fsQ_in QIN.out).1 INX.out hn (by have := fsQ_len Q x; omega))
            clear hrg6 hlt6 hg6 hs6 OC hB hO hrg hx hxn hfx hre
            go_wp2_with fail
            refine CL.out.mono ?_
            rintro e7 w7 ⟨m7, n7, l7, rfl, hm7, s7, hn7, hl7, b7⟩
            have hg6 : gd < w6.heap.size := (O6.out.low gd rfl).2
            have B7 := hideP (B6.out.trans (b7.mono (by omega)))
            have O7 := hideP (O6.out.stays b7)
            have RG7 := hideP (RG6.out.stays b7)
            have S7 := hideP s7
            have HL : Hid (∀ y, y ∈ l7 ↔ DpM blocks Q x y) := fun y => (hl7 y).trans ((or_congr_right (way_prd HP.out (fsQ_in QIN.out).1)).trans (dpM_iff HFX.out).symm)
            have HLI : Hid (∀ y ∈ l7, InR blocks.length y) := fun y hy => by
              obtain ⟨p, hp, he, hl⟩ := (HL.out y).1 hy
              have := (QIN.out p hp).1
              exact lopM_in ⟨by omega, by omega⟩ INX.out hl
            have hm7g : gd < m7 := by omega
            have hws7 : w6.heap.size ≤ w7.heap.size := b7.size
            clear s7 hl7 b7 CL B6 O6 RG6 hen
            go_wp2_with (first
              | (at_range; refine rgs_range _ rfl _ rfl m7 n7 l7 rfl S7.out ?_; intro w8 cnt8 hrg8 hg8 hs8)
              | go_in)
            have bel8 := grown_below (B := w7.heap.size) hg8 (fun b h => by cases h) (Nat.le_refl _)
            have B8 := hideP (B7.out.trans (bel8.mono (by omega)))
            have O8 := hideP (O7.out.stays bel8)
            have RG8 := hideP (RG7.out.stays bel8)
            have h57 := RG7.out.lt.2
            obtain ⟨r8, hr8⟩ : ∃ r8, w7.heap.size = r8 := ⟨_, rfl⟩
            rw [hr8] at hrg8 hws7 h57 ⊢
            have RS8 := hideP hrg8
            clear hrg8 hg8 hs8 bel8 hr8 B7 O7 RG7 S7
            go_frame
            go_loopw [] (fun wr => ∃ (dq : List Int) (cn : Nat), Hid (RgS wr m7 r8 n7 l7 dq cn) ∧ Hid (RgE wr eb r5 Q.length E (dn ++ [x]) cnt6) ∧ Hid (Below gd w4 wr) ∧ Hid (OwnI wr gd (.slice (some ⟨gd, 0, none⟩) blocks.length blocks.length) (rowF blocks.length (fun y => ((cntD blocks Q dn (y : Int) + (if (y : Int) ∈ dq then 1 else 0) : Nat) : Int))))) (fun wr => wr.rangeLeft m7 r8)
            case atStart => exact ⟨[], cnt8, RS8.out, RG8.out, B8.out, by show OwnI _ _ _ _; simpa using O8.out⟩
            case round =>
              obtain ⟨dq, cn, hrs, hrg, hB, hO⟩ := hrel
              clear RS8 RG8 B8 O8
              go_wp2_with (first
                | (at_next; refine rgs_next _ rfl _ rfl m7 r8 n7 l7 dq cn rfl hrs.out ?_ ?_)
                | go_in)
              · intro hall
                have FO : Hid (rowF blocks.length (fun y => ((cntD blocks Q dn (y : Int) + (if (y : Int) ∈ dq then 1 else 0) : Nat) : Int)) = rowF blocks.length (fun y => ((cntD blocks Q (dn ++ [x]) (y : Int) : Nat) : Int))) := by
                  show rowF _ _ = rowF _ _
                  congr 1
                  funext y
                  rw [cntD_app]
                  by_cases c : DpM blocks Q x (y : Int)
                  · rw [if_pos c, if_pos ((hall _).2 ((HL.out _).2 c))]
                  · rw [if_neg c, if_neg (fun h => c ((HL.out _).1 ((hall _).1 h)))]
                have OF : Hid (OwnI wr gd (.slice (some ⟨gd, 0, none⟩) blocks.length blocks.length) (rowF blocks.length (fun y => ((cntD blocks Q (dn ++ [x]) (y : Int) : Nat) : Int)))) := by rw [← FO.out]; exact hO.out
                clear hall FO hO hrs
                go_wp2
                go_roundw
                case rel => exact ⟨dn ++ [x], cnt6, hrg.out, hB.out, OF.out⟩
                case measure => rw [hrg.out.left_eq, LE.out]; exact HLT.out
              · intro z w9 cnt9 hz hzn hzi hrs9 hlt9 hg9 hs9 hen9
                have hre := HRE.out
                have heb := HEB.out
                obtain ⟨k, rfl⟩ : ∃ k : Nat, z = (k : Int) := ⟨z.toNat, by have := (HLI.out z hz).1; omega⟩
                have hk : k < blocks.length := by have := (HLI.out _ hz).2; omega
                have B9 := hB.out.grown hg9 (Nat.le_of_lt (hO.out.low gd rfl).2) (fun k hk => by injection hk with e; omega)
                have O9 := hO.out.kept hg9 (by simp [Value.ownBlock]; omega)
                have RG9 := hrg.out.kept hg9 (by simp; omega) (by simp; omega)
                have f9 : w9.frozen? ⟨gd, k, none⟩ = false := by
                  obtain ⟨cur9, hb9⟩ := O9.typ (g := gd) rfl
                  exact (cells_of hb9).2 k
                have x9 := O9.at k (by rw [rowF_len]; exact hk)
                rw [rowF_at, if_neg hzn, Nat.add_zero, Nat.zero_add] at x9
                have hc9 := cntD_le blocks Q dn (k : Int)
                obtain ⟨q9, hq9⟩ : ∃ q9, cntD blocks Q dn (k : Int) = q9 := ⟨_, rfl⟩
                rw [hq9] at x9 hc9
                have bt := ((But.refl gd w9).set k (.int .i64 ((q9 : Int) + 1))).grow
                have O10 := hideP (O9.setF (x := (q9 : Int) + 1) hk (f' := fun y => ((cntD blocks Q dn (y : Int) + (if (y : Int) ∈ dq ++ [(k : Int)] then 1 else 0) : Nat) : Int)) (fun t _ => by
                  by_cases e : t = k
                  · subst e
                    rw [if_pos rfl, if_pos (by simp), hq9]
                    simp
                  · rw [if_neg e]
                    have : ((t : Int) ∈ dq ++ [(k : Int)]) ↔ (t : Int) ∈ dq := by simp; omega
                    simp only [this]))
                have B10 := hideP (B9.setCell (p := ⟨gd, k, none⟩) (Nat.le_refl _) (.int .i64 ((q9 : Int) + 1)))
                have RG10 := hideP (RG9.kept bt (by simp; omega) (by simp; omega))
                have RS10 := hideP (hrs9.kept bt (by simp; omega) (by simp; omega))
                have LE9 := hideP hrs.out.left_eq
                have HLT9 := hideP hlt9
                clear hz hzn hzi hrs9 hlt9 hg9 hs9 hre heb B9 O9 RG9 hq9 bt hB hO hrg hrs
                go_wp2
                go_roundw
                case rel => exact ⟨dq ++ [(k : Int)], cnt9, RS10.out, RG10.out, B10.out, O10.out⟩
                case measure => rw [RS10.out.left_eq, LE9.out]; exact HLT9.out
end Go.Proofs.Ytooaoankloocmab
