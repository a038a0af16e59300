/- The contract of impl.Ruler. -/
import Derived.Test.YtooaoankloocmaaRulI
import Derived.Test.YtooaoankloocmaaRlrP
import Derived.Test.YtooaoankloocmaaMkN
import Derived.WalkMore
namespace Go.Proofs.Ytooaoankloocmaa
open Go.ChangeShapes Go.WideShapes Go.ChangeAt Go.RowKit Go.Maps
theorem make_int (n : Nat) (hn : n ≤ 1000) (W : World) : (Instr.makeSlice 22 (.int .i64 (n : Int)) (.int .i64 (n : Int))).run Try.prog W = .ok (.slice (some ⟨W.heap.size, 0, none⟩) n n) (W.alloc (.cells (madeCells #[.int .i64 0] n) 3)) := by
  have := make_n (P := Try.prog) Try.underlying22 infoInt n (by omega) (by omega) W
  rw [Nat.mul_one] at this
  exact this
theorem rlUp_get {g : Gr} (hok : grOk g = true) {t : Nat} (ht : t < g.blocks.length) : rlUp g.blocks g.blocks.length t = (rulesP g).getD t [] := (rulesP_get hok ht).symm
theorem rulerP_few (g : Gr) : (rulerP g).length ≤ 300 := by unfold rulerP; rw [rulerUp_len]; exact rulesP_few g
/-- Block g: n numbers, the first j as f says. -/
def RowN (w : World) (g n j : Nat) (f : Nat → Int) : Prop := ∃ cur : Array Value, w.heap[g]? = some (.cells cur 3 (0, 0)) ∧ cur.size = n ∧ ∀ i, i < j → cur[i]? = some (.int .i64 (f i))
section
variable {w w' : World} {g n j : Nat} {f : Nat → Int}
theorem RowN.lt (h : RowN w g n j f) : g < w.heap.size := let ⟨_, h1, _⟩ := h; hltP h1
theorem RowN.keep (h : RowN w g n j f) (hk : w'.heap[g]? = w.heap[g]?) : RowN w' g n j f := let ⟨c, h1, h2⟩ := h; ⟨c, hk.trans h1, h2⟩
theorem RowN.stays (h : RowN w g n j f) (b : Below w.heap.size w w') : RowN w' g n j f := h.keep (b.block _ h.lt)
theorem RowN.can (h : RowN w g n j f) {i : Nat} (hi : i < n) : (∃ u, w.cell? ⟨g, i, none⟩ = some u) ∧ w.frozen? ⟨g, i, none⟩ = false := by
  obtain ⟨cur, h1, h2, _⟩ := h
  exact ⟨⟨cur[i]'(by omega), by simp only [World.cell?, h1]; exact Array.getElem?_eq_getElem _⟩, (cells_of h1).2 i⟩
theorem RowN.put (h : RowN w g n j f) (hj : j < n) {x : Int} (hx : f j = x) : RowN (w.setCell ⟨g, j, none⟩ (.int .i64 x)) g n (j + 1) f := by
  obtain ⟨cur, h1, h2, h3⟩ := h
  refine ⟨_, heap_setCell_same w g j cur _ _ h1, by simpa using h2, fun i hi => ?_⟩
  rw [Array.getElem?_setIfInBounds]
  by_cases e : j = i
  · subst e; rw [if_pos rfl, if_pos (by omega), hx]
  · rw [if_neg e]; exact h3 i (by omega)
theorem RowN.own (h : RowN w g n n f) {B : Nat} (hB : B ≤ g) (hn : n ≤ 1000000) {l : List Int} (hl : l = (List.range n).map f) : OwnI w B (.slice (some ⟨g, 0, none⟩) n n) l := by
  obtain ⟨cur, h1, h2, h3⟩ := h
  have hln : l.length = n := by rw [hl]; simp
  have := OwnI.of_parts (l := l) (cap := n) hB h1 (by omega) (by unfold maxLen; omega) h2 (fun i hi => by rw [h3 i (by omega)]; simp [hl])
  rw [hln] at this
  exact this
end
theorem rowN_made (w : World) (n : Nat) (f : Nat → Int) : RowN (w.alloc (.cells (madeCells #[.int .i64 0] n) 3)) w.heap.size n 0 f := ⟨_, newB8 w _, size_madeCells _ _, fun _ hi => absurd hi (Nat.not_lt_zero _)⟩
set_option maxRecDepth 100000 in
set_option maxHeartbeats 8000000 in
theorem impl_ruler (g : Gr) (w : World) (B : Nat) (v : Array Value) (h : GrIs w B v g) (GO : OkIs 65 g) :
    Calls Try.prog 19 #[.agg v] w fun en w' => ∃ v', en = .returned v' ∧ OwnI w' w.heap.size v' (rulerP g) ∧ Below w.heap.size w w' := by
  have CR := hideP (fun W (hW : Below w.heap.size w W) => impl_rules g W B v (GrKeeps.stays h hW) GO)
  obtain ⟨L, hL⟩ : ∃ L, rulesP g = L := ⟨_, rfl⟩
  have EP : Hid (rulerP g = rulerUp L L.length) := by show rulerP g = _; unfold rulerP; rw [hL]
  have HIT : Hid (grOk g = true → ∀ k, k < g.blocks.length → ∀ x ∈ L.getD k [], (L.getD x.toNat []).length + 1 = (L.getD k []).length → bestUp L k (L.getD k []).length = x) := fun e k hk x hx hl => by subst hL; exact ruler_hit e hk hx hl
  have NON : Hid (grOk g = true → ∀ k, k < g.blocks.length → (∀ x ∈ L.getD k [], (L.getD x.toNat []).length + 1 ≠ (L.getD k []).length) → bestUp L k (L.getD k []).length = -1) := fun e k hk hl => by subst hL; exact ruler_none e hk hl
  have LEN : Hid ((grOk g = true → L.length = g.blocks.length) ∧ (grOk g = false → L = [])) := by
    subst hL
    unfold rulesP
    exact ⟨fun e => by rw [if_pos e, rulUp_len], fun e => by rw [if_neg (by rw [e]; simp)]⟩
  have ROW : Hid (grOk g = true → ∀ t, t < g.blocks.length → rlUp g.blocks g.blocks.length t = L.getD t []) := fun e t ht => by subst hL; exact rlUp_get e ht
  have RIN : Hid (grOk g = true → ∀ k, k < g.blocks.length → ∀ x ∈ L.getD k [], ∃ t : Nat, x = (t : Int) ∧ t < g.blocks.length) := fun e k hk x hx => by subst hL; exact reach_nat (allIn_of e) (grOk_blocks e).1 ((rules_mem e hk x).1 hx).1
  have HN : Hid (grOk g = true → g.blocks.length ≤ 300) := fun e => (grOk_blocks e).2
  have SH : Hid (∀ k, (L.getD k []).length ≤ 300) := fun k => by subst hL; exact rulesP_short g k
  rw [EP.out]
  clear EP hL GO
  obtain ⟨sizes, params, vars, slots, blocks⟩ := g
  obtain ⟨us, cs, ub, cb, rfl, _, _, _⟩ := h
  simp only at *
  have AL := hideP ((Below.refl w.heap.size w).alloc (Nat.le_refl _) (.cells #[.slice us sizes.length cs, .int .i64 params, .int .i64 vars, .int .i64 slots, .slice ub blocks.length cb] 31))
  go_enter Try.func19, Try.ntmps19
  go_wp2
  go_step3
  go_wp2_with fail
  refine (CR.out _ AL.out).mono ?_
  rintro e1 w1 (⟨hy, ga, av, rfl, a1, hga, b1⟩ | ⟨hy, ga, av, rfl, a1, hga, b1⟩)
  · have BB := hideP (below_trans AL.out b1)
    have E0 : Hid (rulerUp L L.length = []) := by show _ = _; rw [LEN.out.2 hy]; rfl
    have hm : ∀ W : World, (Instr.makeSlice 22 (.int .i64 0) (.int .i64 0)).run Try.prog W = .ok (.slice (some ⟨W.heap.size, 0, none⟩) 0 0) (W.alloc (.cells (madeCells #[.int .i64 0] 0) 3)) := fun W => make_int 0 (by omega) W
    have O0 := hideP (own_lit w1 [] (madeCells #[.int .i64 0] 0) w1.heap.size 0 rfl rfl (by simp [madeCells]) (by simp))
    clear b1 a1 CR HIT NON LEN ROW RIN HN hy
    go_wp2
    go_step3
    go_wp2
    go_loopw [16] (fun ix wr => ix = .int .i64 0 ∧ wr = w1.alloc (.cells (madeCells #[.int .i64 0] 0) 3)) (fun _ _ => 0)
    case atStart => exact ⟨rfl, rfl⟩
    case round =>
      obtain ⟨rfl, rfl⟩ := hrel
      go_wp2
      rw [Exit.noGoto_ret]
      go_ret
      exact ⟨_, rfl, by rw [E0.out]; exact O0.out.mono BB.out.size, BB.out.alloc BB.out.size _⟩
  · have BB := hideP (below_trans AL.out b1)
    have hn := HN.out hy
    have ROW1 := hideP (ROW.out hy)
    have HIT1 := hideP (HIT.out hy)
    have NON1 := hideP (NON.out hy)
    have RIN1 := hideP (RIN.out hy)
    have EL := hideP (LEN.out.1 hy)
    have al := (Below.refl w1.heap.size w1).alloc (Nat.le_refl _) (.cells (madeCells #[.int .i64 0] blocks.length) 3)
    have A0 := hideP ((a1.congr (ROW.out hy)).stays al)
    have R0 := hideP (rowN_made w1 blocks.length (fun k => bestUp L k (L.getD k []).length))
    have B0 := hideP (below_trans BB.out al)
    have hws : w.heap.size ≤ w1.heap.size := BB.out.size
    have hm := make_int blocks.length (by omega)
    have DJ : Hid (∀ t, t < blocks.length → ∀ g, (av t).ownBlock = some g → g < w1.heap.size) := fun t ht g hg => ((a1.own t ht).low g hg).2.1
    have hgw : ga < w1.heap.size := let ⟨_, h1, _⟩ := a1.row; hltP h1
    clear b1 a1 CR HIT NON LEN ROW RIN HN hy al BB
    go_wp2
    go_step3
    go_wp2
    obtain ⟨gr, hgr⟩ : ∃ gr, w1.heap.size = gr := ⟨_, rfl⟩
    obtain ⟨W0, hW0⟩ : ∃ W0, w1.alloc (.cells (madeCells #[.int .i64 0] blocks.length) 3) = W0 := ⟨_, rfl⟩
    rw [hW0] at A0 R0 B0 ⊢
    rw [hgr] at R0 hws hgw DJ ⊢
    clear hgr hW0 hm
    go_loopg [16] blocks.length (fun gk ix wr => ∃ (j : Nat), gk + j = blocks.length ∧ ix = .int .i64 j ∧ Hid (AhAt (w.alloc (.cells #[.slice us sizes.length cs, .int .i64 params, .int .i64 vars, .int .i64 slots, .slice ub blocks.length cb] 31)).heap.size blocks.length ga av (fun t => L.getD t []) wr) ∧ Hid (RowN wr gr blocks.length j (fun k => bestUp L k (L.getD k []).length)) ∧ Hid (Below w.heap.size w wr))
    case atStart => exact ⟨0, by simp, rfl, A0.out, R0.out, B0.out⟩
    case round =>
      obtain ⟨j, hj, rfl, hA, hR, hE⟩ := hrel
      clear A0 R0 B0
      by_cases hlt : j < blocks.length
      · have PUT : Hid (∀ x, bestUp L j (L.getD j []).length = x → AhAt (w.alloc (.cells #[.slice us sizes.length cs, .int .i64 params, .int .i64 vars, .int .i64 slots, .slice ub blocks.length cb] 31)).heap.size blocks.length ga av (fun t => L.getD t []) (wr.setCell ⟨gr, j, none⟩ (.int .i64 x)) ∧ RowN (wr.setCell ⟨gr, j, none⟩ (.int .i64 x)) gr blocks.length (j + 1) (fun k => bestUp L k (L.getD k []).length) ∧ Below w.heap.size w (wr.setCell ⟨gr, j, none⟩ (.int .i64 x))) := fun x hx => by
          have hb : But gr wr (wr.setCell ⟨gr, j, none⟩ (.int .i64 x)) := (But.refl gr _).set _ _
          obtain ⟨cur, r1, r2, r3⟩ := hA.out.row
          refine ⟨⟨⟨cur, (hb.block ga (hltP r1) (by omega)).trans r1, r2, r3⟩, fun t ht => (hA.out.own t ht).keep (fun g hg hlt2 => hb.block g hlt2 (by have := DJ.out t ht g hg; omega)), hA.out.dis⟩, hR.out.put hlt hx, hE.out.trans (hb.below hws hE.out.size)⟩
        obtain ⟨m1, _⟩ := hA.out.at hlt
        have NJ := hideP (hA.out.own j hlt)
        obtain ⟨⟨u1, c1⟩, f1⟩ := hR.out.can hlt
        obtain ⟨AV, hAV⟩ : ∃ AV, av j = AV := ⟨_, rfl⟩
        obtain ⟨D, hD⟩ : ∃ D, L.getD j [] = D := ⟨_, rfl⟩
        have HITJ := hideP (HIT1.out j hlt)
        have NONJ := hideP (NON1.out j hlt)
        have RINJ := hideP (RIN1.out j hlt)
        have hDl : D.length ≤ 300 := by rw [← hD]; exact SH.out j
        rw [hAV, hD] at NJ
        rw [hAV] at m1
        rw [hD] at HITJ NONJ RINJ PUT
        clear hAV hD
        have NI := NJ.out.ints
        obtain ⟨ua, ca, rfl, hia⟩ := NI
        have HIA := hideP hia
        clear hia NJ
        go_wp2
        go_loopg [23] D.length (fun gk2 ix wr2 => ∃ (i : Nat), gk2 + i = D.length ∧ ix = .int .i64 i ∧ wr2 = wr ∧ Hid (∀ x ∈ D.take i, (L.getD x.toNat []).length + 1 ≠ D.length))
        case atStart => exact ⟨0, by simp, rfl, rfl, by show ∀ x ∈ _, _; simp⟩
        case round =>
          obtain ⟨i, hi, rfl, rfl, hN⟩ := hrel
          by_cases hil : i < D.length
          · obtain ⟨x, hx⟩ : ∃ x, D[i] = x := ⟨_, rfl⟩
            have hxm : x ∈ D := hx ▸ List.getElem_mem hil
            obtain ⟨t, ht, htn⟩ := RINJ.out x hxm
            subst ht
            obtain ⟨b0, o0, hua, x0⟩ : ∃ b0 o0, ua = some ⟨b0, o0, none⟩ ∧ wr.cell? ⟨b0, o0 + i, none⟩ = some (.int .i64 D[i]) := by
              rcases HIA.out.2 with h0 | ⟨b, o, hua, _, _, _, hc⟩
              · omega
              · exact ⟨b, o, hua, hc i hil⟩
            subst hua
            rw [hx] at x0
            have TK : Hid (D.take (i + 1) = D.take i ++ [(t : Int)]) := by show _ = _; rw [List.take_succ_eq_append_getElem hil, hx]
            obtain ⟨m2, _⟩ := hA.out.at htn
            have NT := (hA.out.own t htn).ints
            obtain ⟨ut, ct, hvt, _⟩ := NT
            rw [hvt] at m2
            have HXM := hideP hxm
            obtain ⟨LT, hLT⟩ : ∃ LT, (L.getD t []).length = LT := ⟨_, rfl⟩
            have hLT3 : LT ≤ 300 := by rw [← hLT]; exact SH.out t
            have HITX := hideP (HITJ.out (t : Int) hxm)
            rw [hLT] at m2
            rw [Int.toNat_natCast, hLT] at HITX
            have HLT := hideP hLT
            clear hx hxm hvt hLT
            by_cases hq : LT + 1 = D.length
            · have q1 : ((LT : Int) == (D.length : Int) - 1) = true := by rw [beq_iff_eq]; omega
              have q2 : decide ((LT : Int) = (D.length : Int) - 1) = true := by rw [decide_eq_true_eq]; omega
              have q3 : (LT : Int) = (D.length : Int) - 1 := by omega
              have P2 := hideP (PUT.out _ (HITX.out hq))
              clear PUT hN hA hR hE hq
              go_wp2
              go_roundg (blocks.length - (j + 1))
              case rel => exact ⟨j + 1, by omega, by go_num, P2.out.1, P2.out.2.1, P2.out.2.2⟩
              case measure => omega
            · have q1 : ((LT : Int) == (D.length : Int) - 1) = false := by rw [beq_eq_false_iff_ne]; omega
              have q2 : decide ((LT : Int) = (D.length : Int) - 1) = false := by rw [decide_eq_false_iff_not]; omega
              have q3 : ¬ (LT : Int) = (D.length : Int) - 1 := by omega
              have N2 : Hid (∀ x ∈ D.take (i + 1), (L.getD x.toNat []).length + 1 ≠ D.length) := fun x hx => by
                rw [TK.out] at hx
                rcases List.mem_append.1 hx with hx | hx
                · exact hN.out x hx
                · rw [List.mem_singleton.1 hx, Int.toNat_natCast, HLT.out]; exact hq
              clear hq hN
              go_wp2
              go_roundg (D.length - (i + 1))
              case rel => exact ⟨i + 1, by omega, by go_num, rfl, N2.out⟩
              case measure => omega
          · have hin : i = D.length := by omega
            subst hin
            have EB := hideP (NONJ.out (by have := hN.out; rw [List.take_length] at this; exact this))
            have P2 := hideP (PUT.out _ EB.out)
            clear PUT hN hA hR hE
            go_wp2
            go_roundg (blocks.length - (j + 1))
            case rel => exact ⟨j + 1, by omega, by go_num, P2.out.1, P2.out.2.1, P2.out.2.2⟩
            case measure => omega
      · have hjn : j = blocks.length := by omega
        subst hjn
        go_wp2
        rw [Exit.noGoto_ret]
        go_ret
        exact ⟨_, rfl, hR.out.own hws (by omega) (by unfold rulerUp; rw [EL.out]), hE.out⟩
end Go.Proofs.Ytooaoankloocmaa
