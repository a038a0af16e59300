/- The contract of spec.Deep (written by wip/mkdeps.py). -/
import Derived.Test.YtooaoankloocmabDepP
import Derived.Test.YtooaoankloocmabLopS
import Derived.Test.YtooaoankloocmabBksS
import Derived.Test.YtooaoankloocmabBlsA
namespace Go.Proofs.Ytooaoankloocmab
open Go.ChangeShapes Go.WideShapes Go.ChangeAt Go.RowKit
/-- What the loops of Deep carry. -/
structure DsAt (w : World) (bv : Array Value) (lo n go co : Nat) (f : Nat → Int) (gq cq : Nat) (Q : List (Nat × Nat)) (W : World) : Prop where
  box : W.heap[w.heap.size]? = some (.cells bv 30 (0, 0))
  out : OwnI W lo (.slice (some ⟨go, 0, none⟩) n co) (rowF n f)
  bk : OwnE A2E W 0 (.slice (some ⟨gq, 0, none⟩) Q.length cq) Q
  lo1 : w.heap.size < lo
  bel : Below w.heap.size w W
section
variable {w W W' : World} {bv : Array Value} {lo n go co : Nat} {f f' : Nat → Int} {gq cq : Nat} {Q : List (Nat × Nat)}
theorem DsAt.stays (h : DsAt w bv lo n go co f gq cq Q W) (b : Below W.heap.size W W') : DsAt w bv lo n go co f gq cq Q W' := ⟨(b.block _ (hltP h.box)).trans h.box, h.out.stays b, h.bk.stays b, h.lo1, below_trans h.bel b⟩
theorem DsAt.congr (h : DsAt w bv lo n go co f gq cq Q W) (e : ∀ t, t < n → f t = f' t) : DsAt w bv lo n go co f' gq cq Q W := by
  have e2 : rowF n f = rowF n f' := by unfold rowF; exact List.map_congr_left (fun t ht => e t (List.mem_range.1 ht))
  exact ⟨h.box, e2 ▸ h.out, h.bk, h.lo1, h.bel⟩
theorem DsAt.put (h : DsAt w bv lo n go co f gq cq Q W) {i : Nat} (hi : i < n) {x : Int} (e : ∀ t, t < n → f' t = if t = i then x else f t) : DsAt w bv lo n go co f' gq cq Q (W.setCell ⟨go, i, none⟩ (.int .i64 x)) := by
  have hb : But go W (W.setCell ⟨go, i, none⟩ (.int .i64 x)) := (But.refl _ _).set _ _
  have hg := h.out.low go rfl
  have h1 := h.lo1
  refine ⟨hb.keepB h.box (by omega), h.out.setF hi e, h.bk.butG hb (fun e2 => ?_), h.lo1, h.bel.trans (hb.below (by omega) h.bel.size)⟩
  obtain ⟨c2, h2⟩ := A2typS h.bk (g := gq) rfl
  obtain ⟨c3, h3⟩ := h.out.typ (g := go) rfl
  have e3 : gq = go := by simpa [Value.ownBlock] using e2
  exact typ_ne h2 h3 (by decide) e3
end
set_option maxRecDepth 100000 in
set_option maxHeartbeats 8000000 in
theorem spec_deep (g : Gr) (w : World) (B : Nat) (v : Array Value) (h : GrIs w B v g) (GO : OkIs 18 g) :
    Calls Try.prog 6 #[.agg v] w fun en w' => ∃ v', en = .returned v' ∧ OwnI w' w.heap.size v' (deepP g) ∧ Below w.heap.size w w' := by
  obtain ⟨y, hy⟩ : ∃ y, grOk g = y := ⟨_, rfl⟩
  have CY : Hid (∀ W, Below w.heap.size w W → Calls Try.prog 18 #[.agg v] W fun en w' => en = .returned (.bool y) ∧ Below W.heap.size W w') := fun W hW => by rw [← hy]; exact GO W B v (GrKeeps.stays h hW)
  have CB := hideP (fun W (hW : Below w.heap.size w W) => spec_backs g W B v (GrKeeps.stays h hW) GO)
  have CL : Hid (∀ p ∈ backsP g, ∀ W, Below w.heap.size w W → Calls Try.prog 21 #[.agg v, .int .i64 (p.1 : Int), .int .i64 (p.2 : Int)] W fun en w' => ∃ v', en = .returned v' ∧ OwnI w' W.heap.size v' (lopTo g.blocks (p.1 : Int) (p.2 : Int)) ∧ Below W.heap.size W w') := fun p hp W hW => by
    obtain ⟨hok, b1, b2, _⟩ := backs_in hp
    exact spec_l10Loop g _ _ W B v (GrKeeps.stays h hW) hok ⟨by omega, by omega⟩ ⟨by omega, by omega⟩ GO
  have QIN : Hid (∀ p ∈ backsP g, InR g.blocks.length (p.1 : Int) ∧ InR g.blocks.length (p.2 : Int)) := fun p hp => by
    obtain ⟨_, b1, b2, _⟩ := backs_in hp
    exact ⟨⟨by omega, by omega⟩, ⟨by omega, by omega⟩⟩
  have BLN := hideP (backsP_len g)
  have HN : Hid (y = true → g.blocks.length ≤ 300) := fun e => (grOk_blocks (hy.trans e)).2
  obtain ⟨P, hP⟩ : ∃ P, deepP g = P := ⟨_, rfl⟩
  have EP : Hid ((y = false → P = []) ∧ (y = true → P = rowF g.blocks.length (fun y => ((depN g.blocks (backsP g) g.blocks.length (y : Int) : Nat) : Int)))) := by
    rw [← hP]
    unfold deepP
    rw [hy]
    exact ⟨fun e => if_neg (by rw [e]; simp), fun e => if_pos e⟩
  obtain ⟨Q, hQ⟩ : ∃ Q, backsP g = Q := ⟨_, rfl⟩
  rw [hP]
  rw [hQ] at CB CL QIN BLN EP
  clear hP hQ GO hy
  obtain ⟨sizes, params, vars, slots, blocks⟩ := g
  obtain ⟨us, cs, ub, cb, rfl, _, _, _⟩ := h
  simp only at *
  have hQl := BLN.out
  have AL := hideP (below2 w (.cells #[.slice us sizes.length cs, .int .i64 params, .int .i64 vars, .int .i64 slots, .slice ub blocks.length cb] 30) (.cells #[] 3))
  have BX1 := hideP (two (w := w) (o1 := .cells #[.slice us sizes.length cs, .int .i64 params, .int .i64 vars, .int .i64 slots, .slice ub blocks.length cb] 30) (o2 := .cells #[] 3) (Below.refl _ _)).1
  have O1 : Hid (OwnI ((w.alloc (.cells #[.slice us sizes.length cs, .int .i64 params, .int .i64 vars, .int .i64 slots, .slice ub blocks.length cb] 30)).alloc (.cells #[] 3)) (w.heap.size + 1) (.slice (some ⟨w.heap.size + 1, 0, none⟩) 0 0) []) := by
    have := own_lit (w.alloc (.cells #[.slice us sizes.length cs, .int .i64 params, .int .i64 vars, .int .i64 slots, .slice ub blocks.length cb] 30)) [] #[] (w.heap.size + 1) 0 (by simp) rfl rfl (by simp)
    show OwnI _ _ _ _
    simpa using this
  cases y with
  | false =>
    have E0 := hideP (EP.out.1 rfl)
    clear EP HN CB CL
    go_enter Try.func6, Try.ntmps6
    go_wp2_with fail
    refine (CY.out _ AL.out).mono ?_
    rintro e1 w1 ⟨rfl, b1⟩
    have BB := hideP (below_trans AL.out b1)
    have OO := hideP ((O1.out.stays b1).mono (Nat.le_succ _))
    clear b1
    go_wp2
    go_ret
    exact ⟨_, rfl, by rw [E0.out]; exact OO.out, BB.out⟩
  | true =>
    have E1 := hideP (EP.out.2 rfl)
    have hn := HN.out rfl
    have ZA := hideP (fun W => zeros_any blocks.length W (by omega))
    clear EP HN O1
    go_enter Try.func6, Try.ntmps6
    go_wp2_with fail
    refine (CY.out _ AL.out).mono ?_
    rintro e1 w1 ⟨rfl, b1⟩
    have BB := hideP (below_trans AL.out b1)
    have BX := hideP ((b1.block _ (hltP BX1.out)).trans BX1.out)
    have x4 := (cells_of BX.out).1 4
    simp at x4
    have hw1 : w.heap.size < w1.heap.size := hltP BX.out
    clear b1 BX1 AL CY
    go_wp2_with fail
    refine (ZA.out _).mono ?_
    rintro e2 w2 ⟨v2, rfl, o2, b2⟩
    obtain ⟨go, co, hv2, _⟩ := id o2
    rw [List.length_replicate] at hv2
    subst hv2
    have O2 : Hid (OwnI w2 w1.heap.size (.slice (some ⟨go, 0, none⟩) blocks.length co) (rowF blocks.length (fun y => ((depN blocks Q 0 (y : Int) : Nat) : Int)))) := by
      have e : rowF blocks.length (fun y => ((depN blocks Q 0 (y : Int) : Nat) : Int)) = List.replicate blocks.length 0 := by
        unfold rowF
        have h0 : ∀ y : Nat, ((depN blocks Q 0 (y : Int) : Nat) : Int) = 0 := fun y => rfl
        simp only [h0]
        rw [List.map_const', List.length_range]
      rw [e]; exact o2
    have B2 := hideP (below_trans BB.out b2)
    have X2 := hideP ((b2.block _ (hltP BX.out)).trans BX.out)
    have bxf := (cells_of X2.out).1
    have z0 := bxf 0
    have z1 := bxf 1
    have z2 := bxf 2
    have z3 := bxf 3
    have z4 := bxf 4
    simp at z0 z1 z2 z3 z4
    clear bxf o2 b2 x4 BB BX ZA
    go_wp2_with fail
    refine (CB.out _ B2.out).mono ?_
    rintro e3 w3 ⟨v3, rfl, o3, b3⟩
    obtain ⟨gq, cq, hv3, _⟩ := id o3
    subst hv3
    have K3 : Hid (DsAt w #[.slice us sizes.length cs, .int .i64 params, .int .i64 vars, .int .i64 slots, .slice ub blocks.length cb] w1.heap.size blocks.length go co (fun y => ((depN blocks Q 0 (y : Int) : Nat) : Int)) gq cq Q w3) := ⟨(b3.block _ (hltP X2.out)).trans X2.out, O2.out.stays b3, o3.mono (Nat.zero_le _), hw1, below_trans B2.out b3⟩
    obtain ⟨lo, hlo⟩ : ∃ lo, w1.heap.size = lo := ⟨_, rfl⟩
    rw [hlo] at K3
    clear o3 b3 O2 B2 X2 z0 z1 z2 z3 z4 CB hlo hw1
    go_wp2
    go_loopg [5] blocks.length (fun gk ix wr => ∃ j : Nat, gk + j = blocks.length ∧ ix = .int .i64 j ∧ Hid (DsAt w #[.slice us sizes.length cs, .int .i64 params, .int .i64 vars, .int .i64 slots, .slice ub blocks.length cb] lo blocks.length go co (fun y => ((depN blocks Q j (y : Int) : Nat) : Int)) gq cq Q wr))
    case atStart => exact ⟨0, by simp, rfl, K3.out⟩
    case round =>
      obtain ⟨j, hj, rfl, hK⟩ := hrel
      clear K3
      have x4 := (cells_of hK.out.box).1 4
      simp at x4
      by_cases hlt : j < blocks.length
      · have al := (Below.refl wr.heap.size wr).alloc (Nat.le_refl _) (.cells #[] 3)
        have K4 := hideP (hK.out.stays al)
        have I0 := hideP (own_lit wr [] #[] wr.heap.size 0 rfl rfl rfl (by simp))
        have hgo : go < wr.heap.size := (hK.out.out.low go rfl).2
        obtain ⟨lr, hlr⟩ : ∃ lr, wr.heap.size = lr := ⟨_, rfl⟩
        have HLR := hideP hlr
        clear al hK hlr
        go_wp2
        clear x4
        rw [HLR.out] at I0 hgo ⊢
        clear HLR
        go_loopg [6, 7] Q.length (fun gk2 q ix W => ∃ (i : Nat) (U : List Int), gk2 + i = Q.length ∧ ix = .int .i64 i ∧ Hid (DsAt w #[.slice us sizes.length cs, .int .i64 params, .int .i64 vars, .int .i64 slots, .slice ub blocks.length cb] lo blocks.length go co (fun y => ((depN blocks Q j (y : Int) : Nat) : Int)) gq cq Q W) ∧ Hid (OwnI W lr q U) ∧ Hid (DeU blocks Q (j : Int) i [] 0 U))
        case atStart => exact ⟨0, [], by simp, rfl, K4.out, I0.out, deU_start⟩
        case round =>
          obtain ⟨i, U, hi, rfl, hK, hI, hU⟩ := hrel
          clear K4 I0
          by_cases hil : i < Q.length
          · obtain ⟨p, hp⟩ : ∃ p, Q[i] = p := ⟨_, rfl⟩
            have PM : Hid (p ∈ Q) := hp ▸ List.getElem_mem hil
            have q0 := hK.out.bk.at A2Ok i hil 0 (by decide)
            have q1 := hK.out.bk.at A2Ok i hil 1 (by decide)
            rw [hp] at q0 q1
            simp [A2E] at q0 q1
            have SKP := hideP (fun hne => hU.out.skip (O' := []) hil hp hne)
            have OUT : Hid (∀ O U, (p.2 : Int) = (j : Int) → DeU blocks Q (j : Int) i O O.length U → (∀ y, y ∈ O ↔ LopM blocks (p.1 : Int) (j : Int) y) → DeU blocks Q (j : Int) (i + 1) [] 0 U) := fun O U he h1 h2 => h1.out hil hp he h2
            clear hp
            by_cases hpj : (p.2 : Int) = (j : Int)
            · have h1 : ((p.2 : Int) == (j : Int)) = true := by simpa using hpj
              have h2 : decide ((p.2 : Int) = (j : Int)) = true := by simpa using hpj
              have bxf := (cells_of hK.out.box).1
              have y0 := bxf 0
              have y1 := bxf 1
              have y2 := bxf 2
              have y3 := bxf 3
              have y4 := bxf 4
              simp at y0 y1 y2 y3 y4
              have hbw := hltP hK.out.box
              have NL : Hid (∀ W', Below wr.heap.size wr W' → Calls Try.prog 21 #[.agg #[.slice us sizes.length cs, .int .i64 params, .int .i64 vars, .int .i64 slots, .slice ub blocks.length cb], .int .i64 (p.1 : Int), .int .i64 (j : Int)] W' fun en w' => ∃ g2 c2, en = .returned (.slice (some ⟨g2, 0, none⟩) (lopTo blocks (p.1 : Int) (j : Int)).length c2) ∧ OwnI w' wr.heap.size (.slice (some ⟨g2, 0, none⟩) (lopTo blocks (p.1 : Int) (j : Int)).length c2) (lopTo blocks (p.1 : Int) (j : Int)) ∧ Below wr.heap.size wr w') := fun W' bel => by
                have := CL.out p PM.out W' (below_trans hK.out.bel bel)
                rw [hpj] at this
                refine this.mono ?_
                rintro en w' ⟨v', he, ho, hb'⟩
                obtain ⟨g2, c2, rfl, _⟩ := id ho
                exact ⟨g2, c2, he, ho.mono bel.size, bel.trans (hb'.mono bel.size)⟩
              have SK : Hid (∀ W', Below wr.heap.size wr W' → W'.cell? ⟨w.heap.size, 0, none⟩ = some (.slice us sizes.length cs) ∧ W'.cell? ⟨w.heap.size, 1, none⟩ = some (.int .i64 params) ∧ W'.cell? ⟨w.heap.size, 2, none⟩ = some (.int .i64 vars) ∧ W'.cell? ⟨w.heap.size, 3, none⟩ = some (.int .i64 slots) ∧ W'.cell? ⟨w.heap.size, 4, none⟩ = some (.slice ub blocks.length cb) ∧ W'.cell? ⟨gq, i * 2, none⟩ = some (.int .i64 (p.1 : Int))) := fun W' bel => ⟨(bel.cell (p := ⟨w.heap.size, 0, none⟩) hbw).trans y0, (bel.cell (p := ⟨w.heap.size, 1, none⟩) hbw).trans y1, (bel.cell (p := ⟨w.heap.size, 2, none⟩) hbw).trans y2, (bel.cell (p := ⟨w.heap.size, 3, none⟩) hbw).trans y3, (bel.cell (p := ⟨w.heap.size, 4, none⟩) hbw).trans y4, (bel.cell (p := ⟨gq, i * 2, none⟩) (World.block_lt_of_cell? wr _ q0)).trans q0⟩
              have PIN := QIN.out p PM.out
              have OIN : Hid (∀ y ∈ lopTo blocks (p.1 : Int) (j : Int), InR blocks.length y) := fun y hy => by rw [← hpj] at hy; exact lopM_in PIN.1 PIN.2 ((lopTo_mem PIN.1 PIN.2 y).1 hy)
              have OMM : Hid (∀ y, y ∈ lopTo blocks (p.1 : Int) (j : Int) ↔ LopM blocks (p.1 : Int) (j : Int) y) := fun y => by rw [← hpj]; exact lopTo_mem PIN.1 PIN.2 y
              have HPJ := hideP hpj
              clear bxf hpj PIN SKP
              go_upto_region 14 with fail
              clear y0 y1 y2 y3 y4 q0 q1
              go_region_held3 (fun W' => W'.cell? ⟨w.heap.size, 0, none⟩ = some (.slice us sizes.length cs) ∧ W'.cell? ⟨w.heap.size, 1, none⟩ = some (.int .i64 params) ∧ W'.cell? ⟨w.heap.size, 2, none⟩ = some (.int .i64 vars) ∧ W'.cell? ⟨w.heap.size, 3, none⟩ = some (.int .i64 slots) ∧ W'.cell? ⟨w.heap.size, 4, none⟩ = some (.slice ub blocks.length cb) ∧ W'.cell? ⟨gq, i * 2, none⟩ = some (.int .i64 (p.1 : Int))) (first | exact SK.out _ (Below.refl _ _) | exact SK.out _ (Below.refl _ _).drew | exact SK.out _ FR.out) (first
                | (go_at_call 21; refine (NL.out _ (Below.refl _ _).drew).mono ?_; rintro yy wy ⟨g2, c2', rfl, on, fn⟩; have ON := hideP on; have FR := hideP fn; clear on fn))
              obtain ⟨O, hO⟩ : ∃ O, lopTo blocks (p.1 : Int) (j : Int) = O := ⟨_, rfl⟩
              rw [hO] at ON OIN OMM ⊢
              have hOl : O.length ≤ 300 := by rw [← hO]; exact Nat.le_trans (upB_len _ _) hn
              have K5 := hideP (hK.out.stays FR.out)
              have I5 := hideP (hI.out.stays FR.out)
              have O5 := hideP (ON.out.mono (Nat.zero_le _))
              have U5 := hideP (hU.out.enter (O' := O))
              clear hO hK hI hU SK NL FR ON
              go_wp2
              go_loopg [6, 9] O.length (fun gk3 q ix W => ∃ (k : Nat) (U : List Int), gk3 + k = O.length ∧ ix = .int .i64 k ∧ Hid (DsAt w #[.slice us sizes.length cs, .int .i64 params, .int .i64 vars, .int .i64 slots, .slice ub blocks.length cb] lo blocks.length go co (fun y => ((depN blocks Q j (y : Int) : Nat) : Int)) gq cq Q W) ∧ Hid (OwnI W lr q U) ∧ Hid (OwnI W 0 (.slice (some ⟨g2, 0, none⟩) O.length c2') O) ∧ Hid (DeU blocks Q (j : Int) i O k U) ∧ Hid (lr ≤ W.heap.size))
              case atStart => exact ⟨0, U, by simp, rfl, K5.out, I5.out, O5.out, U5.out, by obtain ⟨gx, cx, hvx, _⟩ := id I5.out; have := I5.out.low gx (by rw [hvx]; rfl); show lr ≤ _; omega⟩
              case round =>
                obtain ⟨k, U, hk, rfl, hK, hI, hO, hU, hz⟩ := hrel
                clear K5 I5 O5 U5
                by_cases hkl : k < O.length
                · obtain ⟨x, hx⟩ : ∃ x, O[k] = x := ⟨_, rfl⟩
                  have c0 := hO.out.at k hkl
                  rw [hx, Nat.zero_add] at c0
                  have hUl := (hU.out.few QIN.out OIN.out).1
                  have LA := hideP (l02Add_own U x wr lr _ hI.out (by omega) hz.out)
                  have U2 := hideP (hU.out.add hkl hx)
                  obtain ⟨gu, cu, hvu, _⟩ := id hI.out
                  subst hvu
                  clear hx hU
                  go_wp2_with fail
                  refine LA.out.mono ?_
                  rintro e9 w9 ⟨v9, rfl, o9, b9⟩
                  have K9 := hideP (hK.out.stays b9)
                  have O9 := hideP (hO.out.stays b9)
                  have I9 := hideP o9
                  have Z9 : Hid (lr ≤ w9.heap.size) := Nat.le_trans hz.out b9.size
                  clear o9 b9 hK hO hI LA c0
                  go_wp2
                  go_roundg (O.length - (k + 1))
                  case rel => exact ⟨k + 1, _, by omega, by go_num, K9.out, I9.out, O9.out, U2.out, Z9.out⟩
                  case measure => omega
                · have hkn : k = O.length := by omega
                  subst hkn
                  have U2 := hideP (OUT.out O U HPJ.out hU.out OMM.out)
                  clear hU
                  go_wp2
                  go_roundg (Q.length - (i + 1))
                  case rel => exact ⟨i + 1, U, by omega, by go_num, hK.out, hI.out, U2.out⟩
                  case measure => omega
            · have h1 : ((p.2 : Int) == (j : Int)) = false := by simpa using hpj
              have h2 : decide ((p.2 : Int) = (j : Int)) = false := by simpa using hpj
              have U2 := hideP (SKP.out hpj)
              clear hpj SKP OUT hU
              go_wp2
              go_roundg (Q.length - (i + 1))
              case rel => exact ⟨i + 1, U, by omega, by go_num, hK.out, hI.out, U2.out⟩
              case measure => omega
          · have hin : i = Q.length := by omega
            subst hin
            have UM : Hid (∀ y, y ∈ U ↔ DpM blocks Q (j : Int) y) := fun y => by rw [hU.out.2, List.take_length]; simp
            have UI := hideP (hU.out.few QIN.out (fun y hy => by simp at hy)).2
            have hUl := (hU.out.few QIN.out (fun y hy => by simp at hy)).1
            have UR := hideP hU.out.1
            obtain ⟨gu, cu, hvu, _⟩ := id hI.out
            subst hvu
            have hgu : gu ≠ go := by have := (hI.out.low gu rfl).1; omega
            clear hU
            go_wp2
            go_loopg [10] U.length (fun gk4 ix W => ∃ k : Nat, gk4 + k = U.length ∧ ix = .int .i64 k ∧ Hid (DsAt w #[.slice us sizes.length cs, .int .i64 params, .int .i64 vars, .int .i64 slots, .slice ub blocks.length cb] lo blocks.length go co (fun y => ((depN blocks Q j (y : Int) : Nat) : Int) + if (y : Int) ∈ U.take k then 1 else 0) gq cq Q W) ∧ Hid (OwnI W 0 (.slice (some ⟨gu, 0, none⟩) U.length cu) U))
            case atStart => exact ⟨0, by simp, rfl, hK.out.congr (fun t _ => by simp), hI.out.mono (Nat.zero_le _)⟩
            case round =>
              obtain ⟨k, hk, rfl, hK, hI⟩ := hrel
              by_cases hkl : k < U.length
              · obtain ⟨x, hx⟩ : ∃ x, U[k] = x := ⟨_, rfl⟩
                have hxi := UI.out x (hx ▸ List.getElem_mem hkl)
                obtain ⟨t, ht⟩ : ∃ t : Nat, x = (t : Int) := ⟨x.toNat, by have := hxi.1; omega⟩
                subst ht
                have htn : t < blocks.length := by have := hxi.2; omega
                have c0 := hI.out.at k hkl
                rw [hx, Nat.zero_add] at c0
                have hnew : ¬ (t : Int) ∈ U.take k := fun hm => by
                  obtain ⟨m, hm1, hm2⟩ := List.getElem_of_mem hm
                  rw [List.length_take] at hm1
                  rw [List.getElem_take] at hm2
                  have := List.pairwise_iff_getElem.1 UR.out m k (by omega) hkl (by omega)
                  rw [hm2, hx] at this
                  omega
                have o0 := hK.out.out.at t (by rw [rowF_len]; exact htn)
                rw [rowF_at, Nat.zero_add, if_neg hnew, Int.add_zero] at o0
                have ff : wr.frozen? ⟨go, t, none⟩ = false := by
                  obtain ⟨c3, h3⟩ := hK.out.out.typ (g := go) rfl
                  exact (cells_of h3).2 t
                have hdl := depN_le blocks Q j (t : Int)
                obtain ⟨dv, hdv⟩ : ∃ dv : Nat, depN blocks Q j (t : Int) = dv := ⟨_, rfl⟩
                rw [hdv] at o0 hdl
                have K2 := hideP (hK.out.put (f' := fun y => ((depN blocks Q j (y : Int) : Nat) : Int) + if (y : Int) ∈ U.take (k + 1) then 1 else 0) htn (x := (dv : Int) + 1) (fun u _ => by
                  rw [List.take_succ_eq_append_getElem hkl, hx]
                  by_cases e : u = t
                  · subst e
                    rw [if_pos (by simp), if_pos rfl, hdv]
                  · have e2 : ((u : Int) ∈ U.take k ++ [(t : Int)]) ↔ (u : Int) ∈ U.take k := by
                      rw [List.mem_append, List.mem_singleton]
                      exact ⟨fun h => h.elim id (fun h => by omega), Or.inl⟩
                    simp only [e2, if_neg e]))
                have I2 := hideP (hI.out.butG (((But.refl go wr).set t (.int .i64 ((dv : Int) + 1)))) (by simp [Value.ownBlock]; exact hgu))
                clear hx hxi hnew hdv hK hI
                go_upto_region 22 with fail
                go_region
                go_wp2
                go_roundg (U.length - (k + 1))
                case rel => exact ⟨k + 1, by omega, by go_num, K2.out.stays (Below.refl _ _).drew, I2.out.stays (Below.refl _ _).drew⟩
                case measure => omega
              · have hkn : k = U.length := by omega
                subst hkn
                have K2 : Hid (DsAt w #[.slice us sizes.length cs, .int .i64 params, .int .i64 vars, .int .i64 slots, .slice ub blocks.length cb] lo blocks.length go co (fun y => ((depN blocks Q (j + 1) (y : Int) : Nat) : Int)) gq cq Q wr) := hK.out.congr (fun t _ => by
                  rw [List.take_length]
                  by_cases e : DpM blocks Q (j : Int) (t : Int)
                  · rw [if_pos ((UM.out _).2 e), depN_yes e]; omega
                  · rw [if_neg (fun h => e ((UM.out _).1 h)), depN_no e]; omega)
                clear hK
                go_wp2
                go_roundg (blocks.length - (j + 1))
                case rel => exact ⟨j + 1, by omega, by go_num, K2.out⟩
                case measure => omega
      · have hjn : j = blocks.length := by omega
        subst hjn
        go_wp2
        go_ret
        exact ⟨_, rfl, by rw [E1.out]; exact hK.out.out.mono (Nat.le_of_lt hK.out.lo1), hK.out.bel⟩
end Go.Proofs.Ytooaoankloocmab
