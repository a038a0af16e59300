/- The contract of spec.Edge (written by wip/mkedgs.py). -/
import Derived.Test.YtooaoankloocmaaRlsS
import Derived.Test.YtooaoankloocmaaEdgP
import Derived.Test.YtooaoankloocmaaAddO
import Derived.Test.YtooaoankloocmaaNxA
import Derived.Test.YtooaoankloocmaaSetAll
import Derived.BigQuiet
namespace Go.Proofs.Ytooaoankloocmaa
open Go.ChangeShapes Go.WideShapes Go.ChangeAt Go.RowKit
theorem below_drewE (n : Nat) (w : World) (k : Nat) : Below n w (w.drewN k) := ⟨rfl, rfl, rfl, Nat.le_refl _, fun _ _ => rfl⟩
/-- What the loops of Edge carry. -/
structure EsAt (w : World) (bv : Array Value) (n lo3 : Nat) (v3 : Value) (rows3 : List Nat) (F : Nat → Nat → Bool) (o : Value) (rows : List (Nat × Nat × Nat)) (l : List (List Int)) (W : World) : Prop where
  ll : LlAt W (w.heap.size + 1) o rows l
  rb : RbAt n lo3 v3 rows3 F W
  box : W.heap[w.heap.size]? = some (.cells bv 31 (0, 0))
  bel : Below w.heap.size w W
section
variable {w W W' : World} {bv : Array Value} {n lo3 : Nat} {v3 : Value} {rows3 : List Nat} {F : Nat → Nat → Bool} {o o' : Value} {rows : List (Nat × Nat × Nat)} {l : List (List Int)}
theorem EsAt.stays (h : EsAt w bv n lo3 v3 rows3 F o rows l W) (b : Below W.heap.size W W') : EsAt w bv n lo3 v3 rows3 F o rows l W' := ⟨h.ll.stays b, h.rb.stays b, (b.block _ (hltP h.box)).trans h.box, below_trans h.bel b⟩
/-- One list more. -/
theorem EsAt.grow {g m cap : Nat} {k : List Int} {ob : Obj} (h : EsAt w bv n lo3 v3 rows3 F o rows l W) (hk : OwnI W (w.heap.size + 1) (.slice (some ⟨g, 0, none⟩) m cap) k) (hne : ∀ i (hi : i < rows.length), (rows[i]).1 ≠ g) (ho : OwnE LsE W' (w.heap.size + 1) o' (rows ++ [(g, m, cap)])) (hg : (W.alloc ob).grownBy W' o.ownBlock) : EsAt w bv n lo3 v3 rows3 F o' (rows ++ [(g, m, cap)]) (l ++ [k]) W' := by
  have b1 : Below W.heap.size W (W.alloc ob) := (Below.refl _ _).alloc (Nat.le_refl _) _
  have h1 := h.stays b1
  obtain ⟨go, co, hv, _⟩ := id h1.ll.own
  have hvo : o.ownBlock = some go := by rw [hv]; rfl
  obtain ⟨c2, h2⟩ := h1.ll.typ hvo
  have hlo := h1.ll.own.low go hvo
  have hg2 := hg
  rw [hvo] at hg
  exact ⟨h.ll.grow hk hne ho hg2, h1.rb.typed hg h2 (by decide) (by decide), (hg.block _ (hltP h1.box) (by intro e; injection e with e; omega)).trans h1.box, h1.bel.grown hg h1.bel.size (fun b' hb' => by injection hb' with e; omega)⟩
end
set_option maxRecDepth 100000 in
set_option maxHeartbeats 8000000 in
theorem spec_edge (g : Gr) (w : World) (B : Nat) (v : Array Value) (h : GrIs w B v g) (GO : OkIs 36 g) :
    Calls Try.prog 25 #[.agg v] w fun en w' => ∃ v' rows, en = .returned v' ∧ LlAt w' (w.heap.size + 1) v' rows (edgeP g) ∧ Below w.heap.size w w' := by
  obtain ⟨y, hy⟩ : ∃ y, grOk g = y := ⟨_, rfl⟩
  have CY : Hid (∀ W, Below w.heap.size w W → Calls Try.prog 36 #[.agg v] W fun en w' => en = .returned (.bool y) ∧ Below W.heap.size W w') := fun W hW => by rw [← hy]; exact GO W B v (GrKeeps.stays h hW)
  have CR : Hid (y = true → ∀ W, Below w.heap.size w W → Calls Try.prog 37 #[.agg v] W fun en w' => RulMade W g.blocks en w') := fun e W hW => spec_rules g W B v (GrKeeps.stays h hW) (by rw [hy]; exact e) GO
  have OKT : Hid (y = true → AllIn g.blocks ∧ g.blocks.length ≤ 300) := fun e => ⟨allIn_of (by rw [hy]; exact e), (grOk_blocks (by rw [hy]; exact e)).2⟩
  obtain ⟨P, hP⟩ : ∃ P, edgeP g = P := ⟨_, rfl⟩
  have EP : Hid ((y = false → P = []) ∧ (y = true → P = edgUp g.blocks g.blocks.length)) := by
    rw [← hP]
    unfold edgeP
    rw [hy]
    exact ⟨fun e => if_neg (by rw [e]; simp), fun e => if_pos e⟩
  rw [hP]
  clear hP GO hy
  obtain ⟨sizes, params, vars, slots, blocks⟩ := g
  obtain ⟨us, cs, ub, cb, rfl, _, _, hbb⟩ := h
  simp only at *
  have HBB := hideP hbb
  have AL := hideP (below2 w (.cells #[.slice us sizes.length cs, .int .i64 params, .int .i64 vars, .int .i64 slots, .slice ub blocks.length cb] 31) (.cells #[] 22))
  have BX1 := hideP (two (w := w) (o1 := .cells #[.slice us sizes.length cs, .int .i64 params, .int .i64 vars, .int .i64 slots, .slice ub blocks.length cb] 31) (o2 := .cells #[] 22) (Below.refl _ _)).1
  have L1 : Hid (LlAt ((w.alloc (.cells #[.slice us sizes.length cs, .int .i64 params, .int .i64 vars, .int .i64 slots, .slice ub blocks.length cb] 31)).alloc (.cells #[] 22)) (w.heap.size + 1) (.slice (some ⟨w.heap.size + 1, 0, none⟩) 0 0) [] []) := by
    have := llAt_nil (w.alloc (.cells #[.slice us sizes.length cs, .int .i64 params, .int .i64 vars, .int .i64 slots, .slice ub blocks.length cb] 31))
    show LlAt _ _ _ _ _
    simpa using this
  clear hbb
  cases y with
  | false =>
    have E0 := hideP (EP.out.1 rfl)
    clear EP OKT CR
    go_enter Try.func25, Try.ntmps25
    go_wp2_with fail
    refine (CY.out _ AL.out).mono ?_
    rintro e1 w1 ⟨rfl, b1⟩
    have BB := hideP (below_trans AL.out b1)
    have OO := hideP (L1.out.stays b1)
    clear b1
    go_wp2
    go_ret
    exact ⟨_, [], rfl, by rw [E0.out]; exact OO.out, BB.out⟩
  | true =>
    have E1 := hideP (EP.out.2 rfl)
    have CR1 := hideP (CR.out rfl)
    obtain ⟨hall, hn⟩ := OKT.out rfl
    have HALL := hideP hall
    clear EP OKT CR hall
    go_enter Try.func25, Try.ntmps25
    go_wp2_with fail
    refine (CY.out _ AL.out).mono ?_
    rintro e1 w1 ⟨rfl, b1⟩
    have BB := hideP (below_trans AL.out b1)
    have O2 := hideP (L1.out.stays b1)
    have BX := hideP ((b1.block _ (hltP BX1.out)).trans BX1.out)
    have bxf := (cells_of BX.out).1
    have y0 := bxf 0
    have y1 := bxf 1
    have y2 := bxf 2
    have y3 := bxf 3
    have y4 := bxf 4
    simp at y0 y1 y2 y3 y4
    clear bxf b1 BX1 L1 AL CY
    go_wp2_with fail
    refine (CR1.out _ BB.out).mono ?_
    rintro e3 w3 ⟨v3, rows3, rfl, hrl, o3, r3, b3⟩
    obtain ⟨g3, c3, hv3, _⟩ := id o3
    rw [hrl] at hv3
    subst hv3
    have HRL := hideP hrl
    have K3 := hideP (EsAt.mk (O2.out.stays b3) (RbAt.stays ⟨o3, fun i hi => (r3 i hi).1⟩ (Below.refl _ _)) ((b3.block _ (hltP BX.out)).trans BX.out) (below_trans BB.out b3))
    obtain ⟨lo3, hlo3⟩ : ∃ lo3, w1.heap.size + 1 = lo3 := ⟨_, rfl⟩
    rw [hlo3] at K3
    clear o3 r3 b3 O2 BB BX y0 y1 y2 y3 y4 CR1 hrl hlo3
    go_wp2
    go_loopg [3, 5] blocks.length (fun hk o ix wr => ∃ (j : Nat) (rows : List (Nat × Nat × Nat)), hk + j = blocks.length ∧ ix = .int .i64 j ∧ Hid (EsAt w #[.slice us sizes.length cs, .int .i64 params, .int .i64 vars, .int .i64 slots, .slice ub blocks.length cb] blocks.length lo3 (.slice (some ⟨g3, 0, none⟩) blocks.length c3) rows3 (fun i k => rulB blocks (i : Int) (k : Int)) o rows (edgUp blocks j) wr))
    case atStart => exact ⟨0, [], by simp, rfl, K3.out⟩
    case round =>
      obtain ⟨j, rows, hj, rfl, hK⟩ := hrel
      clear K3
      by_cases hlt : j < blocks.length
      · have al := (Below.refl wr.heap.size wr).alloc (Nat.le_refl _) (.cells #[] 3)
        have K4 := hideP (hK.out.stays al)
        have I0 := hideP ((own_lit wr [] #[] wr.heap.size 0 rfl rfl rfl (by simp)).mono (B' := wr.heap.size) (Nat.le_refl _))
        have RLT : Hid (∀ i (hi : i < rows.length), (rows[i]).1 < wr.heap.size) := fun i hi => ((hK.out.ll.each i hi).low _ rfl).2
        have hlw : w.heap.size + 1 ≤ wr.heap.size := hltP hK.out.box
        obtain ⟨lr, hlr⟩ : ∃ lr, wr.heap.size = lr := ⟨_, rfl⟩
        obtain ⟨go, co, hvo, _⟩ := id hK.out.ll.own
        have hrj : rows.length = j := by rw [hK.out.ll.len, edgUp_len]
        rw [hrj] at hvo
        subst hvo
        have HRJ := hideP hrj
        have HLR := hideP hlr
        clear al hK hrj hlr
        go_wp2
        rw [HLR.out] at I0 RLT hlw ⊢
        clear HLR
        go_loopg [6, 7] blocks.length (fun gk2 q ix W => ∃ (k : Nat) (U : List Int), gk2 + k = blocks.length ∧ ix = .int .i64 k ∧ Hid (EsAt w #[.slice us sizes.length cs, .int .i64 params, .int .i64 vars, .int .i64 slots, .slice ub blocks.length cb] blocks.length lo3 (.slice (some ⟨g3, 0, none⟩) blocks.length c3) rows3 (fun i k => rulB blocks (i : Int) (k : Int)) (.slice (some ⟨go, 0, none⟩) j co) rows (edgUp blocks j) W) ∧ Hid (OwnI W lr q U) ∧ Hid (EdU blocks (j : Int) k 0 [] U))
        case atStart => exact ⟨0, [], by simp, rfl, K4.out, I0.out, edU_start⟩
        case round =>
          obtain ⟨k, U, hk, rfl, hK, hI, hU⟩ := hrel
          clear K4 I0
          by_cases hkl : k < blocks.length
          · obtain ⟨bb, oo, code, jump, a, t0, els, uc, kc, hub, _, hbl, he, q0, q1, q2, q3, q4, hbk⟩ := Blk_get HBB.out k hkl
            subst hub
            have hE := hK.out.bel
            have q0 := (hE.cell (p := ⟨bb, _, none⟩) hbl).trans q0
            have q1 := (hE.cell (p := ⟨bb, _, none⟩) hbl).trans q1
            have q2 := (hE.cell (p := ⟨bb, _, none⟩) hbl).trans q2
            have q3 := (hE.cell (p := ⟨bb, _, none⟩) hbl).trans q3
            have q4 := (hE.cell (p := ⟨bb, _, none⟩) hbl).trans q4
            have x4 := (cells_of hK.out.box).1 4
            simp at x4
            have NX := hideP (spec_l05Next ⟨code, jump, a, t0, els⟩ _ B _ (BlkKeeps.stays hbk hE))
            have PN : Hid (nxt blocks (k : Int) = nextP blocks[k]) := by
              show _ = _
              unfold nxt
              rw [Int.toNat_natCast, List.getElem?_eq_getElem hkl]
            rw [he] at PN
            obtain ⟨nx, hnx⟩ : ∃ nx, nextP ⟨code, jump, a, t0, els⟩ = nx := ⟨_, rfl⟩
            have hnl : nx.length ≤ 2 := by rw [← hnx]; exact nextP_len _
            rw [hnx] at NX PN
            clear he hbk hnx hE
            go_wp2_with fail
            refine NX.out.mono ?_
            rintro e7 w7 ⟨v7, rfl, o7, b7⟩
            have K7 := hideP (hK.out.stays b7)
            have I7 := hideP (hI.out.stays b7)
            have U7 := hideP (hU.out.enter (nx' := nx))
            have DIN : Hid (∀ x ∈ nx, InR blocks.length x) := fun x hx => by rw [← PN.out] at hx; exact nxt_in HALL.out _ x hx
            obtain ⟨gn, cn, hv7, _⟩ := id o7
            subst hv7
            have O7 := hideP (o7.mono (Nat.zero_le _))
            clear o7 b7 NX q0 q1 q2 q3 q4 x4 hK hI hU
            go_wp2
            go_loopg [6, 9] nx.length (fun gk3 q ix W => ∃ (r : Nat) (U : List Int), gk3 + r = nx.length ∧ ix = .int .i64 r ∧ Hid (EsAt w #[.slice us sizes.length cs, .int .i64 params, .int .i64 vars, .int .i64 slots, .slice (some ⟨bb, oo, none⟩) blocks.length cb] blocks.length lo3 (.slice (some ⟨g3, 0, none⟩) blocks.length c3) rows3 (fun i k => rulB blocks (i : Int) (k : Int)) (.slice (some ⟨go, 0, none⟩) j co) rows (edgUp blocks j) W) ∧ Hid (OwnI W lr q U) ∧ Hid (OwnI W 0 (.slice (some ⟨gn, 0, none⟩) nx.length cn) nx) ∧ Hid (EdU blocks (j : Int) k r nx U))
            case atStart => exact ⟨0, U, by simp, rfl, K7.out, I7.out, O7.out, U7.out⟩
            case round =>
              obtain ⟨r, U, hr, rfl, hK, hI, hO, hU⟩ := hrel
              clear K7 I7 O7 U7
              by_cases hrl : r < nx.length
              · obtain ⟨x, hx⟩ : ∃ x, nx[r] = x := ⟨_, rfl⟩
                have hxi := DIN.out x (hx ▸ List.getElem_mem hrl)
                obtain ⟨t, ht⟩ : ∃ t : Nat, x = (t : Int) := ⟨x.toNat, by have := hxi.1; omega⟩
                subst ht
                have htn : t < blocks.length := by have := hxi.2; omega
                have x0 := hO.out.at r hrl
                rw [hx, Nat.zero_add] at x0
                have hjr : j < rows3.length := by rw [HRL.out]; exact hlt
                obtain ⟨m0, m1⟩ := hK.out.rb.at (i := j) (k := k) hjr hkl
                have m2 := (hK.out.rb.at (i := j) (k := t) hjr htn).2
                obtain ⟨gr, hgr⟩ : ∃ gr, rows3[j] = gr := ⟨_, rfl⟩
                rw [hgr] at m0 m1 m2
                have hUl : U.length ≤ 300 := Nat.le_trans (hU.out.few HALL.out DIN.out) hn
                have ADD := hideP (fun hc => hU.out.add hrl hx hc)
                have SKP := hideP (fun hc => hU.out.skip hrl hx hc)
                clear hgr hx hxi
                cases hrk : rulB blocks (j : Int) (k : Int) with
                | false =>
                  rw [hrk] at m1
                  have U2 := hideP (SKP.out (fun h => by rw [rulB_iff.2 h.1] at hrk; cases hrk))
                  clear SKP ADD hrk hU
                  go_upto_region 16 with fail
                  go_quiet (fail)
                  go_wp2
                  go_roundg (nx.length - (r + 1))
                  case rel => exact ⟨r + 1, U, by omega, by go_num, hK.out.stays (below_drewE _ _ _), hI.out.stays (below_drewE _ _ _), hO.out.stays (below_drewE _ _ _), U2.out⟩
                  case measure => omega
                | true =>
                  rw [hrk] at m1
                  have RK := hideP (rulB_iff.1 hrk)
                  cases hrt : rulB blocks (j : Int) (t : Int) with
                  | false =>
                    rw [hrt] at m2
                    have U2 := hideP (ADD.out ⟨RK.out, Or.inl (fun h => by rw [rulB_iff.2 h] at hrt; cases hrt)⟩)
                    clear SKP ADD hrk hrt hU RK
                    obtain ⟨gq, cq, hvq, _⟩ := id hI.out
                    subst hvq
                    have LA := hideP (fun nq => l02Add_own U (t : Int) (wr.drewN nq) lr _ (hI.out.stays (below_drewE _ _ _)) (by omega) (Nat.le_trans (Nat.le_of_lt (hI.out.low gq rfl).2) (Nat.le_refl _) |> Nat.le_trans (hI.out.low gq rfl).1))
                    go_upto_region 16 with fail
                    go_quiet (fail)
                    have x1 : (wr.drewN nq).cell? ⟨gn, r, none⟩ = some (.int .i64 (t : Int)) := x0
                    clear x0
                    go_wp2_with fail
                    refine (LA.out _).mono ?_
                    rintro e9 w9 ⟨v9, rfl, o9, b9⟩
                    have bd := below_trans (below_drewE wr.heap.size wr nq) b9
                    have K9 := hideP (hK.out.stays bd)
                    have O9 := hideP (hO.out.stays bd)
                    have I9 := hideP o9
                    clear b9 o9 bd hK hO hI LA m0 m1 m2 x1
                    go_wp2
                    go_roundg (nx.length - (r + 1))
                    case rel => exact ⟨r + 1, _, by omega, by go_num, K9.out, I9.out, O9.out, U2.out⟩
                    case measure => omega
                  | true =>
                    rw [hrt] at m2
                    by_cases htj : (t : Int) = (j : Int)
                    · have U2 := hideP (ADD.out ⟨RK.out, Or.inr htj⟩)
                      have h1 : ((t : Int) == (j : Int)) = true := by simpa using htj
                      have h2 : decide ((t : Int) = (j : Int)) = true := by simpa using htj
                      clear SKP ADD hrk hrt hU RK htj
                      obtain ⟨gq, cq, hvq, _⟩ := id hI.out
                      subst hvq
                      have LA := hideP (fun nq => l02Add_own U (t : Int) (wr.drewN nq) lr _ (hI.out.stays (below_drewE _ _ _)) (by omega) (Nat.le_trans (Nat.le_of_lt (hI.out.low gq rfl).2) (Nat.le_refl _) |> Nat.le_trans (hI.out.low gq rfl).1))
                      go_upto_region 16 with fail
                      go_quiet (fail)
                      have x1 : (wr.drewN nq).cell? ⟨gn, r, none⟩ = some (.int .i64 (t : Int)) := x0
                      clear x0
                      go_wp2_with fail
                      refine (LA.out _).mono ?_
                      rintro e9 w9 ⟨v9, rfl, o9, b9⟩
                      have bd := below_trans (below_drewE wr.heap.size wr nq) b9
                      have K9 := hideP (hK.out.stays bd)
                      have O9 := hideP (hO.out.stays bd)
                      have I9 := hideP o9
                      clear b9 o9 bd hK hO hI LA m0 m1 m2 x1
                      go_wp2
                      go_roundg (nx.length - (r + 1))
                      case rel => exact ⟨r + 1, _, by omega, by go_num, K9.out, I9.out, O9.out, U2.out⟩
                      case measure => omega
                    · have U2 := hideP (SKP.out (fun h => h.2.elim (fun h3 => h3 (rulB_iff.1 hrt)) htj))
                      have h1 : ((t : Int) == (j : Int)) = false := by simpa using htj
                      have h2 : decide ((t : Int) = (j : Int)) = false := by simpa using htj
                      clear SKP ADD hrk hrt hU RK htj
                      go_upto_region 16 with fail
                      go_quiet (fail)
                      go_wp2
                      go_roundg (nx.length - (r + 1))
                      case rel => exact ⟨r + 1, U, by omega, by go_num, hK.out.stays (below_drewE _ _ _), hI.out.stays (below_drewE _ _ _), hO.out.stays (below_drewE _ _ _), U2.out⟩
                      case measure => omega
              · have hrn : r = nx.length := by omega
                subst hrn
                have U2 := hideP (hU.out.out PN.out (nx' := []))
                clear hU
                go_wp2
                go_roundg (blocks.length - (k + 1))
                case rel => exact ⟨k + 1, U, by omega, by go_num, hK.out, hI.out, U2.out⟩
                case measure => omega
          · have hkn : k = blocks.length := by omega
            subst hkn
            have UD := hideP (hU.out.done HALL.out)
            have UP := hideP (edgUp_succ blocks j)
            rw [← UD.out] at UP
            obtain ⟨gq, cq, hvq, _⟩ := id hI.out
            subst hvq
            have hgq := hI.out.low gq rfl
            have al := (Below.refl wr.heap.size wr).alloc (Nat.le_refl _) (.cells #[.slice (some ⟨gq, 0, none⟩) U.length cq] 22)
            have CQ : Hid (∀ q, q < LsE.sz → (wr.alloc (.cells #[.slice (some ⟨gq, 0, none⟩) U.length cq] 22)).cell? ⟨wr.heap.size, 0 + q, none⟩ = (LsE.cs (gq, U.length, cq))[q]?) := fun q _ => by
              have := (cells_of (heap_alloc_new wr (.cells #[.slice (some ⟨gq, 0, none⟩) U.length cq] 22))).1 q
              rw [Nat.zero_add, this]; simp [LsE]
            have OA := hideP (hK.out.ll.own.stays al)
            have hsz : w.heap.size + 1 ≤ (wr.alloc (.cells #[.slice (some ⟨gq, 0, none⟩) U.length cq] 22)).heap.size := Nat.le_trans (hltP hK.out.box) al.size
            have hrw : rows.length + 1 ≤ 8000000 := by have := HRJ.out; omega
            clear al
            go_wp2_with (at_builtin; refine list_appE LsOk _ rfl _ _ rfl (w.heap.size + 1) _ rows (gq, U.length, cq) wr.heap.size 0 1 rfl rfl OA.out CQ.out hrw hsz ?_; intro v6 w6 o6 grow6 loc6)
            replace grow6 : World.grownBy _ w6 ((Value.slice (some ⟨go, 0, none⟩) j co).ownBlock) := grow6
            have K6 := hideP (hK.out.grow (hI.out.mono hlw) (fun i hi => by have := RLT.out i hi; omega) o6 grow6)
            rw [← UP.out] at K6
            clear o6 grow6 loc6 OA CQ hK hI hU
            go_wp2
            go_roundg (blocks.length - (j + 1))
            case rel => exact ⟨j + 1, _, by omega, by go_num, K6.out⟩
            case measure => omega
      · have hjn : j = blocks.length := by omega
        subst hjn
        go_wp2
        go_ret
        exact ⟨_, rows, rfl, by rw [E1.out]; exact hK.out.ll, hK.out.bel⟩
end Go.Proofs.Ytooaoankloocmaa
