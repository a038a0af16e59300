/- The contract of spec.Backs. -/
import Derived.Test.YtooaoankloocmabRlsS
import Derived.Test.YtooaoankloocmabA2G
import Derived.Test.YtooaoankloocmabBksP
import Derived.Test.YtooaoankloocmabAddO
import Derived.Test.YtooaoankloocmabNxA
import Derived.Test.YtooaoankloocmabSetAll
import Derived.Test.YtooaoankloocmabOrdPA
namespace Go.Proofs.Ytooaoankloocmab
open Go.ChangeShapes Go.WideShapes Go.ChangeAt Go.RowKit
theorem A2typS {W : World} {B g : Nat} {v : Value} {l : List (Nat × Nat)} (h : OwnE A2E W B v l) (hv : v.ownBlock = some g) : ∃ cur, W.heap[g]? = some (.cells cur 42 (0, 0)) := by
  obtain ⟨g', cap, cur, rfl, _, hh, _⟩ := h.parts A2Ok
  have e : g' = g := by simpa [Value.ownBlock] using hv
  subst e
  exact ⟨cur, hh⟩
/-- What the loops of Backs carry. -/
structure BsAt (w : World) (bv : Array Value) (n lo3 : Nat) (v3 : Value) (rows3 : List Nat) (F : Nat → Nat → Bool) (o : Value) (l : List (Nat × Nat)) (W : World) : Prop where
  own : OwnE A2E W (w.heap.size + 1) o l
  rb : RbAt n lo3 v3 rows3 F W
  box : W.heap[w.heap.size]? = some (.cells bv 30 (0, 0))
  bel : Below w.heap.size w W
section
variable {w W W' : World} {bv : Array Value} {n lo3 : Nat} {v3 : Value} {rows3 : List Nat} {F : Nat → Nat → Bool} {o o' : Value} {l l' : List (Nat × Nat)}
theorem BsAt.stays (h : BsAt w bv n lo3 v3 rows3 F o l W) (b : Below W.heap.size W W') : BsAt w bv n lo3 v3 rows3 F o l W' := ⟨h.own.stays b, h.rb.stays b, (b.block _ (hltP h.box)).trans h.box, below_trans h.bel b⟩
theorem BsAt.eqL (h : BsAt w bv n lo3 v3 rows3 F o l W) (e : l = l') : BsAt w bv n lo3 v3 rows3 F o l' W := e ▸ h
/-- One pair more. -/
theorem BsAt.grow {ob : Obj} {x : Nat × Nat} (h : BsAt w bv n lo3 v3 rows3 F o l W) (ho : OwnE A2E W' (w.heap.size + 1) o' (l ++ [x])) (hg : (W.alloc ob).grownBy W' o.ownBlock) : BsAt w bv n lo3 v3 rows3 F o' (l ++ [x]) W' := by
  have b1 : Below W.heap.size W (W.alloc ob) := (Below.refl _ _).alloc (Nat.le_refl _) _
  have h1 := h.stays b1
  obtain ⟨go, co, hv, _⟩ := id h1.own
  have hvo : o.ownBlock = some go := by rw [hv]; rfl
  obtain ⟨c2, h2⟩ := A2typS h1.own hvo
  have hlo := h1.own.low go hvo
  rw [hvo] at hg
  exact ⟨ho, h1.rb.typed hg h2 (by decide) (by decide), (hg.block _ (hltP h1.box) (by intro e; injection e with e; omega)).trans h1.box, h1.bel.grown hg h1.bel.size (fun b' hb' => by injection hb' with e; omega)⟩
end
theorem own_eqL {W : World} {B : Nat} {v : Value} {l l' : List Int} (h : OwnI W B v l) (e : l = l') : OwnI W B v l' := e ▸ h
theorem OwnI.a2s {W W' : World} {B : Nat} {v o : Value} {ob : Obj} {l : List Int} {k : List (Nat × Nat)} {B2 : Nat} (h : OwnI W B v l) (ho : OwnE A2E W B2 o k) (hg : (W.alloc ob).grownBy W' o.ownBlock) : OwnI W' B v l := by
  have b1 : Below W.heap.size W (W.alloc ob) := (Below.refl _ _).alloc (Nat.le_refl _) _
  obtain ⟨go, co, hv, _⟩ := id ho
  have hvo : o.ownBlock = some go := by rw [hv]; rfl
  obtain ⟨c2, h2⟩ := A2typS (ho.stays b1) hvo
  refine (h.stays b1).kept hg (fun e => ?_)
  obtain ⟨c3, h3⟩ := (h.stays b1).typ (e.trans hvo)
  exact typ_ne h2 h3 (by decide) rfl
set_option maxRecDepth 100000 in
set_option maxHeartbeats 8000000 in
theorem spec_backs (g : Gr) (w : World) (B : Nat) (v : Array Value) (h : GrIs w B v g) (GO : OkIs 18 g) :
    Calls Try.prog 20 #[.agg v] w fun en w' => ∃ v', en = .returned v' ∧ OwnE A2E w' w.heap.size v' (backsP g) ∧ Below w.heap.size w w' := by
  obtain ⟨y, hy⟩ : ∃ y, grOk g = y := ⟨_, rfl⟩
  have CY : Hid (∀ W, Below w.heap.size w W → Calls Try.prog 18 #[.agg v] W fun en w' => en = .returned (.bool y) ∧ Below W.heap.size W w') := fun W hW => by rw [← hy]; exact GO W B v (GrKeeps.stays h hW)
  have CR : Hid (y = true → ∀ W, Below w.heap.size w W → Calls Try.prog 31 #[.agg v] W fun en w' => RulMade W g.blocks en w') := fun e W hW => spec_rules g W B v (GrKeeps.stays h hW) (by rw [hy]; exact e) GO
  have OKT : Hid (y = true → AllIn g.blocks ∧ g.blocks.length ≤ 300) := fun e => ⟨allIn_of (by rw [hy]; exact e), (grOk_blocks (by rw [hy]; exact e)).2⟩
  obtain ⟨P, hP⟩ : ∃ P, backsP g = P := ⟨_, rfl⟩
  have EP : Hid ((y = false → P = []) ∧ (y = true → P = backsUp g.blocks g.blocks.length)) := by
    rw [← hP]
    unfold backsP
    rw [hy]
    exact ⟨fun e => if_neg (by rw [e]; simp), fun e => if_pos e⟩
  rw [hP]
  clear hP GO hy
  obtain ⟨sizes, params, vars, slots, blocks⟩ := g
  obtain ⟨us, cs, ub, cb, rfl, _, _, hbb⟩ := h
  simp only at *
  have HBB := hideP hbb
  have AL := hideP (below2 w (.cells #[.slice us sizes.length cs, .int .i64 params, .int .i64 vars, .int .i64 slots, .slice ub blocks.length cb] 30) (.cells #[] 42))
  have BX1 := hideP (two (w := w) (o1 := .cells #[.slice us sizes.length cs, .int .i64 params, .int .i64 vars, .int .i64 slots, .slice ub blocks.length cb] 30) (o2 := .cells #[] 42) (Below.refl _ _)).1
  have O1 : Hid (OwnE A2E ((w.alloc (.cells #[.slice us sizes.length cs, .int .i64 params, .int .i64 vars, .int .i64 slots, .slice ub blocks.length cb] 30)).alloc (.cells #[] 42)) (w.heap.size + 1) (.slice (some ⟨w.heap.size + 1, 0, none⟩) 0 0) []) := by
    have := own_nil A2Ok (w.alloc (.cells #[.slice us sizes.length cs, .int .i64 params, .int .i64 vars, .int .i64 slots, .slice ub blocks.length cb] 30)) (w.heap.size + 1) (by simp)
    show OwnE _ _ _ _ _
    simpa [A2E] using this
  clear hbb
  cases y with
  | false =>
    have E0 := hideP (EP.out.1 rfl)
    clear EP OKT CR
    go_enter Try.func20, Try.ntmps20
    go_wp2_with fail
    refine (CY.out _ AL.out).mono ?_
    rintro e1 w1 ⟨rfl, b1⟩
    have BB := hideP (below_trans AL.out b1)
    have OO := hideP ((O1.out.stays b1).mono (Nat.le_succ _))
    clear b1
    go_wp2
    go_ret
    exact ⟨_, rfl, by rw [E0.out]; exact OO.out, BB.out⟩
  | true =>
    have E1 := hideP (EP.out.2 rfl)
    have CR1 := hideP (CR.out rfl)
    obtain ⟨hall, hn⟩ := OKT.out rfl
    have HALL := hideP hall
    clear EP OKT CR hall
    go_enter Try.func20, Try.ntmps20
    go_wp2_with fail
    refine (CY.out _ AL.out).mono ?_
    rintro e1 w1 ⟨rfl, b1⟩
    have BB := hideP (below_trans AL.out b1)
    have O2 := hideP (O1.out.stays b1)
    have BX := hideP ((b1.block _ (hltP BX1.out)).trans BX1.out)
    have bxf := (cells_of BX.out).1
    have y0 := bxf 0
    have y1 := bxf 1
    have y2 := bxf 2
    have y3 := bxf 3
    have y4 := bxf 4
    simp at y0 y1 y2 y3 y4
    clear bxf b1 BX1 O1 AL CY
    go_wp2_with fail
    refine (CR1.out _ BB.out).mono ?_
    rintro e3 w3 ⟨v3, rows3, rfl, hrl, o3, r3, b3⟩
    obtain ⟨g3, c3, hv3, _⟩ := id o3
    rw [hrl] at hv3
    subst hv3
    have HRL := hideP hrl
    have K3 := hideP (BsAt.mk (O2.out.stays b3) (RbAt.stays ⟨o3, fun i hi => (r3 i hi).1⟩ (Below.refl _ _)) ((b3.block _ (hltP BX.out)).trans BX.out) (below_trans BB.out b3))
    obtain ⟨lo3, hlo3⟩ : ∃ lo3, w1.heap.size + 1 = lo3 := ⟨_, rfl⟩
    rw [hlo3] at K3
    clear o3 r3 b3 O2 BB BX y0 y1 y2 y3 y4 CR1 hrl hlo3
    go_wp2
    go_loopg [3, 5] blocks.length (fun hk o ix wr => ∃ (j : Nat), hk + j = blocks.length ∧ ix = .int .i64 j ∧ Hid (BsAt w #[.slice us sizes.length cs, .int .i64 params, .int .i64 vars, .int .i64 slots, .slice ub blocks.length cb] blocks.length lo3 (.slice (some ⟨g3, 0, none⟩) blocks.length c3) rows3 (fun i k => rulB blocks (i : Int) (k : Int)) o (backsUp blocks j) wr))
    case atStart => exact ⟨0, by simp, rfl, K3.out⟩
    case round =>
      obtain ⟨j, hj, rfl, hK⟩ := hrel
      clear K3
      by_cases hlt : j < blocks.length
      · obtain ⟨bb, oo, code, jump, a, t0, els, uc, kc, hub, _, hbl, he, q0, q1, q2, q3, q4, hbk⟩ := Blk_get HBB.out j hlt
        subst hub
        have al := (Below.refl wr.heap.size wr).alloc (Nat.le_refl _) (.cells #[] 3)
        have K4 := hideP (hK.out.stays al)
        have I0 := hideP (own_lit wr [] #[] wr.heap.size 0 rfl rfl rfl (by simp))
        have hE := K4.out.bel
        have q0 := (hE.cell (p := ⟨bb, _, none⟩) hbl).trans q0
        have q1 := (hE.cell (p := ⟨bb, _, none⟩) hbl).trans q1
        have q2 := (hE.cell (p := ⟨bb, _, none⟩) hbl).trans q2
        have q3 := (hE.cell (p := ⟨bb, _, none⟩) hbl).trans q3
        have q4 := (hE.cell (p := ⟨bb, _, none⟩) hbl).trans q4
        have x4 := (cells_of K4.out.box).1 4
        simp at x4
        have NX := hideP (spec_l05Next ⟨code, jump, a, t0, els⟩ _ B _ (BlkKeeps.stays hbk hE))
        have PN : Hid (nxt blocks (j : Int) = nextP blocks[j]) := by
          show _ = _
          unfold nxt
          rw [Int.toNat_natCast, List.getElem?_eq_getElem hlt]
        rw [he] at PN
        obtain ⟨nx, hnx⟩ : ∃ nx, nextP ⟨code, jump, a, t0, els⟩ = nx := ⟨_, rfl⟩
        have hnl : nx.length ≤ 2 := by rw [← hnx]; exact nextP_len _
        rw [hnx] at NX PN
        clear he hbk hnx hE al hK
        go_wp2_with fail
        refine NX.out.mono ?_
        rintro e7 w7 ⟨v7, rfl, o7, b7⟩
        have K7 := hideP (K4.out.stays b7)
        have I7 := hideP ((I0.out.stays b7).mono (Nat.zero_le _))
        have DIN : Hid (∀ x ∈ nx, ∃ t : Nat, x = (t : Int) ∧ t < blocks.length) := fun x hx => by
          rw [← PN.out] at hx
          obtain ⟨h1, h2⟩ := nxt_in HALL.out _ x hx
          exact ⟨x.toNat, by omega, by omega⟩
        have AE : Hid (addAll (nx.filter (fun z => rulB blocks z (j : Int))) = bkTo blocks j) := by
          show _ = _
          rw [← PN.out]
          exact bkTo_add HALL.out j
        obtain ⟨gn, cn, hv7, _⟩ := id o7
        subst hv7
        have O7 := hideP (o7.mono (Nat.zero_le _))
        have BL := hideP (backsUp_len blocks j)
        have hBL : j * blocks.length ≤ 300 * 300 := Nat.mul_le_mul (by omega) hn
        clear o7 b7 NX q0 q1 q2 q3 q4 x4 K4 I0 PN
        obtain ⟨wo, hwo⟩ : ∃ wo, wo = w7 := ⟨_, rfl⟩
        go_wp2
        go_loopg [6, 8] nx.length (fun gk2 q ix wr => ∃ (r : Nat), gk2 + r = nx.length ∧ ix = .int .i64 r ∧ Hid (BsAt w #[.slice us sizes.length cs, .int .i64 params, .int .i64 vars, .int .i64 slots, .slice (some ⟨bb, oo, none⟩) blocks.length cb] blocks.length lo3 (.slice (some ⟨g3, 0, none⟩) blocks.length c3) rows3 (fun i k => rulB blocks (i : Int) (k : Int)) u3 (backsUp blocks j) wr) ∧ Hid (OwnI wr 0 (.slice (some ⟨gn, 0, none⟩) nx.length cn) nx) ∧ Hid (OwnI wr 0 q (addAll ((nx.take r).filter (fun z => rulB blocks z (j : Int))))))
        case atStart => exact ⟨0, by simp, rfl, K7.out, O7.out, I7.out⟩
        case round =>
          obtain ⟨r, hr, rfl, hK, hO, hI⟩ := hrel
          clear K7 O7 I7
          by_cases hrl : r < nx.length
          · obtain ⟨x, hx⟩ : ∃ x, nx[r] = x := ⟨_, rfl⟩
            obtain ⟨t, ht, htn⟩ := DIN.out x (hx ▸ List.getElem_mem hrl)
            subst ht
            have x0 := hO.out.at r hrl
            rw [hx, Nat.zero_add] at x0
            have TK : Hid (nx.take (r + 1) = nx.take r ++ [(t : Int)]) := by show _ = _; rw [List.take_succ_eq_append_getElem hrl, hx]
            have htr : t < rows3.length := by rw [HRL.out]; exact htn
            obtain ⟨m0, m1⟩ := hK.out.rb.at (i := t) (k := j) htr hlt
            obtain ⟨gr, hgr⟩ : ∃ gr, rows3[t] = gr := ⟨_, rfl⟩
            rw [hgr] at m0 m1
            clear hgr hx
            cases hrb : rulB blocks (t : Int) (j : Int) with
            | false =>
              rw [hrb] at m1
              have I2 : Hid (addAll ((nx.take (r + 1)).filter (fun z => rulB blocks z (j : Int))) = addAll ((nx.take r).filter (fun z => rulB blocks z (j : Int)))) := by
                show _ = _
                rw [TK.out, List.filter_append]
                simp [hrb]
              clear hrb
              go_wp2
              go_roundg (nx.length - (r + 1))
              case rel => exact ⟨r + 1, by omega, by go_num, hK.out, hO.out, by rw [I2.out]; exact hI.out⟩
              case measure => omega
            | true =>
              rw [hrb] at m1
              have I2 : Hid (addAll ((nx.take (r + 1)).filter (fun z => rulB blocks z (j : Int))) = addTo (addAll ((nx.take r).filter (fun z => rulB blocks z (j : Int)))) (t : Int)) := by
                show _ = _
                rw [TK.out, List.filter_append]
                simp [hrb, addAll, List.foldl_append]
              obtain ⟨U, hU⟩ : ∃ U, addAll ((nx.take r).filter (fun z => rulB blocks z (j : Int))) = U := ⟨_, rfl⟩
              have hUl : U.length ≤ 1000 := by
                rw [← hU]
                have h1 : (addAll ((nx.take r).filter (fun z => rulB blocks z (j : Int)))).length ≤ ((nx.take r).filter (fun z => rulB blocks z (j : Int))).length := addAll_len _
                have h2 := List.length_filter_le (fun z => rulB blocks z (j : Int)) (nx.take r)
                have h3 : (nx.take r).length ≤ 2 := by rw [List.length_take]; omega
                omega
              rw [hU] at hI I2
              have LA := hideP (l02Add_own U (t : Int) wr 0 _ hI.out (by omega) (Nat.zero_le _))
              obtain ⟨gq, cq, hvq, _⟩ := id hI.out
              subst hvq
              clear hrb hU hI
              go_wp2_with fail
              refine LA.out.mono ?_
              rintro e9 w9 ⟨v9, rfl, o9, b9⟩
              have K9 := hideP (hK.out.stays b9)
              have O9 := hideP (hO.out.stays b9)
              have I9 : Hid (OwnI w9 0 v9 (addAll ((nx.take (r + 1)).filter (fun z => rulB blocks z (j : Int))))) := by rw [I2.out]; exact o9
              clear b9 o9 hK hO LA m0 m1 x0
              go_wp2
              go_roundg (nx.length - (r + 1))
              case rel => exact ⟨r + 1, by omega, by go_num, K9.out, O9.out, I9.out⟩
              case measure => omega
          · have hrn : r = nx.length := by omega
            subst hrn
            obtain ⟨D, hD⟩ : ∃ D, bkTo blocks j = D := ⟨_, rfl⟩
            have ID := hideP (own_eqL hI.out (l' := D) (by rw [List.take_length, AE.out, hD]))
            have HD := hideP hD
            have DN : Hid (∀ x ∈ D, ∃ t : Nat, x = (t : Int)) := fun x hx => by
              rw [← hD] at hx
              obtain ⟨i, hi, _⟩ := (upB_mem _ _ x).1 hx
              exact ⟨i, hi⟩
            have hDl : D.length ≤ 300 := by rw [← hD]; exact Nat.le_trans (upB_len _ _) hn
            obtain ⟨gd, cd, hvd, _⟩ := id ID.out
            subst hvd
            clear hI hD hO
            go_wp2
            go_loopg [3, 9] D.length (fun gk2 o ix wr => ∃ (r : Nat), gk2 + r = D.length ∧ ix = .int .i64 r ∧ Hid (BsAt w #[.slice us sizes.length cs, .int .i64 params, .int .i64 vars, .int .i64 slots, .slice (some ⟨bb, oo, none⟩) blocks.length cb] blocks.length lo3 (.slice (some ⟨g3, 0, none⟩) blocks.length c3) rows3 (fun i k => rulB blocks (i : Int) (k : Int)) o (backsUp blocks j ++ bkRow j (D.take r)) wr) ∧ Hid (OwnI wr 0 (.slice (some ⟨gd, 0, none⟩) D.length cd) D))
            case atStart => exact ⟨0, by simp, rfl, hK.out.eqL (by simp [bkRow]), ID.out⟩
            case round =>
              obtain ⟨r, hr, rfl, hK, hO⟩ := hrel
              clear ID
              by_cases hrl : r < D.length
              · obtain ⟨x, hx⟩ : ∃ x, D[r] = x := ⟨_, rfl⟩
                obtain ⟨t, ht⟩ := DN.out x (hx ▸ List.getElem_mem hrl)
                subst ht
                have x0 := hO.out.at r hrl
                rw [hx, Nat.zero_add] at x0
                have TK : Hid (backsUp blocks j ++ bkRow j (D.take (r + 1)) = (backsUp blocks j ++ bkRow j (D.take r)) ++ [(j, t)]) := by
                  show _ = _
                  rw [List.take_succ_eq_append_getElem hrl, hx, bkRow_app]
                  simp [bkRow]
                have hpl : (backsUp blocks j ++ bkRow j (D.take r)).length + 1 ≤ 8000000 := by
                  have h1 := BL.out
                  have h3 : (D.take r).length ≤ 300 := by rw [List.length_take]; omega
                  rw [List.length_append]
                  simp only [bkRow, List.length_map]
                  omega
                obtain ⟨PL, hPL⟩ : ∃ PL, backsUp blocks j ++ bkRow j (D.take r) = PL := ⟨_, rfl⟩
                rw [hPL] at hK TK hpl
                clear hPL hx
                obtain ⟨go, co, hvo, _⟩ := id hK.out.own
                subst hvo
                have al := (Below.refl wr.heap.size wr).alloc (Nat.le_refl _) (.cells #[.int .i64 (j : Int), .int .i64 (t : Int)] 42)
                have CQ : Hid (∀ q, q < A2E.sz → (wr.alloc (.cells #[.int .i64 (j : Int), .int .i64 (t : Int)] 42)).cell? ⟨wr.heap.size, 0 + q, none⟩ = (A2E.cs (j, t))[q]?) := fun q _ => by
                  have := (cells_of (heap_alloc_new wr (.cells #[.int .i64 (j : Int), .int .i64 (t : Int)] 42))).1 q
                  rw [Nat.zero_add, this]; simp [A2E]
                have OA := hideP (hK.out.own.stays al)
                have hsz : w.heap.size + 1 ≤ (wr.alloc (.cells #[.int .i64 (j : Int), .int .i64 (t : Int)] 42)).heap.size := Nat.le_trans (hltP hK.out.box) al.size
                clear al
                go_wp2_with (at_builtin; refine list_appE A2Ok _ rfl _ _ rfl (w.heap.size + 1) _ PL (j, t) wr.heap.size 0 1 rfl rfl OA.out CQ.out hpl hsz ?_; intro v6 w6 o6 grow6 loc6)
                replace grow6 : World.grownBy _ w6 ((Value.slice (some ⟨go, 0, none⟩) PL.length co).ownBlock) := grow6
                have K6 := hideP (hK.out.grow o6 grow6)
                have O6 := hideP (hO.out.a2s hK.out.own grow6)
                rw [← TK.out] at K6
                clear o6 grow6 loc6 OA CQ hK hO
                go_wp2
                go_roundg (D.length - (r + 1))
                case rel => exact ⟨r + 1, by omega, by go_num, K6.out, O6.out⟩
                case measure => omega
              · have hrn : r = D.length := by omega
                subst hrn
                have K2 := hideP (hK.out.eqL (l' := backsUp blocks (j + 1)) (by rw [List.take_length, ← HD.out]; rfl))
                clear hK
                go_wp2
                go_roundg (blocks.length - (j + 1))
                case rel => exact ⟨j + 1, by omega, by go_num, K2.out⟩
                case measure => omega
      · have hjn : j = blocks.length := by omega
        subst hjn
        go_wp2
        go_ret
        exact ⟨_, rfl, by rw [E1.out]; exact hK.out.own.mono (Nat.le_succ _), hK.out.bel⟩
end Go.Proofs.Ytooaoankloocmab
