/- The contract of impl.Backs. -/
import Derived.Test.YtooaoankloocmabRmsI
import Derived.Test.YtooaoankloocmabLlG
import Derived.Test.YtooaoankloocmabA2G
import Derived.Test.YtooaoankloocmabBksP
import Derived.Test.YtooaoankloocmabAscK
namespace Go.Proofs.Ytooaoankloocmab
open Go.ChangeShapes Go.WideShapes Go.ChangeAt Go.RowKit Go.Maps
theorem nil_length (b : Nat) : bkRow b [] = [] := rfl
theorem A2typ {W : World} {B g : Nat} {v : Value} {l : List (Nat × Nat)} (h : OwnE A2E W B v l) (hv : v.ownBlock = some g) : ∃ cur, W.heap[g]? = some (.cells cur 42 (0, 0)) := by
  obtain ⟨g', cap, cur, rfl, _, hh, _⟩ := h.parts A2Ok
  have e : g' = g := by simpa [Value.ownBlock] using hv
  subst e
  exact ⟨cur, hh⟩
/-- What the loops of Backs carry. -/
structure BkAt (w : World) (bv : Array Value) (lo1 n gm : Nat) (ms c : Nat → Nat) (ls : Nat → List Int) (o : Value) (l : List (Nat × Nat)) (W : World) : Prop where
  own : OwnE A2E W (w.heap.size + 1) o l
  bh : BhAt lo1 n gm ms n c ls W
  box : W.heap[w.heap.size]? = some (.cells bv 30 (0, 0))
  bel : Below w.heap.size w W
section
variable {w W W' : World} {bv : Array Value} {lo1 n gm : Nat} {ms c : Nat → Nat} {ls : Nat → List Int} {o o' : Value} {l l' : List (Nat × Nat)}
theorem BkAt.stays (h : BkAt w bv lo1 n gm ms c ls o l W) (b : Below W.heap.size W W') : BkAt w bv lo1 n gm ms c ls o l W' := ⟨h.own.stays b, h.bh.stays b, (b.block _ (hltP h.box)).trans h.box, below_trans h.bel b⟩
/-- A block of numbers behind the box is written. -/
theorem BkAt.ints {g : Nat} {cur : Array Value} (h : BkAt w bv lo1 n gm ms c ls o l W) (hb : But g W W') (ht : W.heap[g]? = some (.cells cur 3 (0, 0))) (hg : w.heap.size < g) : BkAt w bv lo1 n gm ms c ls o l W' := by
  obtain ⟨go, co, hv, _⟩ := id h.own
  have hvo : o.ownBlock = some go := by rw [hv]; rfl
  obtain ⟨c2, h2⟩ := A2typ h.own hvo
  refine ⟨h.own.butG hb (by rw [hvo]; intro e; injection e with e; exact typ_ne h2 ht (by decide) e), h.bh.other hb.grow (fun g' e => ?_), hb.keepB h.box (by omega), h.bel.trans (hb.below (Nat.le_of_lt hg) h.bel.size)⟩
  injection e with e
  subst e
  exact ⟨cur, _, ht, by decide⟩
theorem BkAt.eqL (h : BkAt w bv lo1 n gm ms c ls o l W) (e : l = l') : BkAt w bv lo1 n gm ms c ls o l' W := e ▸ h
/-- One pair more. -/
theorem BkAt.grow {ob : Obj} {x : Nat × Nat} (h : BkAt w bv lo1 n gm ms c ls o l W) (ho : OwnE A2E W' (w.heap.size + 1) o' (l ++ [x])) (hg : (W.alloc ob).grownBy W' o.ownBlock) : BkAt w bv lo1 n gm ms c ls o' (l ++ [x]) W' := by
  have b1 : Below W.heap.size W (W.alloc ob) := (Below.refl _ _).alloc (Nat.le_refl _) _
  have h1 := h.stays b1
  obtain ⟨go, co, hv, _⟩ := id h1.own
  have hvo : o.ownBlock = some go := by rw [hv]; rfl
  obtain ⟨c2, h2⟩ := A2typ h1.own hvo
  have hlo := h1.own.low go hvo
  refine ⟨ho, h1.bh.other hg (fun g' e => ⟨c2, 42, by rw [hvo] at e; injection e with e; rw [← e]; exact h2, by decide⟩), (hg.block _ (hltP h1.box) (by rw [hvo]; intro e; injection e with e; omega)).trans h1.box, h1.bel.grown hg h1.bel.size (fun b' hb' => by rw [hvo] at hb'; injection hb' with e; omega)⟩
end
theorem OwnI.a2 {W W' : World} {B : Nat} {v o : Value} {ob : Obj} {l : List Int} {k : List (Nat × Nat)} {B2 : Nat} (h : OwnI W B v l) (ho : OwnE A2E W B2 o k) (hg : (W.alloc ob).grownBy W' o.ownBlock) : OwnI W' B v l := by
  have b1 : Below W.heap.size W (W.alloc ob) := (Below.refl _ _).alloc (Nat.le_refl _) _
  obtain ⟨go, co, hv, _⟩ := id ho
  have hvo : o.ownBlock = some go := by rw [hv]; rfl
  obtain ⟨c2, h2⟩ := A2typ (ho.stays b1) hvo
  refine (h.stays b1).kept hg (fun e => ?_)
  obtain ⟨c3, h3⟩ := (h.stays b1).typ (e.trans hvo)
  exact typ_ne h2 h3 (by decide) rfl
set_option maxRecDepth 100000 in
set_option maxHeartbeats 8000000 in
theorem impl_backs (g : Gr) (w : World) (B : Nat) (v : Array Value) (h : GrIs w B v g) (GO : OkIs 25 g) :
    Calls Try.prog 26 #[.agg v] w fun en w' => ∃ v', en = .returned v' ∧ OwnE A2E w' w.heap.size v' (backsP g) ∧ Below w.heap.size w w' := by
  have CR := hideP (fun W (hW : Below w.heap.size w W) => realmsOf_any g W B v (GrKeeps.stays h hW) GO)
  have OKT : Hid (grOk g = true → AllIn g.blocks ∧ 0 < g.blocks.length ∧ g.blocks.length ≤ 300) := fun e => ⟨allIn_of e, (grOk_blocks e).1, (grOk_blocks e).2⟩
  obtain ⟨P, hP⟩ : ∃ P, backsP g = P := ⟨_, rfl⟩
  have EP : Hid ((grOk g = false → P = []) ∧ (grOk g = true → P = backsUp g.blocks g.blocks.length)) := by
    rw [← hP]
    unfold backsP
    exact ⟨fun e => if_neg (by rw [e]; simp), fun e => if_pos e⟩
  rw [hP]
  clear hP GO
  obtain ⟨sizes, params, vars, slots, blocks⟩ := g
  obtain ⟨us, cs, ub, cb, rfl, _, _, hbb⟩ := h
  simp only at *
  have HBB := hideP hbb
  have AL := hideP (below2 w (.cells #[.slice us sizes.length cs, .int .i64 params, .int .i64 vars, .int .i64 slots, .slice ub blocks.length cb] 30) (.cells #[] 42))
  have BX1 := hideP (two (w := w) (o1 := .cells #[.slice us sizes.length cs, .int .i64 params, .int .i64 vars, .int .i64 slots, .slice ub blocks.length cb] 30) (o2 := .cells #[] 42) (Below.refl _ _)).1
  have O1 : Hid (OwnE A2E ((w.alloc (.cells #[.slice us sizes.length cs, .int .i64 params, .int .i64 vars, .int .i64 slots, .slice ub blocks.length cb] 30)).alloc (.cells #[] 42)) (w.heap.size + 1) (.slice (some ⟨w.heap.size + 1, 0, none⟩) 0 0) []) := by
    have := own_nil A2Ok (w.alloc (.cells #[.slice us sizes.length cs, .int .i64 params, .int .i64 vars, .int .i64 slots, .slice ub blocks.length cb] 30)) (w.heap.size + 1) (by simp)
    show OwnE _ _ _ _ _
    simpa [A2E] using this
  clear hbb
  go_enter Try.func26, Try.ntmps26
  go_wp2_with fail
  refine (CR.out _ AL.out).mono ?_
  rintro e1 w1 ⟨b1, ⟨hy, rfl⟩ | ⟨hy, gm, ms, c, ls, rfl, bh, hR, hgm⟩⟩
  · have BB := hideP (below_trans AL.out b1)
    have OO := hideP ((O1.out.stays b1).mono (Nat.le_succ _))
    have E0 := hideP (EP.out.1 hy)
    clear b1 OKT CR hy EP O1 BX1 AL
    go_wp2
    go_loopw [3, 13] (fun o ix wr => o = .slice (some ⟨w.heap.size + 1, 0, none⟩) 0 0 ∧ ix = .int .i64 0 ∧ wr = w1) (fun _ _ _ => 0)
    case atStart => exact ⟨rfl, rfl, rfl⟩
    case round =>
      obtain ⟨rfl, rfl, rfl⟩ := hrel
      go_wp2
      go_ret
      exact ⟨_, rfl, by rw [E0.out]; exact OO.out, BB.out⟩
  · obtain ⟨hall, h0, hn⟩ := OKT.out hy
    have HALL := hideP hall
    have HR := hideP hR
    have E1 := hideP (EP.out.2 hy)
    obtain ⟨lo1, hlo1⟩ : ∃ lo1, ((w.alloc (.cells #[.slice us sizes.length cs, .int .i64 params, .int .i64 vars, .int .i64 slots, .slice ub blocks.length cb] 30)).alloc (.cells #[] 42)).heap.size = lo1 := ⟨_, rfl⟩
    have K1 := hideP (BkAt.mk (O1.out.stays b1) bh ((b1.block _ (hltP BX1.out)).trans BX1.out) (below_trans AL.out b1))
    rw [hlo1] at K1
    clear b1 OKT CR hy EP O1 BX1 AL bh hR hall hgm hlo1
    go_wp2
    go_loopg [3, 13] blocks.length (fun gk o ix wr => ∃ (j : Nat), gk + j = blocks.length ∧ ix = .int .i64 j ∧ Hid (BkAt w #[.slice us sizes.length cs, .int .i64 params, .int .i64 vars, .int .i64 slots, .slice ub blocks.length cb] lo1 blocks.length gm ms c ls o (backsUp blocks j) wr))
    case atStart => exact ⟨0, by simp, rfl, K1.out⟩
    case round =>
      obtain ⟨j, hj, rfl, hK⟩ := hrel
      clear K1
      by_cases hlt : j < blocks.length
      · obtain ⟨bb, oo, code, jump, a, t0, els, uc, kc, hub, _, hbl, he, q0, q1, q2, q3, q4, hbk⟩ := Blk_get HBB.out j hlt
        subst hub
        have hE := hK.out.bel
        have q0 := (hE.cell (p := ⟨bb, _, none⟩) hbl).trans q0
        have q1 := (hE.cell (p := ⟨bb, _, none⟩) hbl).trans q1
        have q2 := (hE.cell (p := ⟨bb, _, none⟩) hbl).trans q2
        have q3 := (hE.cell (p := ⟨bb, _, none⟩) hbl).trans q3
        have q4 := (hE.cell (p := ⟨bb, _, none⟩) hbl).trans q4
        have x4 := (cells_of hK.out.box).1 4
        simp at x4
        have NX := hideP (impl_next ⟨code, jump, a, t0, els⟩ _ B _ (BlkKeeps.stays hbk hE))
        have PN : Hid (nxt blocks (j : Int) = nextP blocks[j]) := preN_get hlt
        rw [he] at PN
        obtain ⟨nx, hnx⟩ : ∃ nx, nextP ⟨code, jump, a, t0, els⟩ = nx := ⟨_, rfl⟩
        have hnl : nx.length ≤ 2 := by rw [← hnx]; exact nextP_len _
        rw [hnx] at NX PN
        clear he hbk hnx hE
        go_wp2_with fail
        refine NX.out.mono ?_
        rintro e7 w7 ⟨v7, rfl, o7, b7⟩
        have lo7 := o7.low
        have CA := hideP (ascending_any nx w7 wr.heap.size v7 o7 (by omega))
        have K7 := hideP (hK.out.stays b7)
        have T7 : Hid (∀ g, v7.ownBlock = some g → w.heap.size < g ∧ ∃ cur, w7.heap[g]? = some (.cells cur 3 (0, 0))) := fun g hg => ⟨by have := (lo7 g hg).1; have := hltP hK.out.box; omega, o7.typ hg⟩
        clear o7 b7 lo7 NX hK q0 q1 q2 q3 q4 x4
        go_wp2_with fail
        refine CA.out.mono ?_
        rintro e8 w8 ⟨v8, rfl, o8, g8, hg8, hg9, bt8⟩
        have K8 : Hid (BkAt w #[.slice us sizes.length cs, .int .i64 params, .int .i64 vars, .int .i64 slots, .slice (some ⟨bb, oo, none⟩) blocks.length cb] lo1 blocks.length gm ms c ls _ (backsUp blocks j) w8) := let ⟨hlo, cur, hc⟩ := T7.out g8 hg8; K7.out.ints bt8 hc hlo
        obtain ⟨D, hD⟩ : ∃ D, ascP nx = D := ⟨_, rfl⟩
        have HD : Hid (D.filter (fun z => rulB blocks z (j : Int)) = bkTo blocks j) := by
          show _ = _
          rw [← hD, ascP_eq nx nx (fun _ => Iff.rfl), ← PN.out]
          exact bkTo_asc HALL.out j
        have DIN : Hid (∀ x ∈ D, ∃ t : Nat, x = (t : Int) ∧ t < blocks.length) := fun x hx => by
          rw [← hD, ascP_eq nx nx (fun _ => Iff.rfl), addAll_mem, ← PN.out] at hx
          obtain ⟨h1, h2⟩ := nxt_in HALL.out _ x hx
          exact ⟨x.toNat, by omega, by omega⟩
        have hDl : D.length ≤ 1000 := by rw [← hD]; exact Nat.le_trans (compact_le _) (by rw [List.length_mergeSort]; omega)
        rw [hD] at o8
        obtain ⟨gd, cd, hv8, _⟩ := id o8
        subst hv8
        have O8 := hideP o8
        have BL := hideP (backsUp_len blocks j)
        have hBL : j * blocks.length ≤ 300 * 300 := Nat.mul_le_mul (by omega) hn
        clear o8 hg8 hg9 bt8 CA K7 T7 hD PN
        go_wp2
        go_loopg [3, 24] D.length (fun gk2 o ix wr => ∃ (r : Nat), gk2 + r = D.length ∧ ix = .int .i64 r ∧ Hid (BkAt w #[.slice us sizes.length cs, .int .i64 params, .int .i64 vars, .int .i64 slots, .slice (some ⟨bb, oo, none⟩) blocks.length cb] lo1 blocks.length gm ms c ls o (backsUp blocks j ++ bkRow j ((D.take r).filter (fun z => rulB blocks z (j : Int)))) wr) ∧ Hid (OwnI wr 0 (.slice (some ⟨gd, 0, none⟩) D.length cd) D))
        case atStart => exact ⟨0, by simp, rfl, by show BkAt _ _ _ _ _ _ _ _ _ _ _; simp [nil_length]; exact K8.out, O8.out.mono (Nat.zero_le _)⟩
        case round =>
          obtain ⟨r, hr, rfl, hK, hO⟩ := hrel
          clear K8 O8
          by_cases hrl : r < D.length
          · obtain ⟨x, hx⟩ : ∃ x, D[r] = x := ⟨_, rfl⟩
            obtain ⟨t, ht, htn⟩ := DIN.out x (hx ▸ List.getElem_mem hrl)
            subst ht
            have x0 := hO.out.at r hrl
            rw [hx, Nat.zero_add] at x0
            have TK : Hid (D.take (r + 1) = D.take r ++ [(t : Int)]) := by show _ = _; rw [List.take_succ_eq_append_getElem hrl, hx]
            have m1 := hK.out.bh.at htn
            have ST := (hK.out.bh.set t htn).1
            have IJ : I64 (j : Int) := by unfold I64; omega
            have CH := hideP (hasI_any (ls t) (j : Int) wr (ms t) (c t) ST IJ)
            have EB : Hid (inL (ls t) (j : Int) = rulB blocks (t : Int) (j : Int)) := by
              show _ = _
              rw [Bool.eq_iff_iff, inL_iff, (HR.out t htn).2, rulB_iff]
              exact (rul_iff HALL.out _ _).symm
            rw [EB.out] at CH
            obtain ⟨mt, hmt⟩ : ∃ mt, ms t = mt := ⟨_, rfl⟩
            rw [hmt] at m1 CH
            clear hx ST hmt
            go_wp2_with fail
            refine CH.out.mono ?_
            rintro e9 w9 ⟨rfl, b9⟩
            have K9 := hideP (hK.out.stays b9)
            have O9 := hideP (hO.out.stays b9)
            clear b9 hK hO CH m1 x0
            cases hrb : rulB blocks (t : Int) (j : Int) with
            | false =>
              have K2 := hideP (K9.out.eqL (l' := backsUp blocks j ++ bkRow j ((D.take (r + 1)).filter (fun z => rulB blocks z (j : Int)))) (by rw [TK.out, List.filter_append]; simp [hrb]))
              clear hrb K9
              go_wp2
              go_roundg (D.length - (r + 1))
              case rel => exact ⟨r + 1, by omega, by go_num, K2.out, O9.out⟩
              case measure => omega
            | true =>
              have UPE : Hid (backsUp blocks j ++ bkRow j ((D.take (r + 1)).filter (fun z => rulB blocks z (j : Int))) = (backsUp blocks j ++ bkRow j ((D.take r).filter (fun z => rulB blocks z (j : Int)))) ++ [(j, t)]) := by
                show _ = _
                rw [TK.out, List.filter_append, bkRow_app]
                simp [hrb, bkRow]
              have hpl : (backsUp blocks j ++ bkRow j ((D.take r).filter (fun z => rulB blocks z (j : Int)))).length + 1 ≤ 8000000 := by
                have h1 := BL.out
                have h2 := List.length_filter_le (fun z => rulB blocks z (j : Int)) (D.take r)
                have h3 : (D.take r).length ≤ 1000 := by rw [List.length_take]; omega
                rw [List.length_append]
                simp only [bkRow, List.length_map]
                omega
              obtain ⟨PL, hPL⟩ : ∃ PL, backsUp blocks j ++ bkRow j ((D.take r).filter (fun z => rulB blocks z (j : Int))) = PL := ⟨_, rfl⟩
              rw [hPL] at K9 UPE hpl
              clear hrb hPL
              obtain ⟨go, co, hvo, _⟩ := id K9.out.own
              subst hvo
              have al := (Below.refl w9.heap.size w9).alloc (Nat.le_refl _) (.cells #[.int .i64 (j : Int), .int .i64 (t : Int)] 42)
              have CQ : Hid (∀ q, q < A2E.sz → (w9.alloc (.cells #[.int .i64 (j : Int), .int .i64 (t : Int)] 42)).cell? ⟨w9.heap.size, 0 + q, none⟩ = (A2E.cs (j, t))[q]?) := fun q _ => by
                have := (cells_of (heap_alloc_new w9 (.cells #[.int .i64 (j : Int), .int .i64 (t : Int)] 42))).1 q
                rw [Nat.zero_add, this]; simp [A2E]
              have OA := hideP (K9.out.own.stays al)
              have hsz : w.heap.size + 1 ≤ (w9.alloc (.cells #[.int .i64 (j : Int), .int .i64 (t : Int)] 42)).heap.size := Nat.le_trans (hltP K9.out.box) al.size
              clear al
              go_wp2_with (at_builtin; refine list_appE A2Ok _ rfl _ _ rfl (w.heap.size + 1) _ PL (j, t) w9.heap.size 0 1 rfl rfl OA.out CQ.out hpl hsz ?_; intro v6 w6 o6 grow6 loc6)
              replace grow6 : World.grownBy _ w6 ((Value.slice (some ⟨go, 0, none⟩) PL.length co).ownBlock) := grow6
              have K6 := hideP (K9.out.grow o6 grow6)
              have O6 := hideP (O9.out.a2 K9.out.own grow6)
              rw [← UPE.out] at K6
              clear o6 grow6 loc6 OA CQ K9 O9
              go_wp2
              go_roundg (D.length - (r + 1))
              case rel => exact ⟨r + 1, by omega, by go_num, K6.out, O6.out⟩
              case measure => omega
          · have hrn : r = D.length := by omega
            subst hrn
            have K2 := hideP (hK.out.eqL (l' := backsUp blocks (j + 1)) (by rw [List.take_length, HD.out]; rfl))
            clear hK
            go_wp2
            go_roundg (blocks.length - (j + 1))
            case rel => exact ⟨j + 1, by omega, by go_num, K2.out⟩
            case measure => omega
      · have hjn : j = blocks.length := by omega
        subst hjn
        go_wp2
        go_ret
        exact ⟨_, rfl, by rw [E1.out]; exact hK.out.own.mono (Nat.le_succ _), hK.out.bel⟩
end Go.Proofs.Ytooaoankloocmab
