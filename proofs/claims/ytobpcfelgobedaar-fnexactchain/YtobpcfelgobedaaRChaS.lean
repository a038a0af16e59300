/- The contract of spec.Chain. -/
import Derived.Test.YtobpcfelgobedaaRChaT
namespace Go.Proofs.YtobpcfelgobedaaR
open Go.ChangeShapes Go.WideShapes Go.ChangeAt Go.RowKit
/-- While the specification's Chain walks: the graph's box, the row of those that are there, the order so far. -/
structure CsAt (w : World) (gv : Array Value) (n gs : Nat) (D : List Int) (v : Value) (W : World) : Prop where
  box : W.heap[w.heap.size]? = some (.cells gv 30 (0, 0))
  row : TruIs W gs n (fun k => decide ((k : Int) ∈ D))
  own : OwnI W (w.heap.size + 1) v D
  low : w.heap.size + 1 ≤ gs
  bel : Below w.heap.size w W
section
variable {w W W' : World} {gv : Array Value} {n gs : Nat} {D : List Int} {v v' : Value}
theorem CsAt.stays (h : CsAt w gv n gs D v W) (b : Below W.heap.size W W') : CsAt w gv n gs D v W' :=
  ⟨(b.block _ (Array.getElem?_eq_some_iff.1 h.box).1).trans h.box, h.row.stays b, h.own.stays b, h.low, below_trans h.bel b⟩
theorem CsAt.nem (h : CsAt w gv n gs D v W) : v.ownBlock ≠ some gs := by
  obtain ⟨g, cap, cur, rfl, _, hh, _⟩ := h.own.parts
  intro e
  simp only [Value.ownBlock, Option.some.injEq] at e
  obtain ⟨c, h2, _⟩ := h.row
  rw [← e, hh] at h2
  simp at h2
end
set_option maxHeartbeats 8000000 in
set_option maxRecDepth 100000 in
theorem spec_chain (g : Gr) (C : List Int) (w : World) (B B2 : Nat) (v : Array Value) (uc : Option Addr) (kc : Nat) (h : GrIs w B v g) (hC : IntsIs w B2 uc C) (GO : OkIs 26 g) :
    Calls Try.prog 19 #[.agg v, .slice uc C.length kc] w fun en w' => ∃ v', en = .returned v' ∧ OwnI w' w.heap.size v' (chainP g C) ∧ Below w.heap.size w w' := by
  have hG := hideP h
  obtain ⟨R, hR⟩ : ∃ R, chainP g C = R := ⟨_, rfl⟩
  rw [hR]
  have HR := hideP hR
  clear hR
  obtain ⟨gok, hgok⟩ : ∃ r, grOk g = r := ⟨_, rfl⟩
  have GO1 : Hid (∀ W A v, GrIs W A v g → Calls Try.prog 26 #[.agg v] W fun en w' => en = .returned (.bool gok) ∧ Below W.heap.size W w') := fun W A v hv => hgok ▸ GO W A v hv
  have BH := hideP (best_any g C)
  have BO := hideP (fun (h : grOk g = true) D a => behC_or h C D a)
  have HK := hideP hgok
  have HC := hideP hC
  have hlC := hC.1
  clear hgok GO hC
  obtain ⟨sizes, params, vars, slots, blocks⟩ := g
  obtain ⟨us, cs, ub, cb, rfl, _, _, hb⟩ := h
  simp only at *
  have hm := maxLen_lt
  have hlb := hb.1
  clear hb
  have Q1 := hideP (two (Below.refl ((w.alloc (.cells #[.slice us sizes.length cs, .int .i64 params, .int .i64 vars, .int .i64 slots, .slice ub blocks.length cb] 30)).alloc (.cells #[] 3)).heap.size _)).1
  have O0 : Hid (OwnI ((w.alloc (.cells #[.slice us sizes.length cs, .int .i64 params, .int .i64 vars, .int .i64 slots, .slice ub blocks.length cb] 30)).alloc (.cells #[] 3)) (w.heap.size + 1) (.slice (some ⟨w.heap.size + 1, 0, none⟩) 0 0) []) := by
    have := own_lit (w.alloc (.cells #[.slice us sizes.length cs, .int .i64 params, .int .i64 vars, .int .i64 slots, .slice ub blocks.length cb] 30)) [] #[] (w.heap.size + 1) 0 (by simp) rfl rfl (by simp)
    show OwnI _ _ _ _
    simpa using this
  have BW := hideP (below2 w (.cells #[.slice us sizes.length cs, .int .i64 params, .int .i64 vars, .int .i64 slots, .slice ub blocks.length cb] 30) (.cells #[] 3))
  go_enter Try.func19, Try.ntmps19
  go_wp2_with fail
  refine (GO1.out _ B _ (GrKeeps.stays hG.out BW.out)).mono ?_
  rintro e1 w1 ⟨rfl, bel1⟩
  have BB := hideP (below_trans BW.out bel1)
  have QQ := hideP ((bel1.block w.heap.size (Array.getElem?_eq_some_iff.1 Q1.out).1).trans Q1.out)
  have O1 := hideP (O0.out.stays bel1)
  have hz1 : w.heap.size + 2 ≤ w1.heap.size := by have := bel1.size; simp at this; omega
  clear bel1 Q1 BW GO1 O0
  cases gok with
  | false =>
    have E : Hid (R = []) := by show _ = _; rw [← HR.out]; unfold chainP; rw [if_neg (fun h => by have := h.2; rw [HK.out] at this; cases this)]
    have ON := hideP (O1.out.mono (show w.heap.size ≤ w.heap.size + 1 by omega))
    go_wp2
    go_ret
    exact ⟨_, rfl, by rw [E.out]; exact ON.out, BB.out⟩
  | true =>
    have hbl := grOk_blocks HK.out
    simp only at hbl
    have p4 := (cells_of QQ.out).1 4
    simp at p4
    by_cases hlen : C.length = blocks.length
    case neg =>
      have E : Hid (R = []) := by show _ = _; rw [← HR.out]; unfold chainP; rw [if_neg (fun h => hlen h.1)]
      have hne : ((C.length : Int) == (blocks.length : Int)) = false := by simpa using (by omega : ¬ (C.length : Int) = (blocks.length : Int))
      have ON := hideP (O1.out.mono (show w.heap.size ≤ w.heap.size + 1 by omega))
      go_wp2
      go_ret
      exact ⟨_, rfl, by rw [E.out]; exact ON.out, BB.out⟩
    case pos =>
      have hmk := make_tru blocks.length (by omega)
      have A0 : Hid (CsAt w #[.slice us sizes.length cs, .int .i64 params, .int .i64 vars, .int .i64 slots, .slice ub blocks.length cb] blocks.length w1.heap.size [] (.slice (some ⟨w.heap.size + 1, 0, none⟩) 0 0) (w1.alloc (.cells (madeCells #[.bool false] blocks.length) 4))) := by
        have al := (Below.refl w1.heap.size w1).alloc (Nat.le_refl _) (.cells (madeCells #[.bool false] blocks.length) 4)
        exact ⟨(al.block _ (Array.getElem?_eq_some_iff.1 QQ.out).1).trans QQ.out, (made_tru w1 blocks.length).congr (fun i _ => by simp), O1.out.stays al, by omega, below_trans BB.out al⟩
      have HLN := hideP hlen
      have CI0 : Hid (ChI blocks C R [] 0 blocks.length) := ⟨by simp, by simp, by simp, by rw [← HR.out]; unfold chainP; rw [if_pos ⟨HLN.out, HK.out⟩]⟩
      go_upto_region 6 with fail
      clear hmk p4 hlen O1 QQ
      go_loopg [5, 7] blocks.length (fun gk o a wr => ∃ (D : List Int) (z : Int), a = .int .i64 z ∧ Hid (CsAt w #[.slice us sizes.length cs, .int .i64 params, .int .i64 vars, .int .i64 slots, .slice ub blocks.length cb] blocks.length w1.heap.size D o wr) ∧ Hid (ChI blocks C R D z gk) ∧ Hid (z = -1 ∨ (InQ blocks.length z ∧ ¬ z ∈ D)))
      case atStart => exact ⟨[], 0, rfl, A0.out, CI0.out, Or.inr ⟨⟨by omega, by omega⟩, by simp⟩⟩
      case round =>
        obtain ⟨D, z, rfl, hA, hI, hz⟩ := hrel
        by_cases hz1 : z = -1
        case pos =>
          subst hz1
          have E : Hid (D = R) := by
            show _ = _
            rw [← hI.out.res, runC_neg (by decide)]
          have ON := hideP (hA.out.own.mono (show w.heap.size ≤ w.heap.size + 1 by omega))
          go_wp2
          go_ret
          exact ⟨_, rfl, by rw [← E.out]; exact ON.out, hA.out.bel⟩
        case neg =>
          obtain ⟨hzq, hzn⟩ := hz.out.resolve_left hz1
          obtain ⟨f', rfl⟩ := hI.out.few hzq hzn
          have CI2 := hideP (hI.out.step hzq hzn)
          obtain ⟨k, rfl⟩ : ∃ k : Nat, z = (k : Int) := ⟨z.toNat, by have := hzq.1; omega⟩
          have hkn : k < blocks.length := by have := hzq.2; omega
          have hDl : D.length ≤ 300 := by have := hI.out.len; omega
          obtain ⟨bz, hbz⟩ : ∃ bz, nextC blocks C (D ++ [(k : Int)]) (k : Int) = bz := ⟨_, rfl⟩
          have BHk := hideP (BH.out (D ++ [(k : Int)]) k)
          have CZ : Hid (bz = -1 ∨ (InQ blocks.length bz ∧ ¬ bz ∈ D ++ [(k : Int)])) := by
            show _ ∨ _
            rw [← hbz]
            unfold nextC
            split
            · exact leastC_or _ _
            · rename_i h
              exact (BO.out HK.out (D ++ [(k : Int)]) (k : Int))
          rw [hbz] at BHk CI2
          obtain ⟨t0, tf⟩ := hA.out.row.at hkn
          obtain ⟨g5, c5, rfl, _⟩ := id hA.out.own
          have g5l := (hA.out.own.low g5 rfl).1
          have g5m := hA.out.nem
          simp only [Value.ownBlock, ne_eq, Option.some.injEq] at g5m
          have ix0 : (0 : Int) ≤ (k : Int) := by omega
          have ix1 : (k : Int) < (blocks.length : Int) := by omega
          have R5 : Hid (TruIs (wr.setCell ⟨w1.heap.size, k, none⟩ (.bool true)) w1.heap.size blocks.length (fun q => decide ((q : Int) ∈ D ++ [(k : Int)]))) := hA.out.row.set hkn (fun q _ => by
            simp only [List.mem_append, List.mem_singleton]
            by_cases hq : q = k
            · subst hq; simp
            · have : ¬ (q : Int) = (k : Int) := by omega
              simp [hq, this])
          have BT : Hid (But w1.heap.size wr (wr.setCell ⟨w1.heap.size, k, none⟩ (.bool true))) := (But.refl _ _).set k (.bool true)
          have X1 := hideP ((BT.out.block _ (Array.getElem?_eq_some_iff.1 hA.out.box).1 (by omega)).trans hA.out.box)
          have X3 := hideP (hA.out.own.butG BT.out (by simp [Value.ownBlock]; exact g5m))
          have X5 : Hid (Below w.heap.size w (wr.setCell ⟨w1.heap.size, k, none⟩ (.bool true))) := hA.out.bel.trans (BT.out.below (by omega) hA.out.bel.size)
          have hsz : w1.heap.size < wr.heap.size := hA.out.row.lt
          clear hz hI hzq hzn hbz hA BT
          go_upto_region 9 with fail
          obtain ⟨w6, hw6⟩ : ∃ w6, wr.setCell ⟨w1.heap.size, k, none⟩ (.bool true) = w6 := ⟨_, rfl⟩
          have HZ6 : Hid (w6.heap.size = wr.heap.size) := by show _ = _; rw [← hw6]; exact size_set _ _ _
          rw [hw6] at R5 X1 X3 X5 ⊢
          clear hw6 t0 tf
          have al := (Below.refl w6.heap.size w6).alloc (Nat.le_refl _) (.cells #[.int .i64 (k : Int)] 3)
          have OD := hideP (own_lit w6 [(k : Int)] #[.int .i64 (k : Int)] w6.heap.size 1 rfl rfl rfl (by simp))
          have Y1 := hideP ((al.block _ (Array.getElem?_eq_some_iff.1 X1.out).1).trans X1.out)
          have Y2 := hideP (R5.out.stays al)
          have OC := hideP (X3.out.stays al)
          have Y6 := hideP (below_trans X5.out al)
          have SC : Hid (w.heap.size + 1 ≤ (w6.alloc (.cells #[.int .i64 (k : Int)] 3)).heap.size) := by have := HZ6.out; show _ ≤ _; simp; omega
          clear X1 X3 X5 R5 al
          have MK : Hid (∀ v7 w7, OwnI w7 (w.heap.size + 1) v7 (D ++ [(k : Int)]) → (w6.alloc (.cells #[.int .i64 (k : Int)] 3)).grownBy w7 (Value.slice (some ⟨g5, 0, none⟩) D.length c5).ownBlock → CsAt w #[.slice us sizes.length cs, .int .i64 params, .int .i64 vars, .int .i64 slots, .slice ub blocks.length cb] blocks.length w1.heap.size (D ++ [(k : Int)]) v7 w7) := fun v7 w7 o7 grow7 => by
            have hg : ∀ q, q ≠ g5 → some q ≠ (Value.slice (some ⟨g5, 0, none⟩) D.length c5).ownBlock := fun q hq e => hq (by simpa [Value.ownBlock] using e)
            exact ⟨(grow7.block _ (Array.getElem?_eq_some_iff.1 Y1.out).1 (hg _ (by omega))).trans Y1.out, Y2.out.keep (grow7.block _ Y2.out.lt (hg _ (fun e => g5m e.symm))), o7, by omega, Y6.out.grown grow7 Y6.out.size (fun b' hb' => by have := OC.out.low b' hb'; omega)⟩
          go_wp2_with (at_builtin; refine list_appI _ rfl _ _ rfl (w.heap.size + 1) _ D [(k : Int)] w6.heap.size 0 1 1 rfl rfl rfl OC.out OD.out.at (by simp; omega) SC.out ?_; intro v7 w7 o7 grow7 loc7; have A7 := hideP (MK.out v7 w7 o7 grow7); have g0 := (cells_of A7.out.box).1 0; have g1 := (cells_of A7.out.box).1 1; have g2 := (cells_of A7.out.box).1 2; have g3 := (cells_of A7.out.box).1 3; have g4 := (cells_of A7.out.box).1 4; simp at g0 g1 g2 g3 g4; clear o7 grow7 loc7)
          clear Y1 Y2 OC Y6 SC OD g5l g5m MK
          have CB := hideP (BHk.out w7 B B2 w1.heap.size _ uc kc (GrKeeps.stays hG.out A7.out.bel) HK.out A7.out.row (HC.out.stays A7.out.bel) HLN.out hkn)
          rw [HLN.out] at CB
          clear BHk
          go_wp2_with fail
          refine CB.out.mono ?_
          rintro e8 w8 ⟨rfl, b8⟩
          have A8 := hideP (A7.out.stays b8)
          clear b8 A7 CB g0 g1 g2 g3 g4
          go_wp2
          go_roundg f'
          case rel => exact ⟨D ++ [(k : Int)], bz, rfl, A8.out, CI2.out, CZ.out⟩
          case measure => omega
end Go.Proofs.YtobpcfelgobedaaR
