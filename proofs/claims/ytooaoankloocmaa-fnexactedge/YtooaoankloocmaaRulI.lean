/- The contract of impl.Rules. -/
import Derived.Test.YtooaoankloocmaaRmsI
import Derived.Test.YtooaoankloocmaaSetAll
import Derived.Test.YtooaoankloocmaaRlsS
namespace Go.Proofs.Ytooaoankloocmaa
open Go.ChangeShapes Go.WideShapes Go.ChangeAt Go.RowKit Go.Maps
/-- Which of the first j blocks rule block t. -/
noncomputable def rlUp (xs : List Blk) (j : Nat) (t : Nat) : List Int := upB (fun i => rulB xs (i : Int) (t : Int)) j
theorem rlUp_yes {xs : List Blk} (hx : AllIn xs) {j t : Nat} (h : RulMd xs (j : Int) (t : Int)) : rlUp xs (j + 1) t = rlUp xs j t ++ [(j : Int)] := if_pos (rulB_iff.2 ((rul_iff hx _ _).2 h))
theorem rlUp_no {xs : List Blk} (hx : AllIn xs) {j t : Nat} (h : ¬ RulMd xs (j : Int) (t : Int)) : rlUp xs (j + 1) t = rlUp xs j t := if_neg (fun e => h ((rul_iff hx _ _).1 (rulB_iff.1 e)))
/-- Lists of numbers in memory of their own: n of them. -/
def SsMade (w : World) (n : Nat) (pre : Nat → List Int) (e : Ending) (w' : World) : Prop := ∃ ga av, e = .returned (.slice (some ⟨ga, 0, none⟩) n n) ∧ AhAt w.heap.size n ga av pre w' ∧ w.heap.size ≤ ga ∧ Below w.heap.size w w'
theorem AhAt.appM {lo n ga : Nat} {av : Nat → Value} {pre : Nat → List Int} {W W1 W2 : World} (h : AhAt lo n ga av pre W) {t : Nat} (ht : t < n) (b1 : Below W.heap.size W W1) (hg : W1.grownBy W2 (av t).ownBlock) : W2.cell? ⟨ga, t, none⟩ = some (av t) ∧ W2.frozen? ⟨ga, t, none⟩ = false := by
  have h1 := h.stays b1
  obtain ⟨cur, r1, _, r3⟩ := h1.row
  have r1' : W2.heap[ga]? = some (.cells cur 22 (0, 0)) := (hg.block _ (hltP r1) (fun e => by
    obtain ⟨_, _, c2, hc2⟩ := (h1.own t ht).low ga e.symm
    rw [r1] at hc2
    injection hc2 with hc2
    injection hc2 with _ e2
    exact absurd e2 (by decide))).trans r1
  exact ⟨by simp only [World.cell?, r1']; exact r3 t ht, (cells_of r1').2 t⟩
open Classical in
set_option maxRecDepth 100000 in
set_option maxHeartbeats 8000000 in
theorem impl_rules (g : Gr) (w : World) (B : Nat) (v : Array Value) (h : GrIs w B v g) (GO : OkIs 65 g) :
    Calls Try.prog 12 #[.agg v] w fun en w' => (grOk g = false ∧ SsMade w 0 (fun _ => []) en w') ∨ (grOk g = true ∧ SsMade w g.blocks.length (rlUp g.blocks g.blocks.length) en w') := by
  have CR := hideP (fun W (hW : Below w.heap.size w W) => realmsOf_any g W B v (GrKeeps.stays h hW) GO)
  have OKT : Hid (grOk g = true → AllIn g.blocks ∧ 0 < g.blocks.length ∧ g.blocks.length ≤ 300) := fun e => ⟨allIn_of e, (grOk_blocks e).1, (grOk_blocks e).2⟩
  obtain ⟨sizes, params, vars, slots, blocks⟩ := g
  obtain ⟨us, cs, ub, cb, rfl, _, _, _⟩ := h
  simp only at *
  have AL := hideP ((Below.refl w.heap.size w).alloc (Nat.le_refl _) (.cells #[.slice us sizes.length cs, .int .i64 params, .int .i64 vars, .int .i64 slots, .slice ub blocks.length cb] 31))
  go_enter Try.func12, Try.ntmps12
  go_wp2_with fail
  refine (CR.out _ AL.out).mono ?_
  rintro e1 w1 ⟨b1, ⟨hy, rfl⟩ | ⟨hy, gm, ms, c, ls, rfl, bh, hR, hgm⟩⟩
  · have BB := hideP (below_trans AL.out b1)
    have A0 := hideP (ahAt_made w1 0 w.heap.size)
    have hm : ∀ W : World, (Instr.makeSlice 27 (.int .i64 0) (.int .i64 0)).run Try.prog W = .ok (.slice (some ⟨W.heap.size, 0, none⟩) 0 0) (W.alloc (.cells (madeCells #[.slice none 0 0] 0) 22)) := fun W => make_ints 0 (by omega) W
    have FIN : Hid (∀ e w', SsMade w 0 (fun _ => []) e w' → (grOk ⟨sizes, params, vars, slots, blocks⟩ = false ∧ SsMade w 0 (fun _ => []) e w') ∨ (grOk ⟨sizes, params, vars, slots, blocks⟩ = true ∧ SsMade w blocks.length (rlUp blocks blocks.length) e w')) := fun e w' h => Or.inl ⟨hy, h⟩
    have hws : w.heap.size ≤ w1.heap.size := BB.out.size
    clear b1 OKT CR hy
    go_wp2
    go_loopw [15] (fun ix wr => ix = .int .i64 0 ∧ wr = w1.alloc (.cells (madeCells #[.slice none 0 0] 0) 22)) (fun _ _ => 0)
    case atStart => exact ⟨rfl, rfl⟩
    case round =>
      obtain ⟨rfl, rfl⟩ := hrel
      go_wp2
      go_ret
      exact FIN.out _ _ ⟨_, _, rfl, A0.out, hws, BB.out.alloc hws _⟩
  · obtain ⟨hall, h0, hn⟩ := OKT.out hy
    have HALL := hideP hall
    have BB := hideP (below_trans AL.out b1)
    have hws : w.heap.size ≤ w1.heap.size := BB.out.size
    have al := (Below.refl w1.heap.size w1).alloc (Nat.le_refl _) (.cells (madeCells #[.slice none 0 0] blocks.length) 22)
    have A0 := hideP (ahAt_made w1 blocks.length w.heap.size)
    have H0 := hideP (bh.stays al)
    have B0 := hideP (below_trans BB.out al)
    have HR := hideP hR
    have hm := make_ints blocks.length (by omega)
    have FIN : Hid (∀ e w', SsMade w blocks.length (rlUp blocks blocks.length) e w' → (grOk ⟨sizes, params, vars, slots, blocks⟩ = false ∧ SsMade w 0 (fun _ => []) e w') ∨ (grOk ⟨sizes, params, vars, slots, blocks⟩ = true ∧ SsMade w blocks.length (rlUp blocks blocks.length) e w')) := fun e w' h => Or.inr ⟨hy, h⟩
    clear b1 OKT CR hy bh hR al BB hall
    go_wp2
    obtain ⟨ga, hga⟩ : ∃ ga, w1.heap.size = ga := ⟨_, rfl⟩
    obtain ⟨W0, hW0⟩ : ∃ W0, w1.alloc (.cells (madeCells #[.slice none 0 0] blocks.length) 22) = W0 := ⟨_, rfl⟩
    rw [hW0] at A0 H0 B0 ⊢
    rw [hga] at A0 hws ⊢
    clear hga hW0 hm
    obtain ⟨lo1, hlo1⟩ : ∃ lo1, (w.alloc (.cells #[.slice us sizes.length cs, .int .i64 params, .int .i64 vars, .int .i64 slots, .slice ub blocks.length cb] 31)).heap.size = lo1 := ⟨_, rfl⟩
    rw [hlo1] at H0
    clear hlo1
    go_loopg [15] blocks.length (fun gk ix wr => ∃ (j : Nat) (av : Nat → Value), gk + j = blocks.length ∧ ix = .int .i64 j ∧ Hid (AhAt w.heap.size blocks.length ga av (rlUp blocks j) wr) ∧ Hid (BhAt lo1 blocks.length gm ms blocks.length c ls wr) ∧ Hid (Below w.heap.size w wr))
    case atStart => exact ⟨0, _, by simp, rfl, A0.out, H0.out, B0.out⟩
    case round =>
      obtain ⟨j, av, hj, rfl, hA, hH, hE⟩ := hrel
      clear A0 H0 B0
      by_cases hlt : j < blocks.length
      · have m1 := hH.out.at hlt
        have SJ := hideP (hH.out.set j hlt).1
        obtain ⟨mj, hmj⟩ : ∃ mj, ms j = mj := ⟨_, rfl⟩
        rw [hmj] at m1 SJ
        have RJ := hideP (HR.out j hlt)
        obtain ⟨l, hl⟩ : ∃ l, ls j = l := ⟨_, rfl⟩
        obtain ⟨cj, hcj⟩ : ∃ cj, c j = cj := ⟨_, rfl⟩
        rw [hl, hcj] at SJ RJ
        clear hmj hl hcj
        go_wp2_with (first
          | (at_range; refine rgs_range _ rfl _ rfl mj cj l rfl SJ.out ?_; intro w3 cnt3 hrg3 hg3 hs3)
          | go_in)
        have bel3 : Below wr.heap.size wr w3 := grown_below hg3 (fun b h => by cases h) (Nat.le_refl _)
        have A3 : Hid (AhAt w.heap.size blocks.length ga av (fun t => if (t : Int) ∈ ([] : List Int) then rlUp blocks j t ++ [(j : Int)] else rlUp blocks j t) w3) := (hA.out.stays bel3).congr (fun t _ => by rw [if_neg (by simp)])
        have H3 := hideP (hH.out.stays bel3)
        have E3 := hideP (below_trans hE.out bel3)
        obtain ⟨r3, hr3⟩ : ∃ r3, wr.heap.size = r3 := ⟨_, rfl⟩
        rw [hr3] at hrg3 ⊢
        have RG3 := hideP hrg3
        have HR3 : Hid (w.heap.size ≤ r3) := by rw [← hr3]; exact hE.out.size
        clear hrg3 hg3 hs3 bel3 hr3 m1 hA hH hE SJ
        go_frame
        go_loopw [] (fun wr => ∃ (av : Nat → Value) (dn : List Int) (cnt : Nat), Hid (RgS wr mj r3 cj l dn cnt) ∧ Hid (AhAt w.heap.size blocks.length ga av (fun t => if (t : Int) ∈ dn then rlUp blocks j t ++ [(j : Int)] else rlUp blocks j t) wr) ∧ Hid (BhAt lo1 blocks.length gm ms blocks.length c ls wr) ∧ Hid (Below w.heap.size w wr)) (fun wr => wr.rangeLeft mj r3)
        case atStart => exact ⟨av, [], cnt3, RG3.out, A3.out, H3.out, E3.out⟩
        case round =>
          obtain ⟨av, dn, cnt, hrg, hA, hH, hE⟩ := hrel
          clear RG3 A3 H3 E3
          go_wp2_with (first
            | (at_next; refine rgs_next _ rfl _ rfl mj r3 cj l dn cnt rfl hrg.out ?_ ?_)
            | go_in)
          · intro hall
            have A4 : Hid (AhAt w.heap.size blocks.length ga av (rlUp blocks (j + 1)) wr) := hA.out.congr (fun t _ => by
              by_cases e : RulMd blocks (j : Int) (t : Int)
              · rw [rlUp_yes HALL.out e, if_pos ((hall _).2 ((RJ.out.2 _).2 e))]
              · rw [rlUp_no HALL.out e, if_neg (fun h => e ((RJ.out.2 _).1 ((hall _).1 h)))])
            clear hall hA
            go_wp2
            go_roundg (blocks.length - (j + 1))
            case rel => exact ⟨j + 1, av, by omega, by go_num, A4.out, hH.out, hE.out⟩
            case measure => omega
          · intro x w4 cnt4 hx hxn hxi hrg4 hlt4 hg4 hs4 hen
            obtain ⟨t, rfl⟩ : ∃ t : Nat, x = (t : Int) := ⟨x.toNat, by have := (rulMd_in HALL.out h0 ((RJ.out.2 _).1 hx)).1; omega⟩
            have htn : t < blocks.length := by have := (rulMd_in HALL.out h0 ((RJ.out.2 _).1 hx)).2; omega
            have A4 := hideP (hA.out.keep (W' := w4) (fun g c T hg _ => hrg.out.keepO hg4 hg (by simp)))
            have H4 := hideP (hH.out.keep (W' := w4) (fun g es cl hg => hrg.out.keepO hg4 hg (by simp)) (fun g c hg => hrg.out.keepO hg4 hg (by simp)))
            have E4 := hideP (hE.out.grown hg4 hE.out.size (fun b' hb' => by injection hb' with e; have := HR3.out; omega))
            have RG4 := hideP hrg4
            have NE := hideP hxn
            have LE := hideP hrg.out.left_eq
            have HLT := hideP hlt4
            obtain ⟨m4, f4⟩ := A4.out.at htn
            have f4 := f4 t
            have hNum := A4.out.own t htn
            simp only [if_neg hxn] at hNum
            obtain ⟨AV, hAV⟩ : ∃ AV, av t = AV := ⟨_, rfl⟩
            obtain ⟨PR, hPR⟩ : ∃ PR, rlUp blocks j t = PR := ⟨_, rfl⟩
            rw [hAV, hPR] at hNum
            rw [hAV] at m4
            have hPl : PR.length ≤ 1000 := by rw [← hPR]; exact Nat.le_trans (upB_len _ j) (by omega)
            have al := (Below.refl w4.heap.size w4).alloc (Nat.le_refl _) (.cells #[.int .i64 (j : Int)] 3)
            have AL5 := hideP al
            have NA : Hid (NumN (w4.alloc (.cells #[.int .i64 (j : Int)] 3)) w.heap.size AV PR) := hNum.keep (fun g _ hlt => al.block g hlt)
            have LC : Hid ((w4.alloc (.cells #[.int .i64 (j : Int)] 3)).cell? ⟨w4.heap.size, 0, none⟩ = some (.int .i64 (j : Int))) := (cells_of (newB8 w4 (.cells #[.int .i64 (j : Int)] 3))).1 0
            have hlo : w.heap.size ≤ (w4.alloc (.cells #[.int .i64 (j : Int)] 3)).heap.size := Nat.le_trans E4.out.size al.size
            have APP : Hid (∀ v' w6, OwnI w6 w.heap.size v' (PR ++ [(j : Int)]) → (w4.alloc (.cells #[.int .i64 (j : Int)] 3)).grownBy w6 AV.ownBlock → (v'.ownBlock = AV.ownBlock ∨ v'.ownBlock = some (w4.alloc (.cells #[.int .i64 (j : Int)] 3)).heap.size) → AhAt w.heap.size blocks.length ga (fun u => if u = t then v' else av u) (fun u => if (u : Int) ∈ dn ++ [(t : Int)] then rlUp blocks j u ++ [(j : Int)] else rlUp blocks j u) (w6.setCell ⟨ga, t, none⟩ v') ∧ NumT w4 (w6.setCell ⟨ga, t, none⟩ v') ∧ Below w.heap.size w4 (w6.setCell ⟨ga, t, none⟩ v') ∧ w6.cell? ⟨ga, t, none⟩ = some AV ∧ w6.frozen? ⟨ga, t, none⟩ = false) := fun v' w6 o6 g6 l6 => by
              rw [← hAV] at g6 l6
              have := A4.out.appT (W1 := w4.alloc (.cells #[.int .i64 (j : Int)] 3)) (x := (j : Int)) (v' := v') hws E4.out.size htn al (by simp only [if_neg hxn]; rw [hPR]; exact o6) g6 l6
              have mm := A4.out.appM htn al g6
              refine ⟨this.1.congr (fun u _ => ?_), this.2.1, this.2.2, by rw [← hAV]; exact mm.1, mm.2⟩
              by_cases e : u = t
              · subst e
                simp [hxn]
              · have e2 : ¬ (u : Int) = (t : Int) := by omega
                simp only [if_neg e, List.mem_append, List.mem_singleton, e2, or_false]
            clear al hg4 hs4 hx hxn hxi hrg4 hlt4 hA hH hE hrg hNum hAV hPR
            go_wp2_with (at_builtin; refine list_appN _ rfl _ _ rfl w.heap.size AV PR (j : Int) w4.heap.size 0 1 rfl rfl NA.out LC.out (by omega) hlo ?_; intro v6 w6 o6 grow6 loc6; obtain ⟨a6, n6, b6, m6, f6⟩ := APP.out v6 w6 o6 grow6 loc6; have A7 := hideP a6; have N7 := hideP n6; have B7 := hideP b6; obtain ⟨g6, c6, hv6, _⟩ := id o6; rw [List.length_append, List.length_singleton] at hv6; subst hv6; clear o6 grow6 loc6 a6 n6 b6)
            have RG7 := hideP (RG4.out.num N7.out)
            have H7 := hideP (H4.out.num N7.out)
            have E7 := hideP (E4.out.trans B7.out)
            clear APP N7 B7 RG4 H4 E4 A4 NA LC
            go_roundw
            case rel => exact ⟨_, dn ++ [(t : Int)], cnt4, RG7.out, A7.out, H7.out, E7.out⟩
            case measure => rw [RG7.out.left_eq, LE.out]; exact HLT.out
      · have hjn : j = blocks.length := by omega
        subst hjn
        go_wp2
        go_ret
        exact FIN.out _ _ ⟨_, av, rfl, hA.out, hws, hE.out⟩
end Go.Proofs.Ytooaoankloocmaa
