/- The contract of impl.Order. -/
import Derived.Test.YtooaoankloocmabOrderK0
import Derived.Test.YtooaoankloocmabRevI
import Derived.Test.YtooaoankloocmabNxA
import Derived.Deep.CutRange
namespace Go.Proofs.Ytooaoankloocmab
open Go.ChangeShapes Go.WideShapes Go.ChangeAt Go.RowKit
theorem infoBo : (Try.prog.info? 4).map (fun i => (i.zero, i.size, i.bytes)) = some (some (.bool false), 1, 1) := by kernel_rfl
theorem made_bo (n : Nat) : ∀ i, i < n → (madeCells #[Value.bool false] n)[i]? = some (.bool (decide ((i : Int) ∈ ([] : List Int)))) := by
  intro i hi
  simp [madeCells, hi, Nat.mod_one]
theorem seen_mk (w : World) (n : Nat) : SeenIs (w.alloc (.cells (madeCells #[Value.bool false] n) 4)) w.heap.size n [] :=
  ⟨_, by show (w.heap.push _)[w.heap.size]? = _; exact Array.getElem?_push_size, by simp [size_madeCells], made_bo n⟩
def lenV : Value → Nat
  | .slice _ n _ => n
  | _ => 0
set_option maxHeartbeats 4000000 in
set_option maxRecDepth 100000 in
theorem impl_order (g : Gr) (w : World) (B : Nat) (v : Array Value) (h : GrIs w B v g) (GO : OkIs 25 g) :
    Calls Try.prog 58 #[.agg v] w fun en w' => ∃ v', en = .returned v' ∧ OwnI w' w.heap.size v' (orderP g) ∧ Below w.heap.size w w' := by
  have hG := hideP h
  have HGO := hideP GO
  clear GO
  obtain ⟨sizes, params, vars, slots, blocks⟩ := g
  obtain ⟨us, cs, ub, cb, rfl, _, _, hb⟩ := h
  simp only at *
  have hm := maxLen_lt
  have hlb := hb.1
  have HB := hideP hb
  clear hb
  obtain ⟨R, hR⟩ : ∃ R, orderP ⟨sizes, params, vars, slots, blocks⟩ = R := ⟨_, rfl⟩
  rw [hR]
  have HR := hideP hR
  clear hR
  obtain ⟨gok, hgok⟩ : ∃ r, grOk ⟨sizes, params, vars, slots, blocks⟩ = r := ⟨_, rfl⟩
  have GO1 : Hid (∀ W A v, GrIs W A v ⟨sizes, params, vars, slots, blocks⟩ → Calls Try.prog 25 #[.agg v] W fun en w' => en = .returned (.bool gok) ∧ Below W.heap.size W w') := fun W A v hv => hgok ▸ HGO.out W A v hv
  have HK := hideP hgok
  clear hgok HGO
  have Q1 := hideP (two (Below.refl ((w.alloc (.cells #[.slice us sizes.length cs, .int .i64 params, .int .i64 vars, .int .i64 slots, .slice ub blocks.length cb] 30)).alloc (.cells #[] 3)).heap.size _)).1
  have O1 : Hid (OwnI ((w.alloc (.cells #[.slice us sizes.length cs, .int .i64 params, .int .i64 vars, .int .i64 slots, .slice ub blocks.length cb] 30)).alloc (.cells #[] 3)) (w.heap.size + 1) (.slice (some ⟨w.heap.size + 1, 0, none⟩) 0 0) []) := by
    have := own_lit (w.alloc (.cells #[.slice us sizes.length cs, .int .i64 params, .int .i64 vars, .int .i64 slots, .slice ub blocks.length cb] 30)) [] #[] (w.heap.size + 1) 0 (by simp) rfl rfl (by simp)
    show OwnI _ _ _ _
    simpa using this
  have BW := hideP (below2 w (.cells #[.slice us sizes.length cs, .int .i64 params, .int .i64 vars, .int .i64 slots, .slice ub blocks.length cb] 30) (.cells #[] 3))
  cases gok with
  | false =>
    go_enter Try.func58, Try.ntmps58
    go_wp2_with fail
    refine (GO1.out _ B _ (GrKeeps.stays hG.out BW.out)).mono ?_
    rintro e1 w1 ⟨rfl, bel1⟩
    have E : Hid (R = []) := by rw [← HR.out]; exact orderP_none (by simp [HK.out])
    have OO := hideP ((O1.out.stays bel1).mono (Nat.le_succ _))
    have BB := hideP (below_trans BW.out bel1)
    clear bel1
    go_wp2
    go_ret
    exact ⟨_, rfl, by rw [E.out]; exact OO.out, BB.out⟩
  | true =>
    have hbl := grOk_blocks HK.out
    simp only at hbl
    have HALL := hideP (allIn_of HK.out)
    have hmk := make_n (P := Try.prog) Try.underlying72 infoBo blocks.length (by omega) (by decide)
    go_enter Try.func58, Try.ntmps58
    go_wp2_with fail
    refine (GO1.out _ B _ (GrKeeps.stays hG.out BW.out)).mono ?_
    rintro e1 w1 ⟨rfl, bel1⟩
    have BB := hideP (below_trans BW.out bel1)
    have QQ := hideP ((bel1.block w.heap.size (Array.getElem?_eq_some_iff.1 Q1.out).1).trans Q1.out)
    have OO := hideP (O1.out.stays bel1)
    have hz1 : Hid (w.heap.size + 1 < w1.heap.size) := by have := bel1.size; simp at this; show _ < _; omega
    have p4 := (cells_of QQ.out).1 4
    simp at p4
    have IV : Hid (OInv blocks w #[.slice us sizes.length cs, .int .i64 params, .int .i64 vars, .int .i64 slots, .slice ub blocks.length cb] w1.heap.size R ((w1.alloc (.cells (madeCells #[Value.bool false] blocks.length) 4)).alloc (.cells #[.int .i64 0] 3)) (.slice (some ⟨w.heap.size + 1, 0, none⟩) 0 0) (.slice (some ⟨w1.heap.size + 1, 0, none⟩) 1 1) [] [0]) := by
      have hz := hz1.out
      have a2 := below2 w1 (.cells (madeCells #[Value.bool false] blocks.length) 4) (.cells #[.int .i64 0] 3)
      have a1 := (Below.refl (w1.alloc (.cells (madeCells #[Value.bool false] blocks.length) 4)).heap.size _).alloc (Nat.le_refl _) (.cells #[.int .i64 0] 3)
      have hrun := orderP_run HK.out
      rw [HR.out] at hrun
      refine ⟨OO.out.stays a2, ?_, (seen_mk w1 blocks.length).keep (a1.block _ (by simp)), ?_, ?_, ?_, by omega, below_trans BB.out a2, (a2.block _ (by omega)).trans QQ.out, hrun, ?_, few_nil _, by have := free_le blocks.length []; simp; omega⟩
      · exact (own_lit2 w1 _ [0] #[.int .i64 0] (w1.heap.size + 1) 1 rfl rfl rfl (by simp)).mono (by omega)
      · simp [Value.ownBlock]; omega
      · simp [Value.ownBlock]
      · simp [Value.ownBlock]; omega
      · intro y hy; simp at hy; subst hy; exact ⟨by omega, by omega⟩
    clear bel1 Q1 BW GO1 O1
    go_wp2
    clear p4 hmk
    go_loopw [3, 5] (fun o q wr => ∃ (out stk : List Int), Hid (OInv blocks w #[.slice us sizes.length cs, .int .i64 params, .int .i64 vars, .int .i64 slots, .slice ub blocks.length cb] w1.heap.size R wr o q out stk)) (fun o q _ => (blocks.length - lenV o) * 3 + lenV q)
    case atStart => exact ⟨[], [0], IV.out⟩
    case round =>
      obtain ⟨out, stk, hv⟩ := hrel
      clear IV
      obtain ⟨gO, cO, rfl, _⟩ := id hv.out.o
      obtain ⟨gW, cW, rfl, _⟩ := id hv.out.s
      rcases List.eq_nil_or_concat stk with rfl | ⟨stk', a, rfl⟩
      · have E := hideP hv.out.run.nil_inv
        have OE := hideP (hv.out.o.mono (Nat.le_succ _))
        have BE := hideP hv.out.bel
        clear hv
        go_wp2
        go_ret
        exact ⟨_, rfl, by rw [← E.out]; exact OE.out, BE.out⟩
      · rw [List.concat_eq_append] at hv ⊢
        obtain ⟨i, rfl⟩ : ∃ i : Nat, a = (i : Int) := ⟨a.toNat, by have := (hv.out.inr a (by simp)).1; omega⟩
        have hi : i < blocks.length := by have := (hv.out.inr (i : Int) (by simp)).2; omega
        have hc := hv.out.s.at stk'.length (by simp)
        rw [Nat.zero_add] at hc
        simp at hc
        obtain ⟨g', cap', cur, he, _, _, hcap, hcm, _⟩ := hv.out.s.parts
        cases he
        rw [List.length_append] at hcap
        simp at hcap
        obtain ⟨k, hk⟩ : ∃ k, stk'.length = k := ⟨_, rfl⟩
        rw [hk] at hc hcap
        rw [show (stk' ++ [(i : Int)]).length = k + 1 by rw [List.length_append, hk]; rfl]
        have HKK := hideP hk
        clear hk
        have i0 : (0 : Int) ≤ (k : Int) := by omega
        have i1 : (k : Int) ≤ (cW : Int) := by omega
        have i2 : ((k + 1 : Nat) : Int) ≤ (cW : Int) := by omega
        obtain ⟨m1, f1⟩ := hv.out.m.at hi
        have hsz := hv.out.sz
        rw [List.length_append, HKK.out] at hsz
        simp at hsz
        have hk900 : k ≤ 900 := by omega
        clear hsz
        have hfew := hv.out.few
        unfold Few at hfew
        by_cases hin : (i : Int) ∈ out
        · rw [show decide ((i : Int) ∈ out) = true by simpa using hin] at m1
          have PV := hideP (hv.out.pop hin)
          rw [HKK.out] at PV
          clear hv
          go_wp2
          go_roundw
          case rel => exact ⟨out, stk', PV⟩
          case measure => simp [lenV]
        · rw [show decide ((i : Int) ∈ out) = false by simpa using hin] at m1
          go_upto_region 12 with fail
          have hgm := hv.out.m.lt
          have hbox0 := (Array.getElem?_eq_some_iff.1 hv.out.box).1
          have hlo := (hv.out.o.low gO rfl)
          have hls := (hv.out.s.low gW rfl)
          have hgm0 := hv.out.gm0
          have hOm : gO ≠ w1.heap.size := fun e => hv.out.om (by rw [e]; rfl)
          have hSm : gW ≠ w1.heap.size := fun e => hv.out.sm (by rw [e]; rfl)
          have hOS : gO ≠ gW := fun e => hv.out.os (by rw [e]; rfl)
          have bt : But w1.heap.size wr (wr.setCell ⟨w1.heap.size, i, none⟩ (.bool true)) := (But.refl _ _).set _ _
          have al2 := (Below.refl (wr.setCell ⟨w1.heap.size, i, none⟩ (.bool true)).heap.size _).alloc (Nat.le_refl _) (.cells #[.int .i64 (i : Int)] 3)
          have OC := hideP ((hv.out.o.butG bt hv.out.om).stays al2)
          have SC := hideP ((hv.out.s.initO.butG bt hv.out.sm).stays al2)
          have OD := hideP (own_lit (wr.setCell ⟨w1.heap.size, i, none⟩ (.bool true)) [(i : Int)] #[.int .i64 (i : Int)] wr.heap.size 1 (by rw [size_set]) rfl rfl (by simp))
          have XC := hideP ((al2.block w.heap.size (by rw [size_set]; omega)).trans ((bt.block w.heap.size (by omega) (by omega)).trans hv.out.box))
          have hzz : ((wr.setCell ⟨w1.heap.size, i, none⟩ (.bool true)).alloc (.cells #[.int .i64 (i : Int)] 3)).heap.size = wr.heap.size + 1 := by simp
          have HZZ := hideP hzz
          have ZC : Hid (w.heap.size + 1 ≤ ((wr.setCell ⟨w1.heap.size, i, none⟩ (.bool true)).alloc (.cells #[.int .i64 (i : Int)] 3)).heap.size) := by show _ ≤ _; rw [hzz]; omega
          have BC : Hid (Below w.heap.size w ((wr.setCell ⟨w1.heap.size, i, none⟩ (.bool true)).alloc (.cells #[.int .i64 (i : Int)] 3))) := (hv.out.bel.trans (bt.below (by omega) hv.out.bel.size)).trans (al2.mono (by rw [size_set]; exact hv.out.bel.size))
          have hol : out.length ≤ 300 := by omega
          clear bt al2 m1 f1 hc hzz
          go_upto_region 13 with (at_builtin; refine list_appI _ rfl _ _ rfl (w.heap.size + 1) _ out [(i : Int)] wr.heap.size 0 1 1 rfl rfl rfl OC.out OD.out.at (by simp; omega) ZC.out ?_; intro v3 w3 o3 grow3 loc3)
          replace grow3 : World.grownBy _ w3 (Value.slice (some ⟨gO, 0, none⟩) out.length cO).ownBlock := grow3
          replace loc3 : v3.ownBlock = (Value.slice (some ⟨gO, 0, none⟩) out.length cO).ownBlock ∨ v3.ownBlock = some ((wr.setCell ⟨w1.heap.size, i, none⟩ (.bool true)).alloc (.cells #[.int .i64 (i : Int)] 3)).heap.size := loc3
          obtain ⟨g3, c3, rfl, _⟩ := id o3
          have S3 := hideP (SC.out.kept grow3 (by simp [Value.ownBlock]; omega))
          have X3 := hideP ((grow3.block w.heap.size (by rw [HZZ.out]; omega) (by simp [Value.ownBlock]; omega)).trans XC.out)
          have B3 := hideP (BC.out.grown grow3 BC.out.size (fun b' hb' => by have := OC.out.low b' hb'; omega))
          have O3 := hideP o3
          have GR3 := hideP grow3
          have LO3 := hideP loc3
          have hz3 : wr.heap.size + 1 ≤ w3.heap.size := by have := grow3.size; rw [HZZ.out] at this; exact this
          clear o3 grow3 loc3 OC SC OD XC BC ZC
          have p4 := (cells_of X3.out).1 4
          simp at p4
          obtain ⟨b, o, x0, x1, x2, x3, x4, ux, kx, rfl, _, hbb, hx, q0, q1, q2, q3, q4, hbX⟩ := Blk_get (HB.out.stays BlkKeeps B3.out) i hi
          have HX := hideP hbX
          have HE := hideP hx
          clear hbX hx
          go_wp2_with fail
          refine (impl_next _ _ B _ HX.out).mono ?_
          rintro e4 w4 ⟨v4, rfl, o4, bel4⟩
          obtain ⟨g4, c4, rfl, _⟩ := id o4
          have NX : Hid (nxt blocks (i : Int) = nextP ⟨x0, x1, x2, x3, x4⟩) := by show _ = _; rw [nxt_at hi, HE.out]
          obtain ⟨L, hL⟩ : ∃ L, nextP ⟨x0, x1, x2, x3, x4⟩ = L := ⟨_, rfl⟩
          rw [hL] at o4 NX ⊢
          have hL2 : L.length ≤ 2 := by rw [← hL]; exact nextP_len _
          have G4 := hideP (o4.low g4 rfl)
          have O4 := hideP o4
          have S4 := hideP (S3.out.stays bel4)
          have B4 := hideP bel4
          have hz4 := bel4.size
          clear o4 hL bel4 q0 q1 q2 q3 q4 p4 HX X3 S3
          go_wp2_with fail
          refine (reverse_any L hL2 _ _ _ O4.out).mono ?_
          rintro e5 w5 ⟨⟨r5, rfl⟩, o5, g5, hg5, but5⟩
          have hgg := own_blk hg5
          subst hgg
          have hz5 := but5.size
          have S5 := hideP (S4.out.butG but5 (by have := G4.out; simp [Value.ownBlock]; omega))
          have L5 := hideP o5.at
          have hLr : L.reverse.length = L.length := List.length_reverse
          have B5 := hideP but5
          clear o5 hg5 but5 O4 S4
          have Z5 : Hid (w.heap.size + 1 ≤ w5.heap.size) := by show _ ≤ _; omega
          go_wp2_with (at_builtin; refine list_appI _ rfl _ _ rfl (w.heap.size + 1) _ stk' L.reverse g4 0 L.length c4 hLr (by rw [HKK.out]; rfl) rfl S5.out L5.out (by rw [hLr, HKK.out]; omega) Z5.out ?_; intro v6 w6 o6 grow6 loc6)
          replace grow6 : World.grownBy _ w6 (Value.slice (some ⟨gW, 0, none⟩) stk'.length cW).ownBlock := grow6
          replace loc6 : v6.ownBlock = (Value.slice (some ⟨gW, 0, none⟩) stk'.length cW).ownBlock ∨ v6.ownBlock = some w5.heap.size := loc6
          have o6' := o6
          rw [← NX.out] at o6'
          have FV := hideP (hv.out.go HALL.out hin hi O3.out GR3.out LO3.out B4.out G4.out.1 G4.out.2 B5.out o6' grow6 loc6)
          obtain ⟨g6, c6, rfl, _⟩ := id o6
          have hfl := free_step (n := blocks.length) hin ⟨by omega, by omega⟩
          clear o6 o6' grow6 loc6 hv O3 GR3 LO3 B4 B5 S5 L5
          go_wp2
          go_roundw
          case rel => exact ⟨out ++ [(i : Int)], stk' ++ (nxt blocks (i : Int)).reverse, by rw [List.length_append] at FV; exact FV⟩
          case measure => simp [lenV, HKK.out]; omega
end Go.Proofs.Ytooaoankloocmab
