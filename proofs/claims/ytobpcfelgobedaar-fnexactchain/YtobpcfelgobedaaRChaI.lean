/- The contract of impl.Chain. -/
import Derived.Test.YtobpcfelgobedaaRChaB
import Derived.Test.YtobpcfelgobedaaROrdI
namespace Go.Proofs.YtobpcfelgobedaaR
open Go.ChangeShapes Go.WideShapes Go.ChangeAt Go.RowKit Go.Maps
/-- While Chain walks: the boxes of the graph, of the counts and of the set of the blocks that are left (M: the box, m: the map), and the order so far. -/
structure ChAt (w : World) (gv : Array Value) (cv : Value) (n M m : Nat) (D : List Int) (v : Value) (W : World) : Prop where
  box : W.heap[w.heap.size]? = some (.cells gv 30 (0, 0))
  cnt : W.heap[w.heap.size + 1]? = some (.cells #[cv] 22 (0, 0))
  mp : W.heap[M]? = some (.cells #[.map (some m)] 48 (0, 0))
  set : SetP W m 300 (fun q => InQ n q ∧ ¬ q ∈ D)
  own : OwnI W (w.heap.size + 2) v D
  mM : w.heap.size + 2 ≤ m ∧ w.heap.size + 2 ≤ M
  bel : Below w.heap.size w W
section
variable {w W W' : World} {gv : Array Value} {cv : Value} {n M m : Nat} {D : List Int} {v v' : Value}
theorem ChAt.lt (h : ChAt w gv cv n M m D v W) : w.heap.size + 2 ≤ W.heap.size := by have := (Array.getElem?_eq_some_iff.1 h.cnt).1; omega
theorem ChAt.stays (h : ChAt w gv cv n M m D v W) (b : Below W.heap.size W W') : ChAt w gv cv n M m D v W' :=
  ⟨(b.block _ (Array.getElem?_eq_some_iff.1 h.box).1).trans h.box, (b.block _ (Array.getElem?_eq_some_iff.1 h.cnt).1).trans h.cnt, (b.block _ (Array.getElem?_eq_some_iff.1 h.mp).1).trans h.mp, h.set.stays b, h.own.stays b, h.mM, below_trans h.bel b⟩
theorem ChAt.nem (h : ChAt w gv cv n M m D v W) : v.ownBlock ≠ some m ∧ v.ownBlock ≠ some M := by
  obtain ⟨g, cap, cur, rfl, _, hh, _⟩ := h.own.parts
  refine ⟨fun e => ?_, fun e => ?_⟩
  · simp only [Value.ownBlock, Option.some.injEq] at e
    exact h.set.ne hh e
  · simp only [Value.ownBlock, Option.some.injEq] at e
    have h2 := h.mp
    rw [← e, hh] at h2
    simp at h2
/-- A block goes from the set. -/
theorem ChAt.del (h : ChAt w gv cv n M m D v W) (b : But m W W') {a : Int} (s : SetP W' m 300 (fun q => (InQ n q ∧ ¬ q ∈ D) ∧ q ≠ a)) :
    W'.heap[w.heap.size]? = some (.cells gv 30 (0, 0)) ∧ W'.heap[w.heap.size + 1]? = some (.cells #[cv] 22 (0, 0)) ∧ W'.heap[M]? = some (.cells #[.map (some m)] 48 (0, 0)) ∧ SetP W' m 300 (fun q => InQ n q ∧ ¬ q ∈ D ++ [a]) ∧ OwnI W' (w.heap.size + 2) v D ∧ Below w.heap.size w W' := by
  have hM : M ≠ m := h.set.ne h.mp
  have h1 := h.mM
  have h2 := h.lt
  refine ⟨(b.block _ (Array.getElem?_eq_some_iff.1 h.box).1 (by omega)).trans h.box, (b.block _ (Array.getElem?_eq_some_iff.1 h.cnt).1 (by omega)).trans h.cnt, (b.block _ (Array.getElem?_eq_some_iff.1 h.mp).1 hM).trans h.mp, s.congr (fun q => by simp [and_assoc]), h.own.butG b h.nem.1, h.bel.trans (b.below (by omega) (by have := h.bel.size; omega))⟩
end
set_option maxHeartbeats 8000000 in
set_option maxRecDepth 100000 in
theorem impl_chain (g : Gr) (C : List Int) (w : World) (B B2 : Nat) (v : Array Value) (uc : Option Addr) (kc : Nat) (h : GrIs w B v g) (hC : IntsIs w B2 uc C) (GO : OkIs 29 g) :
    Calls Try.prog 20 #[.agg v, .slice uc C.length kc] w fun en w' => ∃ v', en = .returned v' ∧ OwnI w' w.heap.size v' (chainP g C) ∧ Below w.heap.size w w' := by
  have hG := hideP h
  obtain ⟨R, hR⟩ : ∃ R, chainP g C = R := ⟨_, rfl⟩
  rw [hR]
  have HR := hideP hR
  clear hR
  obtain ⟨gok, hgok⟩ : ∃ r, grOk g = r := ⟨_, rfl⟩
  have GO1 : Hid (∀ W A v, GrIs W A v g → Calls Try.prog 29 #[.agg v] W fun en w' => en = .returned (.bool gok) ∧ Below W.heap.size W w') := fun W A v hv => hgok ▸ GO W A v hv
  have AB := hideP (allBlocks_any g)
  have BH := hideP (behind_any g C)
  have BO := hideP (fun (h : grOk g = true) D a => behC_or h C D a)
  have HK := hideP hgok
  have HC := hideP hC
  have hlC := hC.1
  clear hgok GO hC
  obtain ⟨sizes, params, vars, slots, blocks⟩ := g
  obtain ⟨us, cs, ub, cb, rfl, _, _, hb⟩ := h
  simp only at *
  have hm := maxLen_lt
  have hlb := hb.1
  clear hb
  obtain ⟨w3, hw3⟩ : ∃ w3, ((w.alloc (.cells #[.slice us sizes.length cs, .int .i64 params, .int .i64 vars, .int .i64 slots, .slice ub blocks.length cb] 30)).alloc (.cells #[.slice uc C.length kc] 22)).alloc (.cells #[] 3) = w3 := ⟨_, rfl⟩
  have hz3 : w3.heap.size = w.heap.size + 3 := by rw [← hw3]; simp
  have BW : Hid (Below w.heap.size w w3) := by show Below _ _ _; rw [← hw3]; exact below3 _ _ _ _
  have TH := three (Below.refl (((w.alloc (.cells #[.slice us sizes.length cs, .int .i64 params, .int .i64 vars, .int .i64 slots, .slice ub blocks.length cb] 30)).alloc (.cells #[.slice uc C.length kc] 22)).alloc (.cells #[] 3)).heap.size _)
  rw [hw3] at TH
  have HQ := hideP TH.1
  have HQ1 := hideP TH.2.1
  have O0 : Hid (OwnI w3 (w.heap.size + 2) (.slice (some ⟨w.heap.size + 2, 0, none⟩) 0 0) []) := by
    show OwnI _ _ _ _
    have := own_lit ((w.alloc (.cells #[.slice us sizes.length cs, .int .i64 params, .int .i64 vars, .int .i64 slots, .slice ub blocks.length cb] 30)).alloc (.cells #[.slice uc C.length kc] 22)) [] #[] (w.heap.size + 2) 0 (by simp) rfl rfl (by simp)
    rw [hw3] at this
    simpa using this
  have p4 := (cells_of HQ.out).1 4
  have p0 := (cells_of HQ.out).1 0
  have p1 := (cells_of HQ.out).1 1
  have p2 := (cells_of HQ.out).1 2
  have p3 := (cells_of HQ.out).1 3
  have c0 := (cells_of HQ1.out).1 0
  simp at p0 p1 p2 p3 p4 c0
  clear TH
  by_cases hlen : C.length = blocks.length
  case neg =>
    have E : Hid (R = []) := by show _ = _; rw [← HR.out]; unfold chainP; rw [if_neg (fun h => hlen h.1)]
    have hne : ((C.length : Int) == (blocks.length : Int)) = false := by simpa using (by omega : ¬ (C.length : Int) = (blocks.length : Int))
    have ON := hideP (O0.out.mono (show w.heap.size ≤ w.heap.size + 2 by omega))
    go_enter Try.func20, Try.ntmps20
    go_upto_region 2 with fail
    go_wp2
    go_ret
    exact ⟨_, rfl, by rw [E.out]; exact ON.out, BW.out⟩
  case pos =>
    have hle : ((C.length : Int) == (blocks.length : Int)) = true := by simpa using (by omega : (C.length : Int) = (blocks.length : Int))
    rw [hlen] at hw3 c0
    have HLN := hideP hlen
    go_enter Try.func20, Try.ntmps20
    go_upto_region 2 with fail
    go_wp2_with fail
    refine (GO1.out _ B _ (GrKeeps.stays hG.out BW.out)).mono ?_
    rintro e1 w1 ⟨rfl, bel1⟩
    have BB := hideP (below_trans BW.out bel1)
    have QQ := hideP ((bel1.block w.heap.size (Array.getElem?_eq_some_iff.1 HQ.out).1).trans HQ.out)
    have Q1 := hideP ((bel1.block (w.heap.size + 1) (Array.getElem?_eq_some_iff.1 HQ1.out).1).trans HQ1.out)
    have O1 := hideP (O0.out.stays bel1)
    have hz1 := bel1.size
    clear bel1 HQ HQ1 BW GO1 O0 p0 p1 p2 p3 p4 c0 hw3 hlen hle
    cases gok with
    | false =>
      have E : Hid (R = []) := by show _ = _; rw [← HR.out]; unfold chainP; rw [if_neg (fun h => by have := h.2; rw [HK.out] at this; cases this)]
      have ON := hideP (O1.out.mono (show w.heap.size ≤ w.heap.size + 2 by omega))
      go_wp2
      go_ret
      exact ⟨_, rfl, by rw [E.out]; exact ON.out, BB.out⟩
    | true =>
      have hbl := grOk_blocks HK.out
      simp only at hbl
      have CI0 : Hid (ChI blocks C R [] 0 blocks.length) := ⟨by simp, by simp, by simp, by rw [← HR.out]; unfold chainP; rw [if_pos ⟨HLN.out, HK.out⟩]⟩
      have CI1 : Hid (ChI blocks C R [] (leastC blocks.length []) blocks.length) := CI0.out.turn (leastC_eq (i := 0) (by omega) (fun k hk => by omega) (by simp)).symm
      have p0 := (cells_of QQ.out).1 0
      have p1 := (cells_of QQ.out).1 1
      have p2 := (cells_of QQ.out).1 2
      have p3 := (cells_of QQ.out).1 3
      have p4 := (cells_of QQ.out).1 4
      simp at p0 p1 p2 p3 p4
      go_wp2_with fail
      refine (AB.out _ B _ (GrKeeps.stays hG.out BB.out) (by omega)).mono ?_
      rintro e2 w2 ⟨m, rfl, hm2, s2, bel2⟩
      have A0 : Hid (ChAt w #[.slice us sizes.length cs, .int .i64 params, .int .i64 vars, .int .i64 slots, .slice ub blocks.length cb] (.slice uc C.length kc) blocks.length w2.heap.size m [] (.slice (some ⟨w.heap.size + 2, 0, none⟩) 0 0) (w2.alloc (.cells #[.map (some m)] 48))) := by
        have al := (Below.refl w2.heap.size w2).alloc (Nat.le_refl _) (.cells #[.map (some m)] 48)
        have bb := below_trans bel2 al
        have h2 := bel2.size
        refine ⟨(bb.block _ (Array.getElem?_eq_some_iff.1 QQ.out).1).trans QQ.out, (bb.block _ (Array.getElem?_eq_some_iff.1 Q1.out).1).trans Q1.out, by show (w2.heap.push _)[w2.heap.size]? = _; exact Array.getElem?_push_size, (s2.stays al).congr (fun q => by simp), O1.out.stays bb, ⟨by omega, by omega⟩, below_trans BB.out bb⟩
      have SL : Hid (w.heap.size + 2 < w2.heap.size) := by have h2 := bel2.size; show _ < _; omega
      clear s2 bel2 p0 p1 p2 p3 AB O1 QQ Q1 CI0
      go_upto_region 5 with fail
      obtain ⟨w4, hw4⟩ : ∃ w4, w2.alloc (.cells #[.map (some m)] 48) = w4 := ⟨_, rfl⟩
      rw [hw4] at A0 ⊢
      clear hw4 p4
      have p4 := (cells_of A0.out.box).1 4
      simp at p4
      go_wp2
      clear p4
      go_loopg [5, 29] blocks.length (fun gk o ix wr => ∃ (i : Nat) (D : List Int) (f : Nat), gk + i = blocks.length ∧ ix = .int .i64 i ∧ Hid (ChAt w #[.slice us sizes.length cs, .int .i64 params, .int .i64 vars, .int .i64 slots, .slice ub blocks.length cb] (.slice uc C.length kc) blocks.length w2.heap.size m D o wr) ∧ Hid (ChI blocks C R D (leastC blocks.length D) f) ∧ Hid (∀ k : Nat, k < i → (k : Int) ∈ D))
      case atStart => exact ⟨0, [], blocks.length, by omega, rfl, A0.out, CI1.out, fun k hk => by omega⟩
      case round =>
        obtain ⟨i, D, f, hgk, rfl, hA, hI, hall⟩ := hrel
        by_cases hlt : i < blocks.length
        case neg =>
          have hin : i = blocks.length := by omega
          subst hin
          have E : Hid (D = R) := by
            show _ = _
            rw [← hI.out.res, runC_neg (by rw [leastC_none hall.out]; decide)]
          have ON := hideP (hA.out.own.mono (show w.heap.size ≤ w.heap.size + 2 by omega))
          go_wp2
          go_ret
          exact ⟨_, rfl, by rw [← E.out]; exact ON.out, hA.out.bel⟩
        case pos =>
          have START : Hid ((InQ blocks.length (i : Int) ∧ ¬ (i : Int) ∈ D ∧ ChI blocks C R D (i : Int) f) ∨ (((i : Int) = -1 ∨ (i : Int) ∈ D) ∧ ChI blocks C R D (leastC blocks.length D) f)) := by
            show _ ∨ _
            by_cases hm : (i : Int) ∈ D
            · exact Or.inr ⟨Or.inr hm, hI.out⟩
            · exact Or.inl ⟨⟨by omega, by omega⟩, hm, hI.out.turn (leastC_eq hlt hall.out hm)⟩
          clear hI
          go_wp2
          go_loopg [5, 9] f (fun gk2 o a wq => ∃ (D : List Int) (f : Nat) (z : Int), gk2 = f ∧ a = .int .i64 z ∧ Hid (ChAt w #[.slice us sizes.length cs, .int .i64 params, .int .i64 vars, .int .i64 slots, .slice ub blocks.length cb] (.slice uc C.length kc) blocks.length w2.heap.size m D o wq) ∧ Hid ((InQ blocks.length z ∧ ¬ z ∈ D ∧ ChI blocks C R D z f) ∨ ((z = -1 ∨ z ∈ D) ∧ ChI blocks C R D (leastC blocks.length D) f)) ∧ Hid (∀ k : Nat, k < i → (k : Int) ∈ D) ∧ Hid (z = (i : Int) ∨ (i : Int) ∈ D) ∧ Hid (z = -1 ∨ InQ blocks.length z))
          case atStart => exact ⟨D, f, (i : Int), rfl, rfl, hA.out, START.out, hall.out, Or.inl rfl, Or.inr ⟨by omega, by omega⟩⟩
          case round =>
            clear START hall hA
            obtain ⟨D, f, z, rfl, rfl, hA, hZ, hall, hzi, hzr⟩ := hrel
            have Z6 : Hid (I64 z) := by
              show I64 _
              unfold I64
              rcases hzr.out with rfl | h
              · decide
              · have h1 := h.1; have h2 := h.2; constructor <;> omega
            have HS := hideP (fun y (hy : y = true ↔ (InQ blocks.length z ∧ ¬ z ∈ D)) => hasQ_any hA.out.set Z6.out hy)
            have m0 := (cells_of hA.out.mp).1 0
            simp at m0
            by_cases hin : InQ blocks.length z ∧ ¬ z ∈ D
            case neg =>
              have CH := hideP (HS.out false ⟨fun h => absurd h (by decide), fun h => absurd h hin⟩)
              have hI2 : Hid (ChI blocks C R D (leastC blocks.length D) gk) := hZ.out.elim (fun h => absurd ⟨h.1, h.2.1⟩ hin) (fun h => h.2)
              have hall2 : Hid (∀ k : Nat, k < i + 1 → (k : Int) ∈ D) := fun k hk => by
                by_cases e : k = i
                · subst e
                  rcases hzi.out with h | h
                  · by_cases hm : (k : Int) ∈ D
                    · exact hm
                    · exact absurd ⟨by rw [h]; exact ⟨by omega, by omega⟩, by rw [h]; exact hm⟩ hin
                  · exact h
                · exact hall.out k (by omega)
              clear hin hZ hall hzi hzr HS
              go_wp2_with fail
              refine CH.out.mono ?_
              rintro e5 w5 ⟨rfl, b5⟩
              have A5 := hideP (hA.out.stays b5)
              clear b5 CH hA m0
              go_wp2
              go_roundg (blocks.length - (i + 1))
              case rel => exact ⟨i + 1, D, gk, by omega, by go_num, A5.out, hI2.out, hall2.out⟩
              case measure => omega
            case pos =>
              obtain ⟨hzq, hzn⟩ := hin
              have CI : Hid (ChI blocks C R D z gk) := hZ.out.elim (fun h => h.2.2) (fun h => (h.1.elim (fun e => by have := hzq.1; omega) (fun e => absurd e hzn)))
              obtain ⟨f', rfl⟩ := CI.out.few hzq hzn
              have CI2 := hideP (CI.out.step hzq hzn)
              obtain ⟨k, rfl⟩ : ∃ k : Nat, z = (k : Int) := ⟨z.toNat, by have := hzq.1; omega⟩
              have hkn : k < blocks.length := by have := hzq.2; omega
              have CH := hideP (HS.out true ⟨fun _ => ⟨hzq, hzn⟩, fun _ => rfl⟩)
              have BO2 := hideP (BO.out HK.out (D ++ [(k : Int)]) (k : Int))
              have hall2 : Hid (∀ j : Nat, j < i → (j : Int) ∈ D ++ [(k : Int)]) := fun j hj => List.mem_append_left _ (hall.out j hj)
              have hi2 : Hid ((i : Int) ∈ D ++ [(k : Int)]) := hzi.out.elim (fun e => List.mem_append_right _ (by rw [e]; simp)) (fun h => List.mem_append_left _ h)
              have hDl : D.length ≤ 300 := by have := CI.out.len; omega
              obtain ⟨bz, hbz⟩ : ∃ bz, behC blocks C (D ++ [(k : Int)]) (k : Int) = bz := ⟨_, rfl⟩
              have BHk := hideP (BH.out (D ++ [(k : Int)]) k)
              rw [hbz] at BO2 BHk
              have CZ : Hid ((InQ blocks.length bz ∧ ¬ bz ∈ D ++ [(k : Int)] ∧ ChI blocks C R (D ++ [(k : Int)]) bz f') ∨ ((bz = -1 ∨ bz ∈ D ++ [(k : Int)]) ∧ ChI blocks C R (D ++ [(k : Int)]) (leastC blocks.length (D ++ [(k : Int)])) f')) := by
                show _ ∨ _
                rcases BO2.out with e | ⟨h1, h2⟩
                · exact Or.inr ⟨Or.inl e, CI2.out.turn (by unfold nextC; rw [if_pos (hbz.trans e)])⟩
                · exact Or.inl ⟨h1, h2, CI2.out.turn (by unfold nextC; rw [if_neg (by rw [hbz]; intro e; rw [e] at h1; have := h1.1; omega), hbz])⟩
              have CZr : Hid (bz = -1 ∨ InQ blocks.length bz) := BO2.out.elim Or.inl (fun h => Or.inr h.1)
              clear hZ hall hzi hzr HS CI hzq hzn BO2 CI2 hbz
              go_wp2_with fail
              refine CH.out.mono ?_
              rintro e5 w5 ⟨rfl, b5⟩
              have A5 := hideP (hA.out.stays b5)
              obtain ⟨g5, c5, rfl, _⟩ := id A5.out.own
              have m5 := (cells_of A5.out.mp).1 0
              simp at m5
              clear b5 hA CH m0
              go_upto_region 13 with (at_delete; refine sq_del _ rfl _ _ 48 rfl Try.underlying48 m 300 _ (k : Int) rfl rfl A5.out.set Z6.out ?_; intro w6 s6 b6)
              obtain ⟨x1, x2, x3, x4, x5, x6⟩ := A5.out.del b6 s6
              have g5l := (A5.out.own.low g5 rfl).1
              have g5m := A5.out.nem
              simp only [Value.ownBlock, ne_eq, Option.some.injEq] at g5m
              have al := (Below.refl w6.heap.size w6).alloc (Nat.le_refl _) (.cells #[.int .i64 (k : Int)] 3)
              have OD := hideP (own_lit w6 [(k : Int)] #[.int .i64 (k : Int)] w6.heap.size 1 rfl rfl rfl (by simp))
              have Y1 := hideP ((al.block _ (Array.getElem?_eq_some_iff.1 x1).1).trans x1)
              have Y2 := hideP ((al.block _ (Array.getElem?_eq_some_iff.1 x2).1).trans x2)
              have Y3 := hideP ((al.block _ (Array.getElem?_eq_some_iff.1 x3).1).trans x3)
              have Y4 := hideP (x4.stays al)
              have OC := hideP (x5.stays al)
              have Y6 := hideP (below_trans x6 al)
              have SC : Hid (w.heap.size + 2 ≤ (w6.alloc (.cells #[.int .i64 (k : Int)] 3)).heap.size) := by
                have h1 := (Array.getElem?_eq_some_iff.1 x2).1
                show _ ≤ _
                simp
                omega
              have MM := hideP A5.out.mM
              clear x1 x2 x3 x4 x5 x6 al s6 b6 A5 m5
              go_wp2_with (at_builtin; refine list_appI _ rfl _ _ rfl (w.heap.size + 2) _ D [(k : Int)] w6.heap.size 0 1 1 rfl rfl rfl OC.out OD.out.at (by simp; omega) SC.out ?_; intro v7 w7 o7 grow7 loc7)
              have A7 : Hid (ChAt w #[.slice us sizes.length cs, .int .i64 params, .int .i64 vars, .int .i64 slots, .slice ub blocks.length cb] (.slice uc C.length kc) blocks.length w2.heap.size m (D ++ [(k : Int)]) v7 w7) := by
                have hg : ∀ q, q ≠ g5 → some q ≠ (Value.slice (some ⟨g5, 0, none⟩) D.length c5).ownBlock := fun q hq e => hq (by simpa [Value.ownBlock] using e)
                refine ⟨(grow7.block _ (Array.getElem?_eq_some_iff.1 Y1.out).1 (hg _ (by omega))).trans Y1.out, (grow7.block _ (Array.getElem?_eq_some_iff.1 Y2.out).1 (hg _ (by omega))).trans Y2.out, (grow7.block _ (Array.getElem?_eq_some_iff.1 Y3.out).1 (hg _ (fun e => g5m.2 e.symm))).trans Y3.out, Y4.out.kept grow7 (hg _ (fun e => g5m.1 e.symm)), o7, MM.out, Y6.out.grown grow7 Y6.out.size (fun b' hb' => by have := OC.out.low b' hb'; omega)⟩
              clear o7 grow7 loc7 Y1 Y2 Y3 Y4 OC Y6 SC OD g5l g5m MM
              have CB := hideP (BHk.out w7 w.heap.size w2.heap.size (w.heap.size + 1) m 300 B B2 _ uc kc (GrKeeps.stays hG.out A7.out.bel) HK.out A7.out.box A7.out.mp A7.out.cnt A7.out.set (HC.out.stays A7.out.bel) HLN.out hkn)
              clear BHk
              go_wp2_with fail
              refine CB.out.mono ?_
              rintro e8 w8 ⟨rfl, b8⟩
              have A8 := hideP (A7.out.stays b8)
              clear b8 A7 CB
              go_wp2
              go_roundg f'
              case rel => exact ⟨D ++ [(k : Int)], f', bz, rfl, rfl, A8.out, CZ.out, hall2.out, Or.inr hi2.out, CZr.out⟩
              case measure => omega
end Go.Proofs.YtobpcfelgobedaaR
