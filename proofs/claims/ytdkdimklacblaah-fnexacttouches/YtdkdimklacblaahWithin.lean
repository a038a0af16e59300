/- The contract of impl.partsWithin: all parts, those within others too, in the order in which they are met. -/
import Derived.Test.YtdkdimklacblaahWithin0
import Derived.Deep.LoopGhost
namespace Go.Proofs.Ytdkdimklacblaah
open Go.ChangeShapes Go.WideShapes Go.ChangeAt Go.RowKit

theorem below2' (w : World) (o1 o2 : Obj) : Below w.heap.size w ((w.alloc o1).alloc o2) := ((Below.refl _ _).alloc (Nat.le_refl _) _).alloc (by simp) _
theorem lit_own (w : World) (p : Pt) : OwnPts (w.alloc (.cells #[p.c0, p.c1] 70)) w.heap.size (.slice (some ⟨w.heap.size, 0, none⟩) 1 1) [p] :=
  ⟨_, _, rfl, rfl, Or.inr ⟨w.heap.size, 1, #[p.c0, p.c1], rfl, Nat.le_refl _, blk_new' _ _, Nat.le_refl _, by unfold maxLen; omega, rfl, rfl⟩⟩
theorem nds_len : ∀ l : List Nd, l.length ≤ ndsSz l
  | [] => Nat.le_refl _
  | x :: l => by have := nds_len l; have := sz_pos x; simp [ndsSz]; omega
theorem kids_len (x : Nd) : x.kids.length ≤ x.sz := by
  obtain ⟨p, kids⟩ := x
  have := nds_len kids
  simp [Nd.kids, Nd.sz]; omega
theorem top_cells {w : World} {B g cap : Nat} {l : List Pt} {p : Pt} (h : OwnPts w B (.slice (some ⟨g, 0, none⟩) (l ++ [p]).length cap) (l ++ [p])) :
    w.cell? ⟨g, l.length * 2, none⟩ = some p.c0 ∧ w.cell? ⟨g, l.length * 2 + 1, none⟩ = some p.c1 ∧ l.length + 1 ≤ cap ∧ cap ≤ maxLen ∧ g < w.heap.size := by
  obtain ⟨g', cap', hv, hc, hm, _, hg, hcell⟩ := h.cells
  cases hv
  have hadd : ∀ j, (⟨g, 0, none⟩ : Addr).add j = ⟨g, j, none⟩ := fun j => by unfold Addr.add; split <;> simp_all
  have e := ptsCells_at (l ++ [p]) l.length (by simp)
  rw [List.getElem_append_right (Nat.le_refl _)] at e
  simp only [Nat.sub_self, List.getElem_cons_zero] at e
  refine ⟨?_, ?_, by simpa using hc, hm, hg⟩
  · rw [← hadd]; exact hcell _ _ e.1
  · rw [← hadd]; exact hcell _ _ e.2

set_option maxRecDepth 100000 in
set_option maxHeartbeats 8000000 in
theorem partsWithin_any (roots : List Nd) (w : World) (B : Nat) (v : Value) (inn : Pt → List Pt) (hv : OwnPts w B v (roots.map Nd.pt)) (hB : B ≤ w.heap.size) (hok : ∀ x ∈ roots, NdAll (NodeOk w B inn) x) (hN : ndsSz roots ≤ 2097152) :
    Calls Try.prog 35 #[v] w fun e w' => ∃ v', e = .returned (.tuple #[v', .bool true]) ∧ OwnPts w' B v' (ndsVisit roots) ∧ Below B w w' ∧ (∀ g, v.ownBlock = some g → But g w w') ∧ ∀ b, v'.ownBlock = some b → w.heap.size ≤ b := by
  have hmm := @run_makeMap Try.prog
  obtain ⟨M, hM⟩ : ∃ M, M = w.heap.size + 1 := ⟨_, rfl⟩
  obtain ⟨gv, cv, hgv, _⟩ := id hv
  have hgo : v.ownBlock = some gv := by rw [hgv]; rfl
  have P0 : Hid (Pinv w B (w.heap.size + 1) gv inn roots ((w.alloc (.cells #[] 70)).alloc (.map #[] 0)) (.slice (some ⟨w.heap.size, 0, none⟩) 0 0) v (pushS roots []) [] #[] 0) := by
    have b2 := below2' w (.cells #[] 70) (.map #[] 0)
    have own0 : (w.alloc (.cells #[] 70)).ownsRow w.heap.size 70 2 (.slice (some ⟨w.heap.size, 0, none⟩) 0 0) 0 [] := by
      have := World.ownsRow_made (base := w.heap.size) (e := 70) (size := 2) w #[] 0 (Nat.le_refl _) (Nat.zero_le _) rfl
      simpa using this
    have hal : OwnPts (w.alloc (.cells #[] 70)) B (.slice (some ⟨w.heap.size, 0, none⟩) 0 0) [] := OwnPts.mono ⟨_, _, rfl, own0⟩ hB
    refine ⟨⟨?_, hal.stays ((Below.refl _ _).alloc (Nat.le_refl _) _), ?_, b2.mono hB, by omega, ?_, by simp [Value.ownBlock], ?_, (But.refl gv w).on b2, fun b hb => by rw [hgo] at hb; cases hb; exact Or.inl rfl, fun b hb => by simp [Value.ownBlock] at hb; omega, by omega⟩, good_push roots [] trivial fun x hx => ⟨hok x hx, fun y hy => by simp at hy⟩, by rw [outS_push]; simp [outS], by rw [opS_push]; rfl⟩
    · rw [wkS_push]; exact hv.stays b2
    · have e : ((w.alloc (.cells #[] 70)).alloc (.map #[] 0)).heap = (w.heap.push (.cells #[] 70)).push (.map #[] 0) := rfl
      rw [e, Array.getElem?_push]; simp
    · intro e; have h : w.heap.size < w.heap.size := hv.lt _ e.symm; omega
    · intro e; have h : w.heap.size + 1 < w.heap.size := hv.lt _ e; omega
  have hmu0 : muS (pushS roots []) ≤ 2 * ndsSz roots := by rw [muS_push]; simp [muS]
  obtain ⟨g0, cap0, rfl, _⟩ := hv
  cases hgv
  clear hgo
  rw [List.length_map] at P0 ⊢
  clear hok hM
  go_enter Try.func35, Try.ntmps35
  go_wp2
  go_loopg [4, 5] (2 * ndsSz roots) (fun g al wk wr => ∃ S done es clock, muS S ≤ g ∧ Hid (muS S ≤ 2 * ndsSz roots) ∧ Hid (Pinv w B (w.heap.size + 1) gv inn roots wr al wk S done es clock))
  case atStart => exact ⟨_, _, _, _, hmu0, hmu0, P0⟩
  case round =>
    obtain ⟨S, done, es, clock, hg, hmu, hP⟩ := hrel
    clear P0 hmu0
    cases S with
    | nil =>
      have hw := hP.out.own.hwk
      have hd := hP.out.out
      simp only [outS, List.append_nil] at hd
      obtain ⟨gw, cw, rfl, _⟩ := hw
      have R : Hid (OwnPts wr B u4 (ndsVisit roots) ∧ Below B w wr ∧ But gv w wr ∧ ∀ b, u4.ownBlock = some b → w.heap.size ≤ b) := by rw [← hd]; exact ⟨hP.out.own.hal, hP.out.own.bel, hP.out.own.but, hP.out.own.la⟩
      clear hd hP
      simp only [wkS, List.length_nil]
      go_wp2
      try simp only [Exit.inBlock, Exit.then]
      refine bodyPost_ret (v := .tuple #[u4, .bool true]) (by simp [results, Try.results35, go_sem]) rfl ⟨_, rfl, R.out.1, R.out.2.1, fun g hg => by cases hg; exact R.out.2.2.1, R.out.2.2.2⟩
    | cons cx S =>
      obtain ⟨c, x⟩ := cx
      have hw := hP.out.own.hwk
      simp only [wkS] at hw
      have hw' := hw
      obtain ⟨gw, cw, rfl, _⟩ := hw'
      obtain ⟨t0, t1, hcap, hmax, hgw⟩ := top_cells hw
      rw [wkS_len] at t0 t1 hcap
      have hwl : (wkS S ++ [x.pt]).length = S.length + 1 := by rw [List.length_append, wkS_len]; rfl
      have hlen : S.length ≤ 4194304 := by
        have h1 := hmu.out
        have h2 := len_mu ((c, x) :: S)
        simp only [List.length_cons] at h2
        omega
      have hmax' : cw ≤ 9223372036854775807 := by unfold maxLen at hmax; exact hmax
      obtain ⟨p0, p1, hp0, hp1⟩ : ∃ p0 p1, x.pt.c0 = .pointer p0 ∧ x.pt.c1 = .pointer p1 := by cases x.pt <;> exact ⟨_, _, rfl, rfl⟩
      have hval : x.pt.val = .agg #[.pointer p0, .pointer p1] := by unfold Pt.val; rw [hp0, hp1]
      rw [hp0] at t0
      rw [hp1] at t1
      have OW1 := hideP (hP.out.own.alloc (.cells #[.pointer p0, .pointer p1] 70))
      have NEW := hideP (top_new (inn := inn) (fun y hy => hy.2.1) hP.out.good)
      have PLX := hideP (plain_of hP.out.good.1.here OW1.out.bel)
      have PLS := hideP (opS_plain hP.out.good.2.2 OW1.out.bel)
      simp only [wkS] at OW1
      rw [hwl] at OW1 ⊢
      clear hw hmax
      cases c with
      | true =>
        have LK := look_some (n := S.length) x.pt OW1.out.map hP.out.ent PLX.out PLS.out NEW.out
        obtain ⟨es', c', hdel, hent⟩ := del_last (n := S.length) x.pt OW1.out.map hP.out.ent PLX.out PLS.out NEW.out
        obtain ⟨W2, hW2⟩ : ∃ W2, ChangeMaps.setBlock (wr.alloc (.cells #[.pointer p0, .pointer p1] 70)) (w.heap.size + 1) (.map es' c') = W2 := ⟨_, rfl⟩
        rw [hW2, hval] at hdel
        rw [hval] at LK
        have P2 : Hid (Pinv w B (w.heap.size + 1) gv inn roots W2 u4 (.slice (some ⟨gw, 0, none⟩) S.length cw) S done es' c') := by
          have := (OW1.out.setmap (.map es' c'))
          rw [hW2] at this
          refine Pinv.close (x := x) (by simpa only [wkS, hwl] using hP.out) hent ?_
          simpa only [wkS, hwl] using this
        have hmu2 : Hid (muS S ≤ 2 * ndsSz roots) := by have := hmu.out; simp only [muS] at this; exact Nat.le_trans (Nat.le_add_left _ _) this
        have hg2 : muS S < gk := by simp only [muS] at hg; omega
        have LKH := hideP LK
        have DEL := hideP hdel
        clear LK hdel hent hW2 hP OW1 NEW PLX PLS hmu hg hp0 hp1 hval
        go_wp2_with (first
          | (at_lookup; refine list_look _ rfl _ _ 81 rfl _ _ _ rfl rfl LKH.out ?_)
          | (at_delete; refine list_del _ _ rfl _ _ 81 70 rfl _ _ rfl rfl DEL.out ?_))
        go_roundg (muS S)
        case measure => exact hg2
        case rel => exact ⟨S, done, es', c', Nat.le_refl _, hmu2, P2⟩
      | false =>
        have LK := look_none x.pt OW1.out.map hP.out.ent PLX.out PLS.out NEW.out
        obtain ⟨es', c', hupd, hent⟩ := upd_new x.pt S.length OW1.out.map hP.out.ent PLX.out PLS.out NEW.out
        obtain ⟨W2, hW2⟩ : ∃ W2, ChangeMaps.setBlock (wr.alloc (.cells #[.pointer p0, .pointer p1] 70)) (w.heap.size + 1) (.map es' c') = W2 := ⟨_, rfl⟩
        rw [hW2, hval] at hupd
        rw [hval] at LK
        have OW2 := OW1.out.setmap (.map es' c')
        rw [hW2] at OW2
        have hne : w.heap.size + 1 ≠ wr.heap.size := by have := hP.out.own.Mlt; omega
        have bX : W2.heap[wr.heap.size]? = some (.cells #[.pointer p0, .pointer p1] 70 (0, 0)) := by
          rw [← hW2]
          refine ((grown_set _).block wr.heap.size (by simp) (fun e => hne (Option.some.inj e).symm)).trans ?_
          exact blk_new' _ _
        have x0 : W2.cell? ⟨wr.heap.size, 0, none⟩ = some (.pointer p0) := by simp [World.cell?, bX]
        have x1 : W2.cell? ⟨wr.heap.size, 1, none⟩ = some (.pointer p1) := by simp [World.cell?, bX]
        have LIT : Hid (OwnPts (W2.alloc (.cells #[.pointer p0, .pointer p1] 70)) W2.heap.size (.slice (some ⟨W2.heap.size, 0, none⟩) 1 1) [x.pt]) := by
          have := lit_own W2 x.pt
          rw [hp0, hp1] at this
          exact this
        have hdl : done.length + 1 ≤ 8000000 := by
          have h1 := congrArg List.length hP.out.out
          rw [List.length_append, ndsVisit_len] at h1
          omega
        have NK := hideP hP.out.good.1.here.2.2.2
        have kl : x.kids.length ≤ 2097152 := by
          have h1 := hmu.out
          have h2 := kids_len x
          simp only [muS] at h1
          omega
        have hmu2 : Hid (muS (pushS x.kids ((true, x) :: S)) ≤ 2 * ndsSz roots) := Nat.le_trans (Nat.le_of_lt (muS_enter x S)) hmu.out
        have hg2 : muS (pushS x.kids ((true, x) :: S)) < gk := Nat.lt_of_lt_of_le (muS_enter x S) hg
        have LKH := hideP LK
        have UPD := hideP hupd
        have HP := hideP hP.out
        have HE := hideP hent
        have O2 := hideP (OW2.alloc (.cells #[.pointer p0, .pointer p1] 70))
        have BX := hideP bX
        have hXlt : wr.heap.size < W2.heap.size := (Array.getElem?_eq_some_iff.1 bX).1
        have sX : ∀ W3, (W2.alloc (.cells #[.pointer p0, .pointer p1] 70)).grownBy W3 u4.ownBlock → W3.heap[wr.heap.size]? = some (.cells #[.pointer p0, .pointer p1] 70 (0, 0)) := fun W3 hg3 => by
          refine (hg3.block wr.heap.size (by simp; omega) (fun e => ?_)).trans ?_
          · have := hP.out.own.hal.lt _ e.symm; omega
          · exact (((Below.refl W2.heap.size W2).alloc (Nat.le_refl _) _).block wr.heap.size hXlt).trans bX
        have SX := hideP sX
        rw [hval] at NK
        clear LK hupd hent hW2 hP OW1 OW2 NEW PLX PLS hmu hg hp0 hp1 bX sX hval
        go_wp2_with (first
          | (at_lookup; refine list_look _ rfl _ _ 81 rfl _ _ _ rfl rfl LKH.out ?_)
          | (at_mapUpdate; refine list_upd _ _ rfl _ _ _ 81 rfl _ _ _ rfl rfl rfl UPD.out ?_ rfl)
          | (at_builtin; refine list_app _ rfl _ _ rfl B _ _ _ done [x.pt] rfl rfl O2.out.hal LIT.out hdl O2.out.Ble ?_; intro v3 w3 own3 grow3 loc3; have O3 := hideP (O2.out.appAll own3 grow3 loc3); have bX3 := SX.out _ grow3; have y0 : w3.cell? ⟨wr.heap.size, 0, none⟩ = some (.pointer p0) := (by simp [World.cell?, bX3]); have y1 : w3.cell? ⟨wr.heap.size, 1, none⟩ = some (.pointer p1) := (by simp [World.cell?, bX3]); clear O2 LIT bX3 own3 grow3 loc3))
        refine (NK.out _ O3.out.bel).mono ?_
        rintro e4 w4 ⟨v4, rfl, own4, bel4⟩
        have O4 := hideP (O3.out.call bel4)
        have OWN4 := hideP own4
        clear own4 bel4 O3 y0 y1 x0 x1
        go_wp2_with (at_builtin; refine list_app _ rfl _ _ rfl B _ _ v4 (wkS S ++ [x.pt]) (x.kids.map Nd.pt) rfl rfl O4.out.hwk OWN4.out (by rw [hwl, List.length_map]; omega) O4.out.Ble ?_; intro v5 w5 own5 grow5 loc5)
        have P5 := hideP (Pinv.enter (by simpa only [wkS, hwl] using HP.out) HE.out (show Own3 w B (w.heap.size + 1) gv w5 v3 v5 (done ++ [x.pt]) (wkS ((false, x) :: S) ++ x.kids.map Nd.pt) (.map es' c') from O4.out.appWk own5 grow5 loc5))
        clear own5 grow5 loc5 O4 OWN4 HP HE
        go_wp2
        go_roundg (muS (pushS x.kids ((true, x) :: S)))
        case measure => exact hg2
        case rel => exact ⟨_, _, es', c', Nat.le_refl _, hmu2, P5⟩
end Go.Proofs.Ytdkdimklacblaah
