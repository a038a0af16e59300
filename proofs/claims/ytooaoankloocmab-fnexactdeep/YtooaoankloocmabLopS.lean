/- The contract of spec.l10Loop (written by wip/mklops.py). -/
import Derived.Test.YtooaoankloocmabLopP
import Derived.Test.YtooaoankloocmabAddF
import Derived.Test.YtooaoankloocmabAheadS
import Derived.Test.YtooaoankloocmabOwnA
import Derived.Test.YtooaoankloocmabSetAll
import Derived.Deep.LoopGhost
import Derived.Deep.CutRange
import Derived.Deep.RegionHeld3
namespace Go.Proofs.Ytooaoankloocmab
open Go.ChangeShapes Go.WideShapes Go.ChangeAt Go.RowKit
/-- What the loops of l10Loop carry. -/
structure LsAt (w : World) (bv : Array Value) (qi : Value) (inn : List Int) (qt : Value) (todo : List Int) (W : World) : Prop where
  box : W.heap[w.heap.size]? = some (.cells bv 30 (0, 0))
  inn : OwnI W (w.heap.size + 1) qi inn
  todo : QuI W (w.heap.size + 1) qt todo
  ne : qi.ownBlock ≠ qt.ownBlock
  bel : Below w.heap.size w W
section
variable {w W W' : World} {bv : Array Value} {qi qi' qt qt' : Value} {inn inn' todo todo' : List Int}
theorem LsAt.stays (h : LsAt w bv qi inn qt todo W) (b : Below W.heap.size W W') : LsAt w bv qi inn qt todo W' := ⟨(b.block _ (hltP h.box)).trans h.box, h.inn.stays b, h.todo.stays b, h.ne, below_trans h.bel b⟩
theorem LsAt.swap (h : LsAt w bv qi inn qt todo W) (hq : QuI W (w.heap.size + 1) qt' todo') (e : qt'.ownBlock = qt.ownBlock) : LsAt w bv qi inn qt' todo' W := ⟨h.box, h.inn, hq, by rw [e]; exact h.ne, h.bel⟩
/-- Another list of those that are in. -/
theorem LsAt.anew (h : LsAt w bv qi inn qt todo W) (b : Below W.heap.size W W') (ho : OwnI W' W.heap.size qi' inn') : LsAt w bv qi' inn' qt todo W' := by
  have h1 := h.stays b
  obtain ⟨gt, e, _, hlt⟩ := h.todo.low
  obtain ⟨g, cap, hv, _⟩ := id ho
  have hvo : qi'.ownBlock = some g := by rw [hv]; rfl
  have := (ho.low g hvo).1
  refine ⟨h1.box, ho.mono (by have := hltP h.box; omega), h1.todo, by rw [hvo, e]; intro e2; injection e2 with e2; omega, h1.bel⟩
/-- One more waits. -/
theorem LsAt.more {ob : Obj} (h : LsAt w bv qi inn qt todo W) (hq : QuI W' (w.heap.size + 1) qt' todo') (hg : (W.alloc ob).grownBy W' qt.ownBlock) (hl : qt'.ownBlock = qt.ownBlock ∨ qt'.ownBlock = some (W.alloc ob).heap.size) : LsAt w bv qi inn qt' todo' W' := by
  have b1 : Below W.heap.size W (W.alloc ob) := (Below.refl _ _).alloc (Nat.le_refl _) _
  have h1 := h.stays b1
  obtain ⟨gt, e, hlo, hlt⟩ := h.todo.low
  obtain ⟨g, cap, hv, _⟩ := id h.inn
  have hvo : qi.ownBlock = some g := by rw [hv]; rfl
  have hgl := (h.inn.low g hvo).2
  refine ⟨(hg.block _ (hltP h1.box) (by rw [e]; intro e2; injection e2 with e2; omega)).trans h1.box, h1.inn.kept hg h.ne, hq, ?_, h1.bel.grown hg h1.bel.size (fun b' hb' => by rw [e] at hb'; injection hb' with e2; omega)⟩
  rcases hl with hl | hl
  · rw [hl]; exact h.ne
  · rw [hl, hvo]
    intro e2
    injection e2 with e2
    have := b1.size
    omega
end
theorem addTo_same {l : List Int} (h : Rising l) {n : Int} (hm : n ∈ l) : addTo l n = l := rising_eq _ _ (addTo_rising _ _ h) h (fun y => by rw [addTo_mem]; exact ⟨fun h => h.elim (fun e => e ▸ hm) id, Or.inr⟩)
theorem addTo_more {n : Int} : ∀ {l : List Int}, ¬ n ∈ l → (addTo l n).length = l.length + 1
  | [], _ => rfl
  | x :: l, h => by
    have h1 : ¬ n ∈ l := fun e => h (List.mem_cons_of_mem _ e)
    have h2 : ¬ x = n := fun e => h (by rw [e]; exact List.mem_cons_self ..)
    unfold addTo
    split
    · simp [addTo_more h1]
    · first | (rw [if_neg h2]; simp) | simp
theorem OwnI.capn2 {w : World} {B g n cap : Nat} {l : List Int} (h : OwnI w B (.slice (some ⟨g, 0, none⟩) n cap) l) : l.length ≤ cap := by
  obtain ⟨g', cap', cur, hv, hB, hh, hc, _⟩ := h.parts
  injection hv with _ _ e
  subst e
  exact hc
set_option maxRecDepth 100000 in
set_option maxHeartbeats 8000000 in
theorem spec_l10Loop (g : Gr) (a hd : Int) (w : World) (B : Nat) (v : Array Value) (h : GrIs w B v g) (hok : grOk g = true) (ha : InR g.blocks.length a) (hh : InR g.blocks.length hd) (GO : OkIs 18 g) :
    Calls Try.prog 21 #[.agg v, .int .i64 a, .int .i64 hd] w fun en w' => ∃ v', en = .returned v' ∧ OwnI w' w.heap.size v' (lopTo g.blocks a hd) ∧ Below w.heap.size w w' := by
  have hn := (grOk_blocks hok).2
  have CAH : Hid (∀ (t : Nat) W, t < g.blocks.length → Below w.heap.size w W → Calls Try.prog 44 #[.agg v, .int .i64 (t : Int)] W fun en w' => ∃ v', en = .returned v' ∧ OwnI w' W.heap.size v' (prdL g.blocks t) ∧ Below W.heap.size W w') := fun t W ht hW => by
    rw [← ahead_prd hok ht]; exact spec_ahead g t W B v (GrKeeps.stays h hW) GO
  have IA := hideP ha
  have IH := hideP hh
  have ST : Hid (a ≠ hd → LpB g.blocks a hd (addTo [hd] a) [] [a]) := fun e => lpB_start ha e
  have DN : Hid (∀ inn dn, a ≠ hd → LpB g.blocks a hd inn dn [] → inn = lopTo g.blocks a hd) := fun inn dn e hl => hl.done e ha hh
  have SE : Hid (a = hd → addTo [hd] a = lopTo g.blocks a hd) := fun e => by subst e; rw [← lop_self hh]; simp [addTo]
  obtain ⟨P, hP⟩ : ∃ P, lopTo g.blocks a hd = P := ⟨_, rfl⟩
  rw [hP] at DN SE ⊢
  clear hP hok ha hh GO
  obtain ⟨sizes, params, vars, slots, blocks⟩ := g
  obtain ⟨us, cs, ub, cb, rfl, _, _, _⟩ := h
  simp only at *
  have B1 := hideP (below2 w (.cells #[.slice us sizes.length cs, .int .i64 params, .int .i64 vars, .int .i64 slots, .slice ub blocks.length cb] 30) (.cells #[.int .i64 hd] 3))
  have BX1 := hideP (two (w := w) (o1 := .cells #[.slice us sizes.length cs, .int .i64 params, .int .i64 vars, .int .i64 slots, .slice ub blocks.length cb] 30) (o2 := .cells #[.int .i64 hd] 3) (Below.refl _ _)).1
  have O1 : Hid (OwnI ((w.alloc (.cells #[.slice us sizes.length cs, .int .i64 params, .int .i64 vars, .int .i64 slots, .slice ub blocks.length cb] 30)).alloc (.cells #[.int .i64 hd] 3)) (w.heap.size + 1) (.slice (some ⟨w.heap.size + 1, 0, none⟩) 1 1) [hd]) := by
    have := own_lit (w.alloc (.cells #[.slice us sizes.length cs, .int .i64 params, .int .i64 vars, .int .i64 slots, .slice ub blocks.length cb] 30)) [hd] #[.int .i64 hd] (w.heap.size + 1) 1 (by simp) rfl rfl (by simp)
    show OwnI _ _ _ _
    simpa using this
  have LA := hideP (l02Add_own [hd] a _ (w.heap.size + 1) _ O1.out (by simp) (by simp))
  go_enter Try.func21, Try.ntmps21
  go_wp2_with fail
  refine LA.out.mono ?_
  rintro e2 w2 ⟨v2, rfl, o2, b2⟩
  have al := (Below.refl w2.heap.size w2).alloc (Nat.le_refl _) (.cells #[.int .i64 a] 3)
  have K3 : Hid (LsAt w #[.slice us sizes.length cs, .int .i64 params, .int .i64 vars, .int .i64 slots, .slice ub blocks.length cb] v2 (addTo [hd] a) (.slice (some ⟨w2.heap.size, 0, none⟩) 1 1) [a] (w2.alloc (.cells #[.int .i64 a] 3))) := by
    have hz : w.heap.size + 1 ≤ w2.heap.size := by have := b2.size; simp at this; omega
    refine ⟨((below_trans b2 al).block _ (hltP BX1.out)).trans BX1.out, o2.stays al, QuI.of_own ((own_lit w2 [a] #[.int .i64 a] w2.heap.size 1 rfl rfl rfl (by simp)).mono hz), ?_, below_trans (below_trans B1.out b2) al⟩
    obtain ⟨g, cap, hv, _⟩ := id o2
    have hvo : v2.ownBlock = some g := by rw [hv]; rfl
    have := (o2.low g hvo).2
    rw [hvo]
    intro e
    have e2 : g = w2.heap.size := by simpa [Value.ownBlock] using e
    omega
  obtain ⟨gi, ci, hvi, _⟩ := id o2
  subst hvi
  clear o2 b2 al LA O1 BX1 B1
  by_cases hne : a = hd
  · have hb : (a != hd) = false := by simp [hne]
    have hb2 : (a == hd) = true := by simpa using hne
    have E0 := hideP (SE.out hne)
    have c0 := K3.out.todo.at 0 (by simp)
    simp only [Nat.add_zero, List.getElem_cons_zero] at c0
    clear ST DN SE hne
    go_wp2
    go_loopg [7, 8] 0 (fun _ q1 q2 wr => q1 = .slice (some ⟨gi, 0, none⟩) (addTo [hd] a).length ci ∧ q2 = .slice (some ⟨w2.heap.size, 0, none⟩) 1 1 ∧ wr = w2.alloc (.cells #[.int .i64 a] 3))
    case atStart => exact ⟨rfl, rfl, rfl⟩
    case round =>
      obtain ⟨rfl, rfl, rfl⟩ := hrel
      go_wp2
      go_ret
      exact ⟨_, rfl, by rw [← E0.out]; exact K3.out.inn.mono (Nat.le_succ _), K3.out.bel⟩
  · have S1 := hideP (ST.out hne)
    have D1 : Hid (∀ inn dn, LpB blocks a hd inn dn [] → inn = P) := fun inn dn => DN.out inn dn hne
    clear ST DN SE hne
    go_wp2
    obtain ⟨W3, hW3⟩ : ∃ W3, w2.alloc (.cells #[.int .i64 a] 3) = W3 := ⟨_, rfl⟩
    rw [hW3] at K3 ⊢
    obtain ⟨gt, hgt⟩ : ∃ gt, w2.heap.size = gt := ⟨_, rfl⟩
    rw [hgt] at K3 ⊢
    clear hW3 hgt
    go_loopg [7, 8] blocks.length (fun gk q1 q2 wr => ∃ (inn dn todo : List Int), gk + dn.length = blocks.length ∧ Hid (LpB blocks a hd inn dn todo) ∧ Hid (LsAt w #[.slice us sizes.length cs, .int .i64 params, .int .i64 vars, .int .i64 slots, .slice ub blocks.length cb] q1 inn q2 todo wr))
    case atStart => exact ⟨_, [], [a], by simp, S1.out, K3.out⟩
    case round =>
      obtain ⟨inn, dn, todo, hgk, hL, hK⟩ := hrel
      clear S1 K3
      obtain ⟨gq, oq, cq, cur, hvq, hq1, hq2, hq3, hq4, hq5, hq6⟩ := id hK.out.todo
      subst hvq
      obtain ⟨g7, c7, hv7, _⟩ := id hK.out.inn
      subst hv7
      cases todo with
      | nil =>
        have ED := hideP (D1.out _ _ hL.out)
        clear hq1 hq2 hq3 hq4 hq5 hq6 hL
        go_wp2
        go_ret
        exact ⟨_, rfl, by rw [← ED.out]; exact hK.out.inn.mono (Nat.le_succ _), hK.out.bel⟩
      | cons c todo =>
        have V0 := hideP (hL.out.enter (ah := prdL blocks c.toNat))
        obtain ⟨_, hcr, _⟩ := V0.out.inR IA.out IH.out
        have hcw : c ≠ hd := (V0.out.sound c (by simp)).ne
        obtain ⟨i, hci⟩ : ∃ i : Nat, c = (i : Int) := ⟨c.toNat, by have := hcr.1; omega⟩
        subst hci
        have hi : i < blocks.length := by have := hcr.2; omega
        rw [Int.toNat_natCast] at V0
        have hc0 := hK.out.todo.at 0 (by simp)
        simp only [Nat.add_zero, List.getElem_cons_zero] at hc0
        have hdl : dn.length + 1 + todo.length ≤ blocks.length := by have := hL.out.few; unfold Few at this; rw [List.length_append, List.length_cons] at this; omega
        have hb : ((i : Int) != hd) = true := by simp [bne, hcw]
        have hb2 : ((i : Int) == hd) = false := by simpa using hcw
        have TL := hideP hK.out.todo.tail
        simp only [List.length_cons] at hq3 ⊢
        obtain ⟨k, hkl⟩ : ∃ k, todo.length = k := ⟨_, rfl⟩
        rw [hkl] at hq3 hdl TL ⊢
        have HKL := hideP hkl
        have bxf := (cells_of hK.out.box).1
        have y0 := bxf 0
        have y1 := bxf 1
        have y2 := bxf 2
        have y3 := bxf 3
        have y4 := bxf 4
        simp at y0 y1 y2 y3 y4
        have hbw := hltP hK.out.box
        have NL : Hid (∀ W', Below wr.heap.size wr W' → Calls Try.prog 44 #[.agg #[.slice us sizes.length cs, .int .i64 params, .int .i64 vars, .int .i64 slots, .slice ub blocks.length cb], .int .i64 (i : Int)] W' fun en w' => ∃ g2 c2, en = .returned (.slice (some ⟨g2, 0, none⟩) (prdL blocks i).length c2) ∧ OwnI w' wr.heap.size (.slice (some ⟨g2, 0, none⟩) (prdL blocks i).length c2) (prdL blocks i) ∧ Below wr.heap.size wr w') := fun W' bel => by
          refine (CAH.out i W' hi (below_trans hK.out.bel bel)).mono ?_
          rintro en w' ⟨v', he, ho, hb'⟩
          obtain ⟨g2, c2, rfl, _⟩ := id ho
          exact ⟨g2, c2, he, ho.mono bel.size, bel.trans (hb'.mono bel.size)⟩
        have SK : Hid (∀ W', Below wr.heap.size wr W' → W'.cell? ⟨w.heap.size, 0, none⟩ = some (.slice us sizes.length cs) ∧ W'.cell? ⟨w.heap.size, 1, none⟩ = some (.int .i64 params) ∧ W'.cell? ⟨w.heap.size, 2, none⟩ = some (.int .i64 vars) ∧ W'.cell? ⟨w.heap.size, 3, none⟩ = some (.int .i64 slots) ∧ W'.cell? ⟨w.heap.size, 4, none⟩ = some (.slice ub blocks.length cb) ∧ W'.cell? ⟨gq, oq, none⟩ = some (.int .i64 (i : Int))) := fun W' bel => ⟨(bel.cell (p := ⟨w.heap.size, 0, none⟩) hbw).trans y0, (bel.cell (p := ⟨w.heap.size, 1, none⟩) hbw).trans y1, (bel.cell (p := ⟨w.heap.size, 2, none⟩) hbw).trans y2, (bel.cell (p := ⟨w.heap.size, 3, none⟩) hbw).trans y3, (bel.cell (p := ⟨w.heap.size, 4, none⟩) hbw).trans y4, (bel.cell (p := ⟨gq, oq, none⟩) (World.block_lt_of_cell? wr _ hc0)).trans hc0⟩
        clear bxf hq1 hq2 hq4 hq5 hq6 hL hkl hcr hcw
        go_upto_region 5 with fail
        clear y0 y1 y2 y3 y4 hc0
        go_region_held3 (fun W' => W'.cell? ⟨w.heap.size, 0, none⟩ = some (.slice us sizes.length cs) ∧ W'.cell? ⟨w.heap.size, 1, none⟩ = some (.int .i64 params) ∧ W'.cell? ⟨w.heap.size, 2, none⟩ = some (.int .i64 vars) ∧ W'.cell? ⟨w.heap.size, 3, none⟩ = some (.int .i64 slots) ∧ W'.cell? ⟨w.heap.size, 4, none⟩ = some (.slice ub blocks.length cb) ∧ W'.cell? ⟨gq, oq, none⟩ = some (.int .i64 (i : Int))) (first | exact SK.out _ (Below.refl _ _) | exact SK.out _ (Below.refl _ _).drew | exact SK.out _ FR.out) (first
          | (go_at_call 44; refine (NL.out _ (Below.refl _ _).drew).mono ?_; rintro yy wy ⟨g2, c2', rfl, on, fn⟩; have ON := hideP on; have FR := hideP fn; clear on fn))
        obtain ⟨L, hL⟩ : ∃ L, prdL blocks i = L := ⟨_, rfl⟩
        have hL2 : L.length ≤ 300 := by rw [← hL]; exact Nat.le_trans (upB_len _ _) hn
        have HLM : Hid (∀ z, z ∈ L ↔ z ∈ prdL blocks (i : Int).toNat) := fun z => by rw [Int.toNat_natCast, hL]
        have HIN : Hid (∀ y ∈ L, InR blocks.length y) := fun y hy => prdL_in y (by rw [hL]; exact hy)
        rw [hL] at ON V0 ⊢
        have K5 := hideP (hK.out.stays FR.out)
        have G2 := hideP (ON.out.low g2 rfl)
        obtain ⟨gq', hgq', hgqlo, hgqhi⟩ := hK.out.todo.low
        obtain rfl : gq = gq' := by simpa [Value.ownBlock] using hgq'
        have h7l := (hK.out.inn.low g7 rfl).2
        have QT : Hid (QuI wy (w.heap.size + 1) (.slice (some ⟨gq, oq + 1, none⟩) k (cq - 1)) todo ∧ (cq = 1 → QuI wy (w.heap.size + 1) (.slice (some ⟨gq, oq, none⟩) k (cq - 1)) todo)) := ⟨TL.out.1.stays FR.out, fun e => (TL.out.2 e).stays FR.out⟩
        have i1 : (1 : Int) ≤ ((k + 1 : Nat) : Int) := by omega
        have i2 : ((k + 1 : Nat) : Int) ≤ (cq : Int) := by omega
        clear hL TL hK hgq' SK NL
        go_upto_region 6 with fail
        go_cut [8] from 19 to 60 (fun q wx => wx = wy ∧ Hid (QuI wy (w.heap.size + 1) q todo ∧ q.ownBlock = some gq))
        case first =>
          by_cases hc1 : cq = 1
          · have QT2 : Hid (QuI wy (w.heap.size + 1) (.slice (some ⟨gq, oq, none⟩) k 0) todo) := by have := QT.out.2 hc1; rw [hc1] at this; exact this
            go_wp2
            go_meet
            exact ⟨rfl, QT2.out, rfl⟩
          · go_wp2
            go_meet
            exact ⟨rfl, QT.out.1, rfl⟩
        case rest =>
        obtain ⟨hwc, hqq⟩ := hcut
        have hwc' := hwc.symm
        subst hwc'
        clear hwc
        have K6 := hideP (K5.out.swap hqq.out.1 (by rw [hqq.out.2]; rfl))
        have NE6 : Hid (∀ q : Value, q.ownBlock = some gq → q.ownBlock ≠ some g2) := fun q e => by rw [e]; intro e2; injection e2 with e2; have := G2.out; omega
        have HQ6 := hideP hqq.out.2
        clear K5 hqq QT
        go_wp2
        go_loopg [7, 8, 10] L.length (fun hk q1 q2 jj wr2 => ∃ (j : Nat) (inn td : List Int), hk + j = L.length ∧ jj = .int .i64 j ∧ Hid (LpV blocks a hd inn dn (i : Int) td L j) ∧ Hid (LsAt w #[.slice us sizes.length cs, .int .i64 params, .int .i64 vars, .int .i64 slots, .slice ub blocks.length cb] q1 inn q2 td wr2) ∧ Hid (q2.ownBlock ≠ some g2) ∧ Hid (OwnI wr2 0 (.slice (some ⟨g2, 0, none⟩) L.length c2') L) ∧ Hid (g2 < wr2.heap.size))
        case atStart => exact ⟨0, inn, todo, by simp, rfl, V0.out, K6.out, NE6.out _ HQ6.out, ON.out.mono (Nat.zero_le _), G2.out.2⟩
        case round =>
          obtain ⟨j, inn, td, hhk, rfl, hV, hK, hq2, hO, hg2⟩ := hrel
          clear V0 K6 NE6 HQ6
          by_cases hlt : j < L.length
          · have hz := HIN.out _ (List.getElem_mem hlt)
            obtain ⟨z, hzl⟩ : ∃ z : Nat, L[j] = (z : Int) := ⟨L[j].toNat, by have := hz.1; omega⟩
            have hc := hO.out.at j hlt
            rw [hzl, Nat.zero_add] at hc
            obtain ⟨hil, _, htl⟩ := hV.out.inR IA.out IH.out
            obtain ⟨g8, c8, hv8, _⟩ := id hK.out.inn
            subst hv8
            obtain ⟨gq4, oq4, cq4, cur4, hvq4, _⟩ := id hK.out.todo
            subst hvq4
            have LA := hideP (l02Add_own2 inn (z : Int) wr g8 0 c8 hK.out.inn.is.2.sees hK.out.inn.capn2 (by omega))
            have THR : Hid ((z : Int) ∈ inn → LpV blocks a hd inn dn (i : Int) td L (j + 1)) := fun hm => hV.out.there hlt (by rw [hzl]; exact hm)
            have NEW : Hid (¬ (z : Int) ∈ inn → LpV blocks a hd (addTo inn (z : Int)) dn (i : Int) (td ++ [(z : Int)]) L (j + 1)) := fun hm => by
              have := hV.out.new hlt (by rw [hzl]; exact hm) HLM.out
              rw [hzl] at this
              exact this
            have RI := hideP hV.out.rise
            clear hzl hz hV
            go_wp2_with fail
            refine LA.out.mono ?_
            rintro e9 w9 ⟨v9, rfl, o9, b9⟩
            by_cases hm : (z : Int) ∈ inn
            · have V2 := hideP (THR.out hm)
              have EL := hideP (addTo_same RI.out hm)
              have K9 := hideP (hK.out.stays b9)
              have O9 := hideP (hO.out.stays b9)
              have hg9 : g2 < w9.heap.size := Nat.lt_of_lt_of_le hg2.out b9.size
              obtain ⟨a9, n9, hv9⟩ : ∃ a9 n9, v9 = .slice a9 inn.length n9 := by
                rcases o9 with ⟨e, _⟩ | o9
                · exact ⟨_, _, e⟩
                · obtain ⟨g, cap, hv, _⟩ := o9
                  exact ⟨_, cap, by rw [hv, EL.out]⟩
              subst hv9
              clear o9 b9 LA THR NEW hK hO hc hm EL
              go_wp2
              go_roundg (L.length - (j + 1))
              case rel => exact ⟨j + 1, inn, td, by omega, by go_num, V2.out, K9.out, hq2.out, O9.out, hg9⟩
              case measure => omega
            · have V2 := hideP (NEW.out hm)
              have EL := hideP (addTo_more (n := (z : Int)) hm)
              rcases o9 with ⟨_, e⟩ | o9
              · exact absurd (congrArg List.length e) (by rw [EL.out]; omega)
              · obtain ⟨R, hR⟩ : ∃ R, addTo inn (z : Int) = R := ⟨_, rfl⟩
                rw [hR] at o9 EL V2
                have K9 := hideP (hK.out.anew b9 o9)
                have O9 := hideP (hO.out.stays b9)
                have c9 : w9.cell? ⟨g2, j, none⟩ = some (.int .i64 (z : Int)) := (b9.cell (p := ⟨g2, j, none⟩) hg2.out).trans hc
                have hg9 : g2 < w9.heap.size := Nat.lt_of_lt_of_le hg2.out b9.size
                obtain ⟨g9, c9', hv9, _⟩ := id o9
                rw [EL.out] at hv9
                subst hv9
                have al := (Below.refl w9.heap.size w9).alloc (Nat.le_refl _) (.cells #[.int .i64 (z : Int)] 3)
                have QA := hideP (K9.out.todo.stays al)
                have LC : Hid ((w9.alloc (.cells #[.int .i64 (z : Int)] 3)).cell? ⟨w9.heap.size, 0, none⟩ = some (.int .i64 (z : Int))) := (cells_of (newB8 w9 (.cells #[.int .i64 (z : Int)] 3))).1 0
                have hsz : w.heap.size + 1 ≤ (w9.alloc (.cells #[.int .i64 (z : Int)] 3)).heap.size := Nat.le_trans (hltP K9.out.box) al.size
                have OA := hideP (O9.out.stays al)
                have hzz : w9.heap.size < (w9.alloc (.cells #[.int .i64 (z : Int)] 3)).heap.size := by simp
                clear al b9 o9 LA THR NEW hK hO hc hm hR
                go_wp2_with (at_builtin; refine list_appQ _ rfl _ _ rfl (w.heap.size + 1) _ td (z : Int) w9.heap.size 0 1 rfl rfl QA.out LC.out (by omega) hsz ?_; intro v6 w6 o6 grow6 loc6)
                replace grow6 : World.grownBy _ w6 (Value.slice (some ⟨gq4, oq4, none⟩) td.length cq4).ownBlock := grow6
                replace loc6 : v6.ownBlock = (Value.slice (some ⟨gq4, oq4, none⟩) td.length cq4).ownBlock ∨ v6.ownBlock = some (w9.alloc (.cells #[.int .i64 (z : Int)] 3)).heap.size := loc6
                have K6 := hideP (K9.out.more o6 grow6 loc6)
                have O6 := hideP (OA.out.kept grow6 (fun e => hq2.out e.symm))
                have Q6 : Hid (v6.ownBlock ≠ some g2) := by
                  show _ ≠ _
                  rcases loc6 with e | e
                  · rw [e]; exact hq2.out
                  · rw [e]; intro e2; injection e2 with e2; omega
                have hg6 : g2 < w6.heap.size := by have := grow6.size; omega
                obtain ⟨gq6, oq6, cq6, cur6, hv6, _⟩ := id o6
                rw [List.length_append, List.length_singleton] at hv6
                subst hv6
                clear o6 grow6 loc6 QA LC K9 O9 OA c9
                go_wp2
                go_roundg (L.length - (j + 1))
                case rel => exact ⟨j + 1, R, td ++ [(z : Int)], by omega, by go_num, V2.out, K6.out, Q6.out, O6.out, hg6⟩
                case measure => omega
          · have hjn : j = L.length := by omega
            subst hjn
            have B2 := hideP (hV.out.out HLM.out)
            clear hV
            go_wp2
            go_roundg (blocks.length - (dn.length + 1))
            case rel => exact ⟨inn, dn ++ [(i : Int)], td, by rw [List.length_append, List.length_singleton]; omega, B2.out, hK.out⟩
            case measure => omega
end Go.Proofs.Ytooaoankloocmab
