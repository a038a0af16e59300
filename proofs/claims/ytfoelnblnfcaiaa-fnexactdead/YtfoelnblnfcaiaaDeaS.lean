/- The contract of spec.Dead. -/
import Derived.Test.YtfoelnblnfcaiaaDeaP
import Derived.Test.YtfoelnblnfcaiaaAimP
import Derived.Test.YtfoelnblnfcaiaaQuI
import Derived.Test.YtfoelnblnfcaiaaRwT
import Derived.Deep.CutRange
import Derived.Deep.RegionHeld3
import Derived.Deep.LoopGhost
namespace Go.Proofs.Ytfoelnblnfcaiaa
open Go.ChangeShapes Go.WideShapes Go.ChangeAt Go.RowKit
def seenF (met : List Int) (k : Nat) : Bool := decide ((k : Int) ∈ met)
/-- Between two rounds: the queue, which words were met, the answer that is still empty, the image's box. -/
structure BQW (w : World) (G : Array Value) (gs gO n : Nat) (met : List Int) (wr : World) (vq : Value) (todo : List Int) : Prop where
  q : QuI wr (w.heap.size + 1) vq todo
  s : RowT wr gs n (seenF met)
  o : OwnI wr (w.heap.size + 1) (.slice (some ⟨gO, 0, none⟩) 0 0) []
  gs0 : w.heap.size + 1 ≤ gs
  qs : vq.ownBlock ≠ some gs
  qo : vq.ownBlock ≠ some gO
  so : gs ≠ gO
  bel : Below w.heap.size w wr
  box : wr.heap[w.heap.size]? = some (.cells G 30 (0, 0))
theorem seen_set {w : World} {gs n : Nat} {met : List Int} (h : RowT w gs n (seenF met)) {i : Nat} (hi : i < n) : RowT (w.setCell ⟨gs, i, none⟩ (.bool true)) gs n (seenF (met ++ [(i : Int)])) :=
  h.set hi (fun j _ => by
    unfold seenF
    by_cases e : j = i
    · subst e; rw [if_pos rfl]; simp
    · rw [if_neg e]
      apply decide_eq_decide.2
      rw [List.mem_append, List.mem_singleton]
      exact ⟨fun h => h.resolve_right (by omega), Or.inl⟩)
theorem BQW.stays {w wr w' : World} {G : Array Value} {gs gO n : Nat} {met todo : List Int} {vq : Value} (h : BQW w G gs gO n met wr vq todo) (bel : Below wr.heap.size wr w') : BQW w G gs gO n met w' vq todo :=
  ⟨h.q.stays bel, h.s.keep (bel.block gs h.s.lt), h.o.stays bel, h.gs0, h.qs, h.qo, h.so, below_trans h.bel bel, (bel.block _ (Array.getElem?_eq_some_iff.1 h.box).1).trans h.box⟩
theorem BQW.swap {w wr : World} {G : Array Value} {gs gO n : Nat} {met todo todo' : List Int} {vq vq' : Value} (h : BQW w G gs gO n met wr vq todo) (hq : QuI wr (w.heap.size + 1) vq' todo') (hb : vq'.ownBlock = vq.ownBlock) : BQW w G gs gO n met wr vq' todo' :=
  ⟨hq, h.s, h.o, h.gs0, by rw [hb]; exact h.qs, by rw [hb]; exact h.qo, h.so, h.bel, h.box⟩
theorem BQW.mark {w wr : World} {G : Array Value} {gs gO n : Nat} {met todo : List Int} {vq : Value} (h : BQW w G gs gO n met wr vq todo) {i : Nat} (hi : i < n) : BQW w G gs gO n (met ++ [(i : Int)]) (wr.setCell ⟨gs, i, none⟩ (.bool true)) vq todo := by
  have hb : But gs wr (wr.setCell ⟨gs, i, none⟩ (.bool true)) := (But.refl _ _).set _ _
  have hbx := (Array.getElem?_eq_some_iff.1 h.box).1
  exact ⟨h.q.keep fun g hg => Below.heap_setCell wr ⟨gs, i, none⟩ _ g (fun e => h.qs (by rw [hg]; exact congrArg some e)), seen_set h.s hi, h.o.butG hb (by simp [Value.ownBlock]; exact fun e => h.so e.symm), h.gs0, h.qs, h.qo, h.so, h.bel.trans (hb.below (by have := h.gs0; omega) h.bel.size), (hb.block _ hbx (by have := h.gs0; omega)).trans h.box⟩
theorem BQW.push {w wr w' : World} {G : Array Value} {gs gO n : Nat} {met todo todo' : List Int} {vq vq' : Value} (h : BQW w G gs gO n met wr vq todo) (hq : QuI w' (w.heap.size + 1) vq' todo') (hg : wr.grownBy w' vq.ownBlock) (hl : vq'.ownBlock = vq.ownBlock ∨ vq'.ownBlock = some wr.heap.size) : BQW w G gs gO n met w' vq' todo' := by
  obtain ⟨b, hb, hb1, hb2⟩ := h.q.low
  have hlo := h.o.low gO rfl
  have hbx := (Array.getElem?_eq_some_iff.1 h.box).1
  have hgs := h.s.lt
  have hbs : b ≠ gs := fun e => h.qs (by rw [hb, e])
  have hbo : b ≠ gO := fun e => h.qo (by rw [hb, e])
  rw [hb] at hg hl
  refine ⟨hq, h.s.keep (hg.block gs hgs (by simp; exact fun e => hbs e.symm)), h.o.kept hg (by simp [Value.ownBlock]; exact fun e => hbo e.symm), h.gs0, ?_, ?_, h.so, h.bel.grown hg h.bel.size (fun b' hb' => by simp at hb'; omega), (hg.block _ hbx (by simp; omega)).trans h.box⟩
  · rcases hl with e | e
    · rw [e]; simpa using hbs
    · rw [e]; simp; omega
  · rcases hl with e | e
    · rw [e]; simpa using hbo
    · rw [e]; simp; omega
theorem infoBW : (Try.prog.info? 4).map (fun i => (i.zero, i.size, i.bytes)) = some (some (.bool false), 1, 1) := by kernel_rfl
theorem make_boolsW (n : Nat) (hn : n ≤ 6000) (W : World) : (Instr.makeSlice 50 (.int .i64 (n : Int)) (.int .i64 (n : Int))).run Try.prog W = .ok (.slice (some ⟨W.heap.size, 0, none⟩) n n) (W.alloc (.cells (madeCells #[.bool false] n) 4)) := by
  have := make_n (P := Try.prog) Try.underlying50 infoBW n (by omega) (by omega) W
  rw [Nat.mul_one] at this
  exact this
theorem rowT_made (w : World) (n : Nat) : RowT (w.alloc (.cells (madeCells #[.bool false] n) 4)) w.heap.size n (seenF []) :=
  ⟨_, by show (w.heap.push _)[w.heap.size]? = _; exact Array.getElem?_push_size, by rw [size_madeCells]; exact Nat.le_refl _, fun i hi => by simp [madeCells, hi, Nat.mod_one, seenF]⟩
def goPart (x : Wrd) : List Int := if goesW x = true then [x.n] else []
def onB (x : Wrd) : Bool := !(x.op == 8) && !(x.op == 10)
theorem nxX_parts (i : Nat) (x : Wrd) : nxX i x = goPart x ++ (if onB x = true then [(i : Int) + 1] else []) := by
  unfold nxX goPart onB goesW
  by_cases h10 : x.op = 10
  · simp [h10]
  · by_cases h8 : x.op = 8
    · simp [h8]
    · by_cases h9 : x.op = 9
      · simp [h9]
      · simp [h10, h8, h9]
theorem goPart_len (x : Wrd) : (goPart x).length ≤ 1 := by unfold goPart; split <;> simp
set_option maxHeartbeats 16000000 in
set_option maxRecDepth 100000 in
theorem spec_dead (m : Img) (w : World) (B : Nat) (v : Array Value) (h : ImgIs w B v m) (GO : ImOk 9 m) :
    Calls Try.prog 24 #[.agg v] w fun en w' => ∃ v', en = .returned v' ∧ OwnI w' w.heap.size v' (deadP m) ∧ Below w.heap.size w w' := by
  obtain ⟨y, hy⟩ : ∃ y, imgOk m = y := ⟨_, rfl⟩
  have CY : Hid (∀ W, Below w.heap.size w W → Calls Try.prog 9 #[.agg v] W fun en w' => en = .returned (.bool y) ∧ Below W.heap.size W w') := fun W hW => by rw [← hy]; exact GO W B v (ImgKeeps.stays h hW)
  have HN : Hid (y = true → m.code.length ≤ 6000 ∧ 1 ≤ m.code.length) := fun e => imgOk_few (by rw [hy]; exact e)
  have HIN : Hid (y = true → ∀ i, i < m.code.length → ∀ z ∈ nxW m.code i, InR m.code.length z) := fun e i hi => nxW_in (by rw [hy]; exact e) i hi
  have EP : Hid (deadP m = if y = true then dnP (Way (nxW m.code) [0] (-1)) m.code.length else []) := by show _ = _; unfold deadP; rw [hy]
  obtain ⟨P, hP⟩ : ∃ P, deadP m = P := ⟨_, rfl⟩
  rw [hP] at EP ⊢
  clear hy hP GO
  obtain ⟨sizes, params, slots, code⟩ := m
  obtain ⟨us, cs, ub, cb, rfl, _, _, hb⟩ := h
  simp only at *
  have hm := maxLen_lt
  have hl := hb.1
  have HB := hideP hb
  clear hb
  have AL := hideP (below2 w (.cells #[.slice us sizes.length cs, .int .i64 params, .int .i64 slots, .slice ub code.length cb] 30) (.cells #[] 3))
  have BX1 := hideP (two (w := w) (o1 := .cells #[.slice us sizes.length cs, .int .i64 params, .int .i64 slots, .slice ub code.length cb] 30) (o2 := .cells #[] 3) (Below.refl _ _)).1
  have O1 : Hid (OwnI ((w.alloc (.cells #[.slice us sizes.length cs, .int .i64 params, .int .i64 slots, .slice ub code.length cb] 30)).alloc (.cells #[] 3)) (w.heap.size + 1) (.slice (some ⟨w.heap.size + 1, 0, none⟩) 0 0) []) := by
    have := own_lit (w.alloc (.cells #[.slice us sizes.length cs, .int .i64 params, .int .i64 slots, .slice ub code.length cb] 30)) [] #[] (w.heap.size + 1) 0 (by simp) rfl rfl (by simp)
    show OwnI _ _ _ _
    simpa using this
  have Z1 : Hid (w.heap.size + 1 < ((w.alloc (.cells #[.slice us sizes.length cs, .int .i64 params, .int .i64 slots, .slice ub code.length cb] 30)).alloc (.cells #[] 3)).heap.size) := by show _ < _; simp
  obtain ⟨n, hnn⟩ : ∃ n, code.length = n := ⟨_, rfl⟩
  have HNN := hideP hnn
  rw [hnn] at HN HIN EP AL BX1 O1 Z1 CY hl ⊢
  clear hnn
  go_enter Try.func24, Try.ntmps24
  go_wp2_with fail
  refine (CY.out _ AL.out).mono ?_
  rintro e1 w1 ⟨rfl, b1⟩
  have BB := hideP (below_trans AL.out b1)
  have OO := hideP (O1.out.stays b1)
  have BX := hideP ((b1.block _ (Array.getElem?_eq_some_iff.1 BX1.out).1).trans BX1.out)
  have SZ : Hid (w.heap.size + 1 < w1.heap.size) := Nat.lt_of_lt_of_le Z1.out b1.size
  clear b1 O1 BX1 AL Z1 CY
  cases y
  · go_wp2
    go_ret
    refine ⟨_, rfl, ?_, BB.out⟩
    rw [EP.out, if_neg (by simp)]
    exact OO.out.mono (Nat.le_succ _)
  · obtain ⟨hn6, hn1⟩ := HN.out rfl
    have EP2 : Hid (P = dnP (Way (nxW code) [0] (-1)) n) := by show _ = _; rw [EP.out, if_pos rfl]
    have HI2 := hideP (HIN.out rfl)
    have gg := (cells_of BX.out).1
    have p3 := gg 3
    simp at p3
    have hm1 := make_boolsW n hn6
    have R0 := hideP (rowT_made w1 n)
    have al := (Below.refl w1.heap.size w1).alloc (Nat.le_refl _) (.cells (madeCells #[.bool false] n) 4)
    have B2 := hideP (below_trans BB.out al)
    have O2 := hideP (OO.out.stays al)
    have X2 := hideP (keepW BX.out al)
    have S2 : Hid (w1.heap.size < (w1.alloc (.cells (madeCells #[.bool false] n) 4)).heap.size) := by show _ < _; simp
    clear gg al HN HIN EP OO BB BX
    go_upto_region 5 with fail
    obtain ⟨gs, hgs⟩ : ∃ gs, w1.heap.size = gs := ⟨_, rfl⟩
    obtain ⟨w2, hw2⟩ : ∃ w2, w1.alloc (.cells (madeCells #[.bool false] n) 4) = w2 := ⟨_, rfl⟩
    rw [hw2] at R0 B2 O2 X2 S2 ⊢
    rw [hgs] at R0 SZ S2 ⊢
    clear hw2 hgs hm1 p3
    have al2 := (Below.refl w2.heap.size w2).alloc (Nat.le_refl _) (.cells #[.int .i64 0] 3)
    have R1 := hideP (R0.out.stays al2)
    obtain ⟨m0, f0⟩ := R1.out.at (i := 0) (by omega)
    have IV : Hid (BQW w #[.slice us sizes.length cs, .int .i64 params, .int .i64 slots, .slice ub n cb] gs (w.heap.size + 1) n [0] ((w2.alloc (.cells #[.int .i64 0] 3)).setCell ⟨gs, 0, none⟩ (.bool true)) (.slice (some ⟨w2.heap.size, 0, none⟩) 1 1) [0]) := by
      have hz := SZ.out
      have hs := S2.out
      have Q : BQW w #[.slice us sizes.length cs, .int .i64 params, .int .i64 slots, .slice ub n cb] gs (w.heap.size + 1) n [] (w2.alloc (.cells #[.int .i64 0] 3)) (.slice (some ⟨w2.heap.size, 0, none⟩) 1 1) [0] :=
        ⟨QuI.of_own ((own_lit w2 [0] #[.int .i64 0] w2.heap.size 1 rfl rfl rfl (by simp)).mono (by omega)), R1.out, O2.out.stays al2, by omega, by simp [Value.ownBlock]; omega, by simp [Value.ownBlock]; omega, by omega, below_trans B2.out al2, keepW X2.out al2⟩
      have := Q.mark (i := 0) (by omega)
      show BQW _ _ _ _ _ _ _ _ _
      simpa using this
    have BS := hideP (bfsW_start (nxW code) n hn1)
    clear R0 R1 B2 O2 X2 al2
    go_wp2
    clear m0 f0
    go_loopg [5] n (fun gk q wr => ∃ (dn todo : List Int), gk + dn.length = n ∧ Hid (BfsW (nxW code) n dn todo) ∧ Hid (BQW w #[.slice us sizes.length cs, .int .i64 params, .int .i64 slots, .slice ub n cb] gs (w.heap.size + 1) n (dn ++ todo) wr q todo))
    case atStart => exact ⟨[], [0], by simp, BS.out, IV.out⟩
    case round =>
      obtain ⟨dn, todo, hgk, hbf, hbq⟩ := hrel
      clear IV BS
      obtain ⟨kk, hkk⟩ : ∃ kk, kk = gk := ⟨_, rfl⟩
      rw [← hkk] at hgk
      have HGK := hideP hkk
      clear hkk
      obtain ⟨gq, oq, cq, cur, rfl, hq1, hq2, hq3, hq4, hq5, hq6⟩ := id hbq.out.q
      cases todo with
      | nil =>
        have MM := hideP (fun y => hbf.out.done y)
        rw [List.append_nil] at hbq
        clear hq1 hq2 hq3 hq4 hq5 hq6 hbf
        go_wp2
        go_loopg [3, 9] n (fun hk o i wr2 => ∃ j : Nat, hk + j = n ∧ i = .int .i64 j ∧ Hid (OwnI wr2 (w.heap.size + 1) o (dnP (Way (nxW code) [0] (-1)) j)) ∧ Hid (RowT wr2 gs n (seenF dn)) ∧ Hid (o.ownBlock ≠ some gs) ∧ Hid (Below w.heap.size w wr2) ∧ Hid (w.heap.size + 1 ≤ wr2.heap.size))
        case atStart => exact ⟨0, by simp, rfl, hbq.out.o, hbq.out.s, by show _ ≠ _; simp [Value.ownBlock]; exact fun e => hbq.out.so e.symm, hbq.out.bel, (Array.getElem?_eq_some_iff.1 hbq.out.box).1⟩
        case round =>
          obtain ⟨j, hj, rfl, ho, hs, hne, hbw, hsz⟩ := hrel
          obtain ⟨g5, c5, rfl, _⟩ := id ho.out
          by_cases hlt : j < n
          · obtain ⟨m1, f1⟩ := hs.out.at hlt
            by_cases hin : (j : Int) ∈ dn
            · rw [show seenF dn j = true from decide_eq_true hin] at m1
              have U := hideP (dnP_yes ((MM.out _).1 hin))
              go_wp2
              go_roundg (n - (j + 1))
              case rel => exact ⟨j + 1, by omega, by go_num, by rw [U.out]; exact ho.out, hs.out, hne.out, hbw.out, hsz.out⟩
              case measure => omega
            · rw [show seenF dn j = false from decide_eq_false hin] at m1
              have U := hideP (dnP_no (fun e => hin ((MM.out _).2 e)))
              obtain ⟨L, hL⟩ : ∃ L, dnP (Way (nxW code) [0] (-1)) j = L := ⟨_, rfl⟩
              have hLl : L.length ≤ 6000 := by rw [← hL]; have := dnP_len (Way (nxW code) [0] (-1)) j; omega
              rw [hL] at ho U hne ⊢
              clear hin hL
              have al := (Below.refl wr.heap.size wr).alloc (Nat.le_refl _) (.cells #[.int .i64 (j : Int)] 3)
              have OC := hideP (ho.out.stays al)
              have OD := hideP (own_lit wr [(j : Int)] #[.int .i64 (j : Int)] wr.heap.size 1 rfl rfl rfl (by simp))
              have BC := hideP (hbw.out.alloc hbw.out.size (.cells #[.int .i64 (j : Int)] 3))
              have SC : Hid (w.heap.size + 1 ≤ (wr.alloc (.cells #[.int .i64 (j : Int)] 3)).heap.size) := by have := hsz.out; show _ ≤ _; simp; omega
              have SN := hideP (hs.out.keep (al.block gs hs.out.lt))
              have hgl := hs.out.lt
              clear al
              go_wp2_with (at_builtin; refine list_appI _ rfl _ _ rfl (w.heap.size + 1) _ L [(j : Int)] wr.heap.size 0 1 1 rfl rfl rfl OC.out OD.out.at (by simp; omega) SC.out ?_; intro v6 w6 o6 grow6 loc6)
              replace grow6 : World.grownBy _ w6 (Value.slice (some ⟨g5, 0, none⟩) L.length c5).ownBlock := grow6
              replace loc6 : v6.ownBlock = (Value.slice (some ⟨g5, 0, none⟩) L.length c5).ownBlock ∨ v6.ownBlock = some (wr.alloc (.cells #[.int .i64 (j : Int)] 3)).heap.size := loc6
              have B6 := hideP (BC.out.grown grow6 BC.out.size (fun b' hb' => by have := OC.out.low b' hb'; omega))
              have S6 := hideP (SN.out.keep (grow6.block gs SN.out.lt (fun e => hne.out e.symm)))
              have Z6 : Hid (w.heap.size + 1 ≤ w6.heap.size) := Nat.le_trans SC.out grow6.size
              have N6 : Hid (v6.ownBlock ≠ some gs) := by
                show _ ≠ _
                rcases loc6 with e | e
                · rw [e]; exact hne.out
                · rw [e]; simp; omega
              obtain ⟨g6, c6, rfl, _⟩ := id o6
              have O6 := hideP o6
              clear o6 grow6 loc6
              go_wp2
              go_roundg (n - (j + 1))
              case rel => exact ⟨j + 1, by omega, by go_num, by rw [U.out]; simpa using O6, S6.out, N6.out, B6.out, Z6.out⟩
              case measure => omega
          · have hjn : j = n := by omega
            subst hjn
            go_wp2
            go_ret
            exact ⟨_, rfl, by rw [EP2.out]; exact ho.out.mono (Nat.le_succ _), hbw.out⟩
      | cons a todo =>
        have hra := hbf.out.inr a (by simp)
        obtain ⟨i, rfl⟩ : ∃ i : Nat, a = (i : Int) := ⟨a.toNat, by have := hra.1; omega⟩
        have hi : i < n := by have := hra.2; omega
        have hic : i < code.length := by rw [HNN.out]; exact hi
        have hc0 := hbq.out.q.at 0 (by simp)
        simp only [Nat.add_zero, List.getElem_cons_zero] at hc0
        have hdl : dn.length + 1 + todo.length ≤ n := by have := hbf.out.few; unfold Few at this; rw [List.length_append, List.length_cons] at this; omega
        have BI := hideP hbf.out.inn
        have TL := hideP hbq.out.q.tail
        simp only [List.length_cons] at hq3 ⊢
        obtain ⟨k, hkl⟩ : ∃ k, todo.length = k := ⟨_, rfl⟩
        rw [hkl] at hq3 hdl TL ⊢
        have HKL := hideP hkl
        have i1 : (1 : Int) ≤ ((k + 1 : Nat) : Int) := by omega
        have i2 : ((k + 1 : Nat) : Int) ≤ (cq : Int) := by omega
        clear hq1 hq2 hq4 hq5 hq6 hbf hkl
        go_upto_region 9 with fail
        clear hc0
        go_cut [5] from 22 to 93 (fun q wx => wx = wr ∧ Hid (QuI wr (w.heap.size + 1) q todo ∧ q.ownBlock = some gq))
        case first =>
          by_cases hc1 : cq = 1
          · have QT2 : Hid (QuI wr (w.heap.size + 1) (.slice (some ⟨gq, oq, none⟩) k 0) todo) := by have := TL.out.2 hc1; rw [hc1] at this; exact this
            go_wp2
            go_meet
            exact ⟨rfl, QT2.out, rfl⟩
          · go_wp2
            go_meet
            exact ⟨rfl, TL.out.1, rfl⟩
        case rest =>
        obtain ⟨hwc, hqq⟩ := hcut
        have hwc' := hwc.symm
        subst hwc'
        clear hwc
        obtain ⟨gq2, oq2, cq2, cur2, rfl, _⟩ := id hqq.out.1
        obtain rfl : gq2 = gq := by have := hqq.out.2; simpa [Value.ownBlock] using this
        have BQ3 : Hid (BQW w #[.slice us sizes.length cs, .int .i64 params, .int .i64 slots, .slice ub n cb] gs (w.heap.size + 1) n (dn ++ [(i : Int)] ++ todo) wr (.slice (some ⟨gq2, oq2, none⟩) todo.length cq2) todo) := by
          have := hbq.out.swap hqq.out.1 rfl
          rw [show dn ++ (i : Int) :: todo = dn ++ [(i : Int)] ++ todo by simp] at this
          exact this
        clear hqq hbq TL
        obtain ⟨b, o, y0, y1, y2, y3, y4, rfl, _, hbi, hy, r0, r1, r2, r3, r4, hxx⟩ := Wrd_get (HB.out.stays WrdKeeps BQ3.out.bel) i hic
        obtain ⟨x, hx⟩ : ∃ x : Wrd, (⟨y0, y1, y2, y3, y4⟩ : Wrd) = x := ⟨_, rfl⟩
        have PN := hideP ((nxW_at hic).trans ((congrArg (nxX i) (hy.trans hx)).trans (nxX_parts i x)))
        obtain ⟨gz, hgz⟩ : ∃ gz, goesW x = gz := ⟨_, rfl⟩
        obtain ⟨GP, hGP⟩ : ∃ GP, goPart x = GP := ⟨_, rfl⟩
        have EG : Hid (GP = if gz = true then [y4] else []) := by show _ = _; rw [← hGP, goPart, hgz, ← hx]
        obtain ⟨ob, hob⟩ : ∃ ob, onB x = ob := ⟨_, rfl⟩
        have EO : Hid (ob = (!(y0 == 8) && !(y0 == 10))) := by show _ = _; rw [← hob, ← hx]; rfl
        have GC := hideP (fun W => l13Goes_any y0 y1 y2 y3 y4 W)
        obtain ⟨L, hL⟩ : ∃ L, nxW code i = L := ⟨_, rfl⟩
        rw [hx, hgz] at GC
        rw [hGP, hob, hL] at PN
        have HL := hideP hL
        have hL2 : L.length ≤ 2 := by rw [← hL]; exact nxW_len _ _
        have HLI : Hid (∀ y ∈ L, InR n y) := by rw [← hL]; exact HI2.out i hi
        have hgl : GP.length ≤ 1 := by rw [← hGP]; exact goPart_len x
        have CF : Hid (∀ W', Below wr.heap.size wr W' → W'.cell? ⟨w.heap.size, 3, none⟩ = some (.slice (some ⟨b, o, none⟩) n cb) ∧ W'.cell? ⟨b, o + i * 5, none⟩ = some (.int .i64 y0) ∧ W'.cell? ⟨b, o + i * 5 + 1, none⟩ = some (.int .i64 y1) ∧ W'.cell? ⟨b, o + i * 5 + 2, none⟩ = some (.int .i64 y2) ∧ W'.cell? ⟨b, o + i * 5 + 3, none⟩ = some (.int .i64 y3) ∧ W'.cell? ⟨b, o + i * 5 + 4, none⟩ = some (.int .i64 y4)) := fun W' bel =>
          ⟨(cells_of (keepW BQ3.out.box bel)).1 3, (bel.cell (p := ⟨b, _, none⟩) hbi).trans r0, (bel.cell (p := ⟨b, _, none⟩) hbi).trans r1, (bel.cell (p := ⟨b, _, none⟩) hbi).trans r2, (bel.cell (p := ⟨b, _, none⟩) hbi).trans r3, (bel.cell (p := ⟨b, _, none⟩) hbi).trans r4⟩
        have al := (Below.refl wr.heap.size wr).alloc (Nat.le_refl _) (.cells #[] 3)
        have AL := hideP al
        have OE : Hid (OwnI (wr.alloc (.cells #[] 3)) wr.heap.size (.slice (some ⟨wr.heap.size, 0, none⟩) 0 0) []) := own_lit wr [] #[] wr.heap.size 0 rfl rfl rfl (by simp)
        obtain ⟨c3, d0, d1, d2, d3, d4⟩ := CF.out _ al
        clear hx hy hxx hgz hGP hob hL al r0 r1 r2 r3 r4 hra
        go_wp2_with fail
        refine (GC.out _).mono ?_
        rintro e3 w3 ⟨rfl, b3⟩
        have OE3 := hideP (OE.out.stays b3)
        have B3 := hideP (below_trans AL.out b3)
        clear b3 OE AL c3 d0 d1 d2 d3 d4 GC
        go_upto_if 36 with fail
        go_cut [7] from 22 to 93 (fun q wx => ∃ g2 c2, q = .slice (some ⟨g2, 0, none⟩) GP.length c2 ∧ Hid (OwnI wx wr.heap.size (.slice (some ⟨g2, 0, none⟩) GP.length c2) GP) ∧ Hid (Below wr.heap.size wr wx))
        case first =>
          cases gz
          · have e : GP = [] := by rw [EG.out, if_neg (by simp)]
            subst e
            go_wp2
            go_meet
            exact ⟨_, _, rfl, OE3.out, B3.out⟩
          · have e : GP = [y4] := by rw [EG.out, if_pos rfl]
            subst e
            have al4 := (Below.refl w3.heap.size w3).alloc (Nat.le_refl _) (.cells #[.int .i64 y4] 3)
            obtain ⟨c3, d0, d1, d2, d3, d4⟩ := CF.out _ B3.out
            have OC := hideP (OE3.out.stays al4)
            have OD := hideP (own_lit w3 [y4] #[.int .i64 y4] w3.heap.size 1 rfl rfl rfl (by simp))
            have BC := hideP (below_trans B3.out al4)
            clear al4
            go_wp2_with (at_builtin; refine list_appI _ rfl _ _ rfl wr.heap.size _ [] [y4] w3.heap.size 0 1 1 rfl rfl rfl OC.out OD.out.at (by simp) BC.out.size ?_; intro v6 w6 o6 grow6 loc6)
            replace grow6 : World.grownBy _ w6 (Value.slice (some ⟨wr.heap.size, 0, none⟩) 0 0).ownBlock := grow6
            have B6 := hideP (BC.out.grown grow6 BC.out.size (fun b' hb' => by have := OC.out.low b' hb'; omega))
            have O6 : Hid (OwnI w6 wr.heap.size v6 [y4]) := by show OwnI _ _ _ _; simpa using o6
            clear o6 grow6 loc6
            obtain ⟨g6, c6, rfl, _⟩ := id O6.out
            go_meet
            exact ⟨_, _, rfl, O6.out, B6.out⟩
        case rest =>
        obtain ⟨g2, c2, rfl, hon, hfr⟩ := hcut
        obtain ⟨wn, hwn⟩ : ∃ wn, wn = wc := ⟨_, rfl⟩
        subst hwn
        have ON1 := hideP hon.out
        have FR1 := hideP hfr.out
        clear hon hfr OE3 B3
        go_upto_region 13 with fail
        go_cut [61] from 22 to 93 (fun sx wx => sx = .bool ob ∧ wx = wn)
        case first =>
          obtain ⟨c3, d0, d1, d2, d3, d4⟩ := CF.out _ FR1.out
          by_cases h8 : y0 = 8
          · have e : ob = false := by rw [EO.out, h8]; rfl
            subst h8 e
            go_wp2
            go_meet
            exact ⟨rfl, rfl⟩
          · have g8 : (y0 == 8) = false := by simpa using h8
            by_cases h10 : y0 = 10
            · have e : ob = false := by rw [EO.out, h10]; rfl
              subst h10 e
              go_wp2
              go_meet
              exact ⟨rfl, rfl⟩
            · have g10 : (y0 == 10) = false := by simpa using h10
              have e : ob = true := by rw [EO.out, g8, g10]; rfl
              subst e
              go_wp2
              go_meet
              exact ⟨by simp [h8, h10], rfl⟩
        case rest =>
        obtain ⟨rfl, hwc⟩ := hcut
        obtain rfl := hwc.symm
        clear hwc
        go_upto_if 61 with fail
        go_cut [7] from 22 to 93 (fun q wx => ∃ g2 c2, q = .slice (some ⟨g2, 0, none⟩) L.length c2 ∧ Hid (OwnI wx wr.heap.size (.slice (some ⟨g2, 0, none⟩) L.length c2) L) ∧ Hid (Below wr.heap.size wr wx))
        case first =>
          cases ob
          · have e : L = GP := by rw [PN.out, if_neg (by simp), List.append_nil]
            subst e
            go_wp2
            go_meet
            exact ⟨_, _, rfl, ON1.out, FR1.out⟩
          · have e : L = GP ++ [(i : Int) + 1] := by rw [PN.out, if_pos rfl]
            subst e
            have al4 := (Below.refl wn.heap.size wn).alloc (Nat.le_refl _) (.cells #[.int .i64 ((i : Int) + 1)] 3)
            have OC := hideP (ON1.out.stays al4)
            have OD := hideP (own_lit wn [(i : Int) + 1] #[.int .i64 ((i : Int) + 1)] wn.heap.size 1 rfl rfl rfl (by simp))
            have BC := hideP (below_trans FR1.out al4)
            clear al4
            go_wp2_with (at_builtin; refine list_appI _ rfl _ _ rfl wr.heap.size _ GP [(i : Int) + 1] wn.heap.size 0 1 1 rfl rfl rfl OC.out OD.out.at (by simp; omega) BC.out.size ?_; intro v6 w6 o6 grow6 loc6)
            replace grow6 : World.grownBy _ w6 (Value.slice (some ⟨g2, 0, none⟩) GP.length c2).ownBlock := grow6
            have B6 := hideP (BC.out.grown grow6 BC.out.size (fun b' hb' => by have := OC.out.low b' hb'; omega))
            have O6 := hideP o6
            clear o6 grow6 loc6
            obtain ⟨g6, c6, rfl, _⟩ := id O6.out
            go_meet
            exact ⟨_, _, rfl, O6.out, B6.out⟩
        case rest =>
        obtain ⟨g3, c3, rfl, hon, hfr⟩ := hcut
        obtain ⟨wy, hwy⟩ : ∃ wy, wy = wc := ⟨_, rfl⟩
        subst hwy
        have ON := hideP hon.out
        have FR := hideP hfr.out
        clear hon hfr ON1 FR1 CF EG EO PN
        have BQ4 := hideP (BQ3.out.stays FR.out)
        have G2 := hideP (ON.out.low g3 rfl)
        have N2 := hideP ON.out.is.2.sees
        have hgsz := BQ3.out.s.lt
        obtain ⟨bq', hbq', hbqlo, hbqhi⟩ := BQ3.out.q.low
        obtain rfl : gq2 = bq' := by simpa [Value.ownBlock] using hbq'
        clear BQ3 hbq'
        go_wp2
        go_loopg [5, 8] L.length (fun hk q jj wr2 => ∃ (j : Nat) (td : List Int), hk + j = L.length ∧ jj = .int .i64 j ∧ Hid (BfsWI (nxW code) n dn (i : Int) td j) ∧ Hid (BQW w #[.slice us sizes.length cs, .int .i64 params, .int .i64 slots, .slice (some ⟨b, o, none⟩) n cb] gs (w.heap.size + 1) n (dn ++ [(i : Int)] ++ td) wr2 q td) ∧ Hid (wr2.heap[g3]? = wy.heap[g3]?) ∧ Hid (q.ownBlock ≠ some g3) ∧ Hid (wy.heap.size ≤ wr2.heap.size))
        case atStart => exact ⟨0, todo, by simp, rfl, BI.out, BQ4.out, rfl, by show _ ≠ _; have := G2.out; simp [Value.ownBlock]; omega, Nat.le_refl _⟩
        case round =>
          obtain ⟨j, td, hhk, rfl, hbi2, hb4, hn2, hq2, hz2⟩ := hrel
          clear BQ4 BI
          obtain ⟨gq4, oq4, cq4, cur4, rfl, _⟩ := id hb4.out.q
          by_cases hlt : j < L.length
          · obtain ⟨b', o', he, hc⟩ := N2.out.get j hlt
            cases he
            rw [Nat.zero_add] at hc
            have hz := HLI.out _ (List.getElem_mem hlt)
            obtain ⟨z, hzl⟩ : ∃ z : Nat, L[j] = (z : Int) := ⟨L[j].toNat, by have := hz.1; omega⟩
            rw [hzl] at hc hz
            have hzb : z < n := by have := hz.2; omega
            have hcz : wr.cell? ⟨g3, j, none⟩ = some (.int .i64 (z : Int)) := (World.cell?_of_block (w := wy) (w' := wr) (a := ⟨g3, j, none⟩) hn2.out).trans hc
            obtain ⟨m1, f1⟩ := hb4.out.s.at hzb
            have hpre : nxW code ((i : Int)).toNat = L := by rw [Int.toNat_natCast]; exact HL.out
            have hLj : ∀ (hh : j < (nxW code ((i : Int)).toNat).length), (nxW code ((i : Int)).toNat)[j] = (z : Int) := fun hh => by rw [← hzl]; simp only [hpre]
            have hLn : (nxW code ((i : Int)).toNat).length = L.length := by rw [hpre]
            have hg2lt : g3 < wr.heap.size := by have := G2.out; have := hz2.out; omega
            have hg2s : g3 ≠ gs := by have := G2.out; omega
            have hg2q : g3 ≠ gq4 := fun e => hq2.out (by rw [e]; rfl)
            by_cases hin : (z : Int) ∈ dn ++ [(i : Int)] ++ td
            · rw [show seenF (dn ++ [(i : Int)] ++ td) z = true from decide_eq_true hin] at m1
              have ST := hideP (hbi2.out.there (by omega) (by rw [hLj (by omega)]; exact hin))
              clear hzl hc hz hLj hLn hpre
              go_wp2
              go_roundg (L.length - (j + 1))
              case rel => exact ⟨j + 1, td, by omega, by go_num, ST.out, hb4.out, hn2.out, hq2.out, hz2.out⟩
              case measure => omega
            · rw [show seenF (dn ++ [(i : Int)] ++ td) z = false from decide_eq_false hin] at m1
              have ST : Hid (BfsWI (nxW code) n dn (i : Int) (td ++ [(z : Int)]) (j + 1)) := by
                have := hbi2.out.new (by omega) (by rw [hLj (by omega)]; exact hin) (by rw [hLj (by omega)]; exact hz)
                rw [hLj (by omega)] at this
                exact this
              have htl : td.length ≤ 6000 := by have := hbi2.out.few; unfold Few at this; rw [List.length_append] at this; omega
              clear hzl hc hz hLj hLn hpre
              go_upto_region 20 with fail
              have BM := hb4.out.mark hzb
              have hX2 : (wr.setCell ⟨gs, z, none⟩ (.bool true)).heap[g3]? = wr.heap[g3]? := Below.heap_setCell wr ⟨gs, z, none⟩ _ g3 hg2s
              have hXs : (wr.setCell ⟨gs, z, none⟩ (.bool true)).heap.size = wr.heap.size := size_set _ _ _
              obtain ⟨X1, hX1⟩ : ∃ X1, wr.setCell ⟨gs, z, none⟩ (.bool true) = X1 := ⟨_, rfl⟩
              rw [hX1] at BM hX2 hXs ⊢
              have hcX : X1.cell? ⟨g3, j, none⟩ = some (.int .i64 (z : Int)) := (World.cell?_of_block (w := wr) (w' := X1) (a := ⟨g3, j, none⟩) hX2).trans hcz
              have al := (Below.refl X1.heap.size X1).alloc (Nat.le_refl _) (.cells #[.int .i64 (z : Int)] 3)
              have BM2 := hideP (BM.stays al)
              have hlc : (X1.alloc (.cells #[.int .i64 (z : Int)] 3)).cell? ⟨X1.heap.size, 0, none⟩ = some (.int .i64 (z : Int)) := by rw [World.cell?_alloc_new]; rfl
              have HLC := hideP hlc
              have SC : Hid (w.heap.size + 1 ≤ (X1.alloc (.cells #[.int .i64 (z : Int)] 3)).heap.size) := by have := (BM.q.low).choose_spec; show _ ≤ _; simp; omega
              have HX2 := hideP ((al.block g3 (by omega)).trans (hX2.trans hn2.out))
              have HXS := hideP hXs
              clear BM al hlc hX2 hXs m1 f1 hcz hX1
              go_wp2_with (at_builtin; refine list_appQ _ rfl _ _ rfl (w.heap.size + 1) _ td (z : Int) X1.heap.size 0 1 rfl rfl BM2.out.q HLC.out (by omega) SC.out ?_; intro v6 w6 o6 grow6 loc6)
              replace grow6 : World.grownBy _ w6 (Value.slice (some ⟨gq4, oq4, none⟩) td.length cq4).ownBlock := grow6
              replace loc6 : v6.ownBlock = (Value.slice (some ⟨gq4, oq4, none⟩) td.length cq4).ownBlock ∨ v6.ownBlock = some (X1.alloc (.cells #[.int .i64 (z : Int)] 3)).heap.size := loc6
              have B6 := hideP (BM2.out.push o6 grow6 loc6)
              have H6 := hideP ((grow6.block g3 (by simp; have := HXS.out; omega) (by simp [Value.ownBlock]; exact hg2q)).trans HX2.out)
              have Z6 : Hid (wy.heap.size ≤ w6.heap.size) := by have := grow6.size; have := HXS.out; have := hz2.out; simp at *; show _ ≤ _; omega
              have Q6 : Hid (v6.ownBlock ≠ some g3) := by
                show _ ≠ _
                rcases loc6 with e | e
                · rw [e]; exact hq2.out
                · rw [e]; simp; have := HXS.out; omega
              obtain ⟨g6, oo6, c6, cur6, rfl, _⟩ := id o6
              clear o6 grow6 loc6
              go_wp2
              go_roundg (L.length - (j + 1))
              case rel => exact ⟨j + 1, td ++ [(z : Int)], by omega, by go_num, ST.out, by have := B6.out; rw [List.append_assoc] at this; show BQW _ _ _ _ _ _ _ _ _; simpa using this, H6.out, Q6.out, Z6.out⟩
              case measure => omega
          · have hjn : j = L.length := by omega
            subst hjn
            have BO : Hid (BfsW (nxW code) n (dn ++ [(i : Int)]) td) := by have := hbi2.out; rw [← HL.out] at this; exact BfsWI.out (by rw [Int.toNat_natCast]; exact this)
            go_wp2
            go_roundg (kk - 1)
            case rel => exact ⟨dn ++ [(i : Int)], td, by rw [List.length_append]; simp; omega, BO.out, hb4.out⟩
            case measure => have := HGK.out; omega
end Go.Proofs.Ytfoelnblnfcaiaa
