/- What holds between two rounds of spec.Blocks. -/
import Derived.Test.YtooaoankloocmabOrdPA
import Derived.Test.YtooaoankloocmabOwnA
import Derived.Test.YtooaoankloocmabNxA
import Derived.Test.YtooaoankloocmabAheadP
import Derived.Deep.CutRange
import Derived.Deep.RegionHeld3
import Derived.Deep.LoopGhost
import Derived.WalkMore
namespace Go.Proofs.Ytooaoankloocmab
open Go.ChangeShapes Go.WideShapes Go.ChangeAt Go.RowKit
/-- Block gs tells by 1 and 0 which of n blocks were met. -/
def SeenN (w : World) (gs n : Nat) (met : List Int) : Prop := ∃ cur : Array Value, w.heap[gs]? = some (.cells cur 3 (0, 0)) ∧ n ≤ cur.size ∧ ∀ i, i < n → cur[i]? = some (.int .i64 (if (i : Int) ∈ met then 1 else 0))
theorem SeenN.lt {w : World} {gs n : Nat} {met : List Int} (h : SeenN w gs n met) : gs < w.heap.size := by
  obtain ⟨cur, hh, _⟩ := h; exact (Array.getElem?_eq_some_iff.1 hh).1
theorem SeenN.keep {w w' : World} {gs n : Nat} {met : List Int} (h : SeenN w gs n met) (hk : w'.heap[gs]? = w.heap[gs]?) : SeenN w' gs n met := by
  obtain ⟨cur, hh, hr⟩ := h; exact ⟨cur, hk.trans hh, hr⟩
theorem SeenN.at {w : World} {gs n : Nat} {met : List Int} (h : SeenN w gs n met) {i : Nat} (hi : i < n) : w.cell? ⟨gs, i, none⟩ = some (.int .i64 (if (i : Int) ∈ met then 1 else 0)) ∧ w.frozen? ⟨gs, i, none⟩ = false := by
  obtain ⟨cur, hh, _, hc⟩ := h
  exact ⟨by simp [World.cell?, hh, hc i hi], by simp [World.frozen?, hh]⟩
theorem SeenN.set {w : World} {gs n : Nat} {met : List Int} (h : SeenN w gs n met) {i : Nat} (hi : i < n) : SeenN (w.setCell ⟨gs, i, none⟩ (.int .i64 1)) gs n (met ++ [(i : Int)]) := by
  obtain ⟨cur, hh, hs, hc⟩ := h
  refine ⟨_, heap_setCell_same w gs i cur _ _ hh, by simpa using hs, fun j hj => ?_⟩
  rw [Array.getElem?_setIfInBounds]
  by_cases he : i = j
  · subst he; rw [if_pos rfl, if_pos (by omega)]; simp
  · rw [if_neg he, hc j hj]
    have : ((j : Int) ∈ met ++ [(i : Int)]) ↔ ((j : Int) ∈ met) := by
      rw [List.mem_append, List.mem_singleton]
      exact ⟨fun h => h.resolve_right (by omega), Or.inl⟩
    simp [this]
theorem seenN_zeros {w : World} {B g n cap : Nat} (h : OwnI w B (.slice (some ⟨g, 0, none⟩) n cap) (List.replicate n 0)) : SeenN w g n [] := by
  obtain ⟨g', cap', cur, hv, hB, hh, hc, hm, hs, hx⟩ := h.parts
  simp at hv
  obtain ⟨rfl, rfl⟩ := hv
  rw [List.length_replicate] at hc
  refine ⟨cur, hh, by omega, fun i hi => ?_⟩
  rw [hx i (by simpa using hi)]
  simp
structure BQ (w : World) (G : Array Value) (gs gO n : Nat) (met : List Int) (wr : World) (vq : Value) (todo : List Int) : Prop where
  q : QuI wr (w.heap.size + 1) vq todo
  s : SeenN wr gs n met
  o : OwnI wr (w.heap.size + 1) (.slice (some ⟨gO, 0, none⟩) 0 0) []
  gs0 : w.heap.size + 1 ≤ gs
  qs : vq.ownBlock ≠ some gs
  qo : vq.ownBlock ≠ some gO
  so : gs ≠ gO
  bel : Below w.heap.size w wr
  box : wr.heap[w.heap.size]? = some (.cells G 30 (0, 0))
theorem BQ.stays {w wr w' : World} {G : Array Value} {gs gO n : Nat} {met todo : List Int} {vq : Value} (h : BQ w G gs gO n met wr vq todo) (bel : Below wr.heap.size wr w') : BQ w G gs gO n met w' vq todo :=
  ⟨h.q.stays bel, h.s.keep (bel.block gs h.s.lt), h.o.stays bel, h.gs0, h.qs, h.qo, h.so, below_trans h.bel bel, (bel.block _ (Array.getElem?_eq_some_iff.1 h.box).1).trans h.box⟩
theorem BQ.swap {w wr : World} {G : Array Value} {gs gO n : Nat} {met todo todo' : List Int} {vq vq' : Value} (h : BQ w G gs gO n met wr vq todo) (hq : QuI wr (w.heap.size + 1) vq' todo') (hb : vq'.ownBlock = vq.ownBlock) : BQ w G gs gO n met wr vq' todo' :=
  ⟨hq, h.s, h.o, h.gs0, by rw [hb]; exact h.qs, by rw [hb]; exact h.qo, h.so, h.bel, h.box⟩
theorem BQ.mark {w wr : World} {G : Array Value} {gs gO n : Nat} {met todo : List Int} {vq : Value} (h : BQ w G gs gO n met wr vq todo) {i : Nat} (hi : i < n) : BQ w G gs gO n (met ++ [(i : Int)]) (wr.setCell ⟨gs, i, none⟩ (.int .i64 1)) vq todo := by
  have hb : But gs wr (wr.setCell ⟨gs, i, none⟩ (.int .i64 1)) := (But.refl _ _).set _ _
  have hbx := (Array.getElem?_eq_some_iff.1 h.box).1
  exact ⟨h.q.keep fun g hg => Below.heap_setCell wr ⟨gs, i, none⟩ _ g (fun e => h.qs (by rw [hg]; exact congrArg some e)), h.s.set hi, h.o.butG hb (by simp [Value.ownBlock]; exact fun e => h.so e.symm), h.gs0, h.qs, h.qo, h.so, h.bel.trans (hb.below (by have := h.gs0; omega) h.bel.size), (hb.block _ hbx (by have := h.gs0; omega)).trans h.box⟩
theorem BQ.push {w wr w' : World} {G : Array Value} {gs gO n : Nat} {met todo todo' : List Int} {vq vq' : Value} (h : BQ w G gs gO n met wr vq todo) (hq : QuI w' (w.heap.size + 1) vq' todo') (hg : wr.grownBy w' vq.ownBlock) (hl : vq'.ownBlock = vq.ownBlock ∨ vq'.ownBlock = some wr.heap.size) : BQ w G gs gO n met w' vq' todo' := by
  obtain ⟨b, hb, hb1, hb2⟩ := h.q.low
  have hlo := h.o.low gO rfl
  have hbx := (Array.getElem?_eq_some_iff.1 h.box).1
  have hgs := h.s.lt
  have hbs : b ≠ gs := fun e => h.qs (by rw [hb, e])
  have hbo : b ≠ gO := fun e => h.qo (by rw [hb, e])
  rw [hb] at hg hl
  refine ⟨hq, h.s.keep (hg.block gs hgs (by simp; exact fun e => hbs e.symm)), h.o.kept hg (by simp [Value.ownBlock]; exact fun e => hbo e.symm), h.gs0, ?_, ?_, h.so, h.bel.grown hg h.bel.size (fun b' hb' => by simp at hb'; omega), (hg.block _ hbx (by simp; omega)).trans h.box⟩
  · rcases hl with e | e
    · rw [e]; simpa using hbs
    · rw [e]; simp; omega
  · rcases hl with e | e
    · rw [e]; simpa using hbo
    · rw [e]; simp; omega
end Go.Proofs.Ytooaoankloocmab

/- The contract of spec.l03Zeros. -/
namespace Go.Proofs.Ytooaoankloocmab
open Go.ChangeShapes Go.WideShapes Go.ChangeAt Go.RowKit
set_option maxHeartbeats 1000000 in
theorem zeros_any (n : Nat) (w : World) (hn : n ≤ 1000000) :
    Calls Try.prog 19 #[.int .i64 n] w fun e w' => ∃ v', e = .returned v' ∧ OwnI w' w.heap.size v' (List.replicate n 0) ∧ Below w.heap.size w w' := by
  have O0 := hideP (own_lit w [] #[] w.heap.size 0 rfl rfl rfl (by simp))
  have B0 := hideP ((Below.refl w.heap.size w).alloc (Nat.le_refl _) (.cells #[] 3))
  go_enter Try.func19, Try.ntmps19
  go_wp2
  go_loopw [3, 4] (fun q i wr => ∃ j : Nat, j ≤ n ∧ i = .int .i64 j ∧ Hid (OwnI wr w.heap.size q (List.replicate j 0)) ∧ Hid (Below w.heap.size w wr)) (fun _ i _ => n - (intOf i).toNat)
  case atStart => exact ⟨0, Nat.zero_le _, rfl, O0.out, B0.out⟩
  case round =>
    obtain ⟨j, hj, rfl, ho, hb⟩ := hrel
    by_cases hlt : j < n
    · obtain ⟨g, c, rfl, _⟩ := id ho.out
      have al := (Below.refl wr.heap.size wr).alloc (Nat.le_refl _) (.cells #[.int .i64 0] 3)
      have OC := hideP (ho.out.stays al)
      have OD := hideP (own_lit wr [(0 : Int)] #[.int .i64 0] wr.heap.size 1 rfl rfl rfl (by simp))
      have BC := hideP (hb.out.alloc hb.out.size (.cells #[.int .i64 0] 3))
      have SC := hideP BC.out.size
      have hrl : (List.replicate j (0 : Int)).length = j := List.length_replicate
      clear al O0 B0
      go_wp2_with (at_builtin; refine list_appI _ rfl _ _ rfl w.heap.size _ (List.replicate j 0) [0] wr.heap.size 0 1 1 rfl rfl rfl OC.out OD.out.at (by rw [hrl]; simp; omega) SC.out ?_; intro v6 w6 o6 grow6 loc6)
      have B6 := hideP (BC.out.grown grow6 BC.out.size (fun b' hb' => by have := OC.out.low b' hb'; omega))
      rw [show List.replicate j (0 : Int) ++ [0] = List.replicate (j + 1) 0 by rw [List.replicate_succ']] at o6
      obtain ⟨g6, c6, rfl, _⟩ := id o6
      have O6 := hideP o6
      clear o6 grow6 loc6 hrl
      go_wp2
      go_roundw
      case rel => exact ⟨j + 1, by omega, by go_num, by simpa using O6, B6.out⟩
      case measure => simp [intOf]; omega
    · have hjn : j = n := by omega
      subst hjn
      go_wp2
      go_ret
      exact ⟨_, rfl, ho.out, hb.out⟩
end Go.Proofs.Ytooaoankloocmab

/- The contract of spec.Blocks. -/
namespace Go.Proofs.Ytooaoankloocmab
open Go.ChangeShapes Go.WideShapes Go.ChangeAt Go.RowKit
set_option maxHeartbeats 8000000 in
set_option maxRecDepth 100000 in
theorem spec_blocks (g : Gr) (w : World) (B : Nat) (v : Array Value) (h : GrIs w B v g) (GO : OkIs 18 g) :
    Calls Try.prog 32 #[.agg v] w fun en w' => ∃ v', en = .returned v' ∧ OwnI w' w.heap.size v' (blocksP g) ∧ Below w.heap.size w w' := by
  have hG := hideP h
  have HGO := hideP GO
  clear GO
  obtain ⟨sizes, params, vars, slots, blocks⟩ := g
  obtain ⟨us, cs, ub, cb, rfl, _, _, hb⟩ := h
  simp only at *
  have hm := maxLen_lt
  have hlb := hb.1
  have HB := hideP hb
  clear hb
  obtain ⟨R, hR⟩ : ∃ R, blocksP ⟨sizes, params, vars, slots, blocks⟩ = R := ⟨_, rfl⟩
  rw [hR]
  have HR := hideP hR
  clear hR
  obtain ⟨gok, hgok⟩ : ∃ r, grOk ⟨sizes, params, vars, slots, blocks⟩ = r := ⟨_, rfl⟩
  have GO1 : Hid (∀ W A v, GrIs W A v ⟨sizes, params, vars, slots, blocks⟩ → Calls Try.prog 18 #[.agg v] W fun en w' => en = .returned (.bool gok) ∧ Below W.heap.size W w') := fun W A v hv => hgok ▸ HGO.out W A v hv
  have HK := hideP hgok
  clear hgok HGO
  have Q1 := hideP (two (Below.refl ((w.alloc (.cells #[.slice us sizes.length cs, .int .i64 params, .int .i64 vars, .int .i64 slots, .slice ub blocks.length cb] 30)).alloc (.cells #[] 3)).heap.size _)).1
  have O1 : Hid (OwnI ((w.alloc (.cells #[.slice us sizes.length cs, .int .i64 params, .int .i64 vars, .int .i64 slots, .slice ub blocks.length cb] 30)).alloc (.cells #[] 3)) (w.heap.size + 1) (.slice (some ⟨w.heap.size + 1, 0, none⟩) 0 0) []) := by
    have := own_lit (w.alloc (.cells #[.slice us sizes.length cs, .int .i64 params, .int .i64 vars, .int .i64 slots, .slice ub blocks.length cb] 30)) [] #[] (w.heap.size + 1) 0 (by simp) rfl rfl (by simp)
    show OwnI _ _ _ _
    simpa using this
  have BW := hideP (below2 w (.cells #[.slice us sizes.length cs, .int .i64 params, .int .i64 vars, .int .i64 slots, .slice ub blocks.length cb] 30) (.cells #[] 3))
  cases gok with
  | false =>
    go_enter Try.func32, Try.ntmps32
    go_wp2_with fail
    refine (GO1.out _ B _ (GrKeeps.stays hG.out BW.out)).mono ?_
    rintro e1 w1 ⟨rfl, bel1⟩
    have E : Hid (R = []) := by rw [← HR.out]; exact blocksP_none (by simp [HK.out])
    have OO := hideP ((O1.out.stays bel1).mono (Nat.le_succ _))
    have BB := hideP (below_trans BW.out bel1)
    clear bel1
    go_wp2
    go_ret
    exact ⟨_, rfl, by rw [E.out]; exact OO.out, BB.out⟩
  | true =>
    have hbl := grOk_blocks HK.out
    simp only at hbl
    have HALL := hideP (allIn_of HK.out)
    go_enter Try.func32, Try.ntmps32
    go_wp2_with fail
    refine (GO1.out _ B _ (GrKeeps.stays hG.out BW.out)).mono ?_
    rintro e1 w1 ⟨rfl, bel1⟩
    have BB := hideP (below_trans BW.out bel1)
    have QQ := hideP ((bel1.block w.heap.size (Array.getElem?_eq_some_iff.1 Q1.out).1).trans Q1.out)
    have OO := hideP (O1.out.stays bel1)
    have hz1 : Hid (w.heap.size + 1 < w1.heap.size) := by have := bel1.size; simp at this; show _ < _; omega
    have p4 := (cells_of QQ.out).1 4
    simp at p4
    clear bel1 Q1 O1 BW GO1
    go_wp2_with fail
    refine (zeros_any blocks.length _ (by omega)).mono ?_
    rintro e2 w2 ⟨v2, rfl, o2, bel2⟩
    obtain ⟨gs, c2, rfl, _⟩ := id o2
    rw [List.length_replicate] at o2 ⊢
    have hgs := o2.low gs rfl
    obtain ⟨m0, f0⟩ := (seenN_zeros o2).at (i := 0) (by omega)
    simp only [List.not_mem_nil, if_false] at m0
    have hsz2 := bel2.size
    have IV : Hid (BQ w #[.slice us sizes.length cs, .int .i64 params, .int .i64 vars, .int .i64 slots, .slice ub blocks.length cb] gs (w.heap.size + 1) blocks.length [0] ((w2.setCell ⟨gs, 0, none⟩ (.int .i64 1)).alloc (.cells #[.int .i64 0] 3)) (.slice (some ⟨w2.heap.size, 0, none⟩) 1 1) [0]) := by
      have hz := hz1.out
      have bt : But gs w2 (w2.setCell ⟨gs, 0, none⟩ (.int .i64 1)) := (But.refl _ _).set _ _
      have al := (Below.refl (w2.setCell ⟨gs, 0, none⟩ (.int .i64 1)).heap.size _).alloc (Nat.le_refl _) (.cells #[.int .i64 0] 3)
      have hss := (seenN_zeros o2).set (i := 0) (by omega)
      have hb2 := below_trans BB.out bel2
      have hbx := (bel2.block w.heap.size (by omega)).trans QQ.out
      refine ⟨QuI.of_own ((own_lit (w2.setCell ⟨gs, 0, none⟩ (.int .i64 1)) [0] #[.int .i64 0] w2.heap.size 1 (by rw [size_set]) rfl rfl (by simp)).mono (by rw [size_set]; omega)), hss.keep (al.block gs (by rw [size_set]; exact hgs.2)), ((OO.out.stays bel2).butG bt (by simp [Value.ownBlock]; omega)).stays al, by omega, by simp [Value.ownBlock]; omega, by simp [Value.ownBlock]; omega, by omega, ?_, ?_⟩
      · exact (hb2.trans (bt.below (by omega) hb2.size)).trans (al.mono (by rw [size_set]; exact hb2.size))
      · exact (al.block w.heap.size (by rw [size_set]; omega)).trans ((bt.block w.heap.size (by omega) (by omega)).trans hbx)
    have BS := hideP (bfs_start blocks hbl.1)
    clear o2 bel2 QQ OO p4
    go_wp2
    clear m0 f0
    go_loopg [5] blocks.length (fun gk q wr => ∃ (dn todo : List Int), gk + dn.length = blocks.length ∧ Hid (Bfs blocks dn todo) ∧ Hid (BQ w #[.slice us sizes.length cs, .int .i64 params, .int .i64 vars, .int .i64 slots, .slice ub blocks.length cb] gs (w.heap.size + 1) blocks.length (dn ++ todo) wr q todo))
    case atStart => exact ⟨[], [0], by simp, BS.out, IV.out⟩
    case round =>
      obtain ⟨dn, todo, hgk, hbf, hbq⟩ := hrel
      clear IV BS
      obtain ⟨kk, hkk⟩ : ∃ kk, kk = gk := ⟨_, rfl⟩
      rw [← hkk] at hgk
      have HGK := hideP hkk
      clear hkk
      obtain ⟨gq, oq, cq, cur, rfl, hq1, hq2, hq3, hq4, hq5, hq6⟩ := id hbq.out.q
      cases todo with
      | nil =>
        have MM := hideP (fun y => hbf.out.done y)
        rw [List.append_nil] at hbq
        clear hq1 hq2 hq3 hq4 hq5 hq6 hbf
        go_wp2
        go_loopg [3, 8] blocks.length (fun hk o i wr2 => ∃ j : Nat, hk + j = blocks.length ∧ i = .int .i64 j ∧ Hid (OwnI wr2 (w.heap.size + 1) o (metUp dn j)) ∧ Hid (SeenN wr2 gs blocks.length dn) ∧ Hid (o.ownBlock ≠ some gs) ∧ Hid (Below w.heap.size w wr2) ∧ Hid (w.heap.size + 1 ≤ wr2.heap.size))
        case atStart => exact ⟨0, by simp, rfl, hbq.out.o, hbq.out.s, by show _ ≠ _; simp [Value.ownBlock]; exact fun e => hbq.out.so e.symm, hbq.out.bel, (Array.getElem?_eq_some_iff.1 hbq.out.box).1⟩
        case round =>
          obtain ⟨j, hj, rfl, ho, hs, hne, hbw, hsz⟩ := hrel
          by_cases hlt : j < blocks.length
          · obtain ⟨m1, f1⟩ := hs.out.at hlt
            by_cases hin : (j : Int) ∈ dn
            · rw [if_pos hin] at m1
              have UP : Hid (metUp dn (j + 1) = metUp dn j ++ [(j : Int)]) := if_pos hin
              obtain ⟨g5, c5, rfl, _⟩ := id ho.out
              have hlen := metUp_len dn j
              have al := (Below.refl wr.heap.size wr).alloc (Nat.le_refl _) (.cells #[.int .i64 (j : Int)] 3)
              have OC := hideP (ho.out.stays al)
              have OD := hideP (own_lit wr [(j : Int)] #[.int .i64 (j : Int)] wr.heap.size 1 rfl rfl rfl (by simp))
              have BC := hideP (hbw.out.alloc hbw.out.size (.cells #[.int .i64 (j : Int)] 3))
              have SC : Hid (w.heap.size + 1 ≤ (wr.alloc (.cells #[.int .i64 (j : Int)] 3)).heap.size) := by have := hsz.out; show _ ≤ _; simp; omega
              have SN := hideP (hs.out.keep (al.block gs hs.out.lt))
              have hgl := hs.out.lt
              clear al
              go_wp2_with (at_builtin; refine list_appI _ rfl _ _ rfl (w.heap.size + 1) _ (metUp dn j) [(j : Int)] wr.heap.size 0 1 1 rfl rfl rfl OC.out OD.out.at (by simp; omega) SC.out ?_; intro v6 w6 o6 grow6 loc6)
              replace grow6 : World.grownBy _ w6 (Value.slice (some ⟨g5, 0, none⟩) (metUp dn j).length c5).ownBlock := grow6
              replace loc6 : v6.ownBlock = (Value.slice (some ⟨g5, 0, none⟩) (metUp dn j).length c5).ownBlock ∨ v6.ownBlock = some (wr.alloc (.cells #[.int .i64 (j : Int)] 3)).heap.size := loc6
              have B6 := hideP (BC.out.grown grow6 BC.out.size (fun b' hb' => by have := OC.out.low b' hb'; omega))
              have S6 := hideP (SN.out.keep (grow6.block gs SN.out.lt (fun e => hne.out e.symm)))
              have Z6 : Hid (w.heap.size + 1 ≤ w6.heap.size) := Nat.le_trans SC.out grow6.size
              have N6 : Hid (v6.ownBlock ≠ some gs) := by
                show _ ≠ _
                rcases loc6 with e | e
                · rw [e]; exact hne.out
                · rw [e]; simp; omega
              obtain ⟨g6, c6, rfl, _⟩ := id o6
              have O6 := hideP o6
              clear o6 grow6 loc6
              go_wp2
              go_roundg (blocks.length - (j + 1))
              case rel => exact ⟨j + 1, by omega, by go_num, by rw [UP.out]; simpa using O6, S6.out, N6.out, B6.out, Z6.out⟩
              case measure => omega
            · rw [if_neg hin] at m1
              have UP : Hid (metUp dn (j + 1) = metUp dn j) := if_neg hin
              go_wp2
              go_roundg (blocks.length - (j + 1))
              case rel => exact ⟨j + 1, by omega, by go_num, by rw [UP.out]; exact ho.out, hs.out, hne.out, hbw.out, hsz.out⟩
              case measure => omega
          · have hjn : j = blocks.length := by omega
            subst hjn
            have ER := hideP (blocks_eq HK.out MM.out)
            go_wp2
            go_ret
            exact ⟨_, rfl, by rw [← HR.out, ← ER.out]; exact ho.out.mono (Nat.le_succ _), hbw.out⟩
      | cons a todo =>
        have hra := reach_in HK.out (hbf.out.reach a (by simp))
        simp only at hra
        obtain ⟨i, rfl⟩ : ∃ i : Nat, a = (i : Int) := ⟨a.toNat, by have := hra.1; omega⟩
        have hi : i < blocks.length := by have := hra.2; omega
        have hc0 := hbq.out.q.at 0 (by simp)
        simp only [Nat.add_zero, List.getElem_cons_zero] at hc0
        have hdl : dn.length + 1 + todo.length ≤ blocks.length := by have := hbf.out.few; unfold Few at this; rw [List.length_append, List.length_cons] at this; omega
        have BI := hideP hbf.out.inn
        have hX := hbq.out.box
        obtain ⟨b, o, x0, x1, x2, x3, x4, ux, kx, rfl, _, hbb, hx, q0, q1, q2, q3, q4, hbX⟩ := Blk_get (HB.out.stays BlkKeeps hbq.out.bel) i hi
        have TL := hideP hbq.out.q.tail
        simp only [List.length_cons] at hq3 ⊢
        obtain ⟨k, hkl⟩ : ∃ k, todo.length = k := ⟨_, rfl⟩
        rw [hkl] at hq3 hdl TL ⊢
        have NL : Hid (∀ W', Below wr.heap.size wr W' → Calls Try.prog 43 #[.agg #[.slice ux x0.length kx, .int .i64 x1, .int .i64 x2, .int .i64 x3, .int .i64 x4]] W' fun en w' => ∃ g2 c2, en = .returned (.slice (some ⟨g2, 0, none⟩) (nxt blocks (i : Int)).length c2) ∧ OwnI w' wr.heap.size (.slice (some ⟨g2, 0, none⟩) (nxt blocks (i : Int)).length c2) (nxt blocks (i : Int)) ∧ Below wr.heap.size wr w') := fun W' bel => by
          refine (spec_l05Next _ W' B _ (BlkKeeps.stays hbX bel)).mono ?_
          rintro en w' ⟨v', he, ho, hb'⟩
          have e : nextP ⟨x0, x1, x2, x3, x4⟩ = nxt blocks (i : Int) := by rw [nxt_at hi, hx]
          rw [e] at ho
          obtain ⟨g2, c2, rfl, _⟩ := id ho
          exact ⟨g2, c2, he, ho.mono bel.size, bel.trans (hb'.mono bel.size)⟩
        have SK : Hid (∀ W', Below wr.heap.size wr W' → W'.cell? ⟨w.heap.size, 4, none⟩ = some (.slice (some ⟨b, o, none⟩) blocks.length cb) ∧ W'.cell? ⟨gq, oq, none⟩ = some (.int .i64 (i : Int)) ∧ W'.cell? ⟨b, o + i * 5, none⟩ = some (.slice ux x0.length kx) ∧ W'.cell? ⟨b, o + i * 5 + 1, none⟩ = some (.int .i64 x1) ∧ W'.cell? ⟨b, o + i * 5 + 2, none⟩ = some (.int .i64 x2) ∧ W'.cell? ⟨b, o + i * 5 + 3, none⟩ = some (.int .i64 x3) ∧ W'.cell? ⟨b, o + i * 5 + 4, none⟩ = some (.int .i64 x4)) := fun W' bel =>
          ⟨(cells_of ((bel.block _ (Array.getElem?_eq_some_iff.1 hX).1).trans hX)).1 4, (bel.cell (p := ⟨gq, oq, none⟩) (World.block_lt_of_cell? wr _ hc0)).trans hc0, (bel.cell (p := ⟨b, _, none⟩) hbb).trans q0, (bel.cell (p := ⟨b, _, none⟩) hbb).trans q1, (bel.cell (p := ⟨b, _, none⟩) hbb).trans q2, (bel.cell (p := ⟨b, _, none⟩) hbb).trans q3, (bel.cell (p := ⟨b, _, none⟩) hbb).trans q4⟩
        have HKL := hideP hkl
        clear hX hbX hx q0 q1 q2 q3 q4 hc0 hq1 hq2 hq4 hq5 hq6 hbf hkl
        go_upto_region 8 with fail
        go_region_held3 (fun W' => W'.cell? ⟨w.heap.size, 4, none⟩ = some (.slice (some ⟨b, o, none⟩) blocks.length cb) ∧ W'.cell? ⟨gq, oq, none⟩ = some (.int .i64 (i : Int)) ∧ W'.cell? ⟨b, o + i * 5, none⟩ = some (.slice ux x0.length kx) ∧ W'.cell? ⟨b, o + i * 5 + 1, none⟩ = some (.int .i64 x1) ∧ W'.cell? ⟨b, o + i * 5 + 2, none⟩ = some (.int .i64 x2) ∧ W'.cell? ⟨b, o + i * 5 + 3, none⟩ = some (.int .i64 x3) ∧ W'.cell? ⟨b, o + i * 5 + 4, none⟩ = some (.int .i64 x4)) (first | exact SK.out _ (Below.refl _ _).drew | exact SK.out _ FR.out) (first
          | (go_at_call 43; refine (NL.out _ (Below.refl _ _).drew).mono ?_; rintro yy wy ⟨g2, c2', rfl, on, fn⟩; have ON := hideP on; have FR := hideP fn; clear on fn))
        obtain ⟨L, hL⟩ : ∃ L, nxt blocks (i : Int) = L := ⟨_, rfl⟩
        have hL2 : L.length ≤ 2 := by rw [← hL]; exact nxt_len _ _
        have HIN : Hid (∀ y ∈ L, InR blocks.length y) := by rw [← hL]; exact nxt_in HALL.out _
        rw [hL] at ON ⊢
        have HL := hideP hL
        have BQ2 := hideP (hbq.out.stays FR.out)
        have G2 := hideP (ON.out.low g2 rfl)
        have hgsz := hbq.out.s.lt
        obtain ⟨bq', hbq', hbqlo, hbqhi⟩ := hbq.out.q.low
        obtain rfl : gq = bq' := by simpa [Value.ownBlock] using hbq'
        have QT : Hid (QuI wy (w.heap.size + 1) (.slice (some ⟨gq, oq + 1, none⟩) k (cq - 1)) todo ∧ (cq = 1 → QuI wy (w.heap.size + 1) (.slice (some ⟨gq, oq, none⟩) k (cq - 1)) todo)) := ⟨TL.out.1.stays FR.out, fun e => (TL.out.2 e).stays FR.out⟩
        have i1 : (1 : Int) ≤ ((k + 1 : Nat) : Int) := by omega
        have i2 : ((k + 1 : Nat) : Int) ≤ (cq : Int) := by omega
        clear hL TL hbq hbq' SK NL
        go_upto_region 9 with fail
        go_cut [5] from 21 to 60 (fun q wx => wx = wy ∧ Hid (QuI wy (w.heap.size + 1) q todo ∧ q.ownBlock = some gq))
        case first =>
          by_cases hc1 : cq = 1
          · have QT2 : Hid (QuI wy (w.heap.size + 1) (.slice (some ⟨gq, oq, none⟩) k 0) todo) := by have := QT.out.2 hc1; rw [hc1] at this; exact this
            go_wp2
            go_meet
            exact ⟨rfl, QT2.out, rfl⟩
          · go_wp2
            go_meet
            exact ⟨rfl, QT.out.1, rfl⟩
        case rest =>
        obtain ⟨hwc, hqq⟩ := hcut
        have hwc' := hwc.symm
        subst hwc'
        clear hwc
        obtain ⟨gq2, oq2, cq2, cur2, rfl, _⟩ := id hqq.out.1
        obtain rfl : gq2 = gq := by have := hqq.out.2; simpa [Value.ownBlock] using this
        have BQ3 : Hid (BQ w #[.slice us sizes.length cs, .int .i64 params, .int .i64 vars, .int .i64 slots, .slice (some ⟨b, o, none⟩) blocks.length cb] gs (w.heap.size + 1) blocks.length (dn ++ [(i : Int)] ++ todo) wy (.slice (some ⟨gq2, oq2, none⟩) todo.length cq2) todo) := by
          have := BQ2.out.swap hqq.out.1 rfl
          rw [show dn ++ (i : Int) :: todo = dn ++ [(i : Int)] ++ todo by simp] at this
          exact this
        have N2 := hideP ON.out.is.2.sees
        clear BQ2 hqq QT
        go_wp2
        go_loopg [5, 7] L.length (fun hk q jj wr2 => ∃ (j : Nat) (td : List Int), hk + j = L.length ∧ jj = .int .i64 j ∧ Hid (BfsIn blocks dn (i : Int) td j) ∧ Hid (BQ w #[.slice us sizes.length cs, .int .i64 params, .int .i64 vars, .int .i64 slots, .slice (some ⟨b, o, none⟩) blocks.length cb] gs (w.heap.size + 1) blocks.length (dn ++ [(i : Int)] ++ td) wr2 q td) ∧ Hid (wr2.heap[g2]? = wy.heap[g2]?) ∧ Hid (q.ownBlock ≠ some g2) ∧ Hid (wy.heap.size ≤ wr2.heap.size))
        case atStart => exact ⟨0, todo, by simp, rfl, BI.out, BQ3.out, rfl, by show _ ≠ _; have := G2.out; simp [Value.ownBlock]; omega, Nat.le_refl _⟩
        case round =>
          obtain ⟨j, td, hhk, rfl, hbi, hb4, hn2, hq2, hz2⟩ := hrel
          clear BQ3 BI
          by_cases hlt : j < L.length
          · obtain ⟨b', o', he, hc⟩ := N2.out.get j hlt
            cases he
            rw [Nat.zero_add] at hc
            have hz := HIN.out _ (List.getElem_mem hlt)
            obtain ⟨z, hzl⟩ : ∃ z : Nat, L[j] = (z : Int) := ⟨L[j].toNat, by have := hz.1; omega⟩
            rw [hzl] at hc hz
            have hzb : z < blocks.length := by have := hz.2; omega
            have hcz : wr.cell? ⟨g2, j, none⟩ = some (.int .i64 (z : Int)) := (World.cell?_of_block (w := wy) (w' := wr) (a := ⟨g2, j, none⟩) hn2.out).trans hc
            obtain ⟨m1, f1⟩ := hb4.out.s.at hzb
            have hLn : (nxt blocks (i : Int)).length = L.length := by rw [HL.out]
            have hLj : ∀ (hh : j < (nxt blocks (i : Int)).length), (nxt blocks (i : Int))[j] = (z : Int) := fun hh => by rw [← hzl]; simp only [HL.out]
            obtain ⟨gq4, oq4, cq4, cur4, rfl, _⟩ := id hb4.out.q
            have hg2lt : g2 < wr.heap.size := by have := G2.out; have := hz2.out; omega
            have hg2s : g2 ≠ gs := by have := G2.out; omega
            have hg2q : g2 ≠ gq4 := fun e => hq2.out (by rw [e]; rfl)
            by_cases hin : (z : Int) ∈ dn ++ [(i : Int)] ++ td
            · rw [if_pos hin] at m1
              have ST := hideP (hbi.out.there (by omega) (by rw [hLj (by omega)]; exact hin))
              clear hzl hc hz hLj hLn
              go_wp2
              go_roundg (L.length - (j + 1))
              case rel => exact ⟨j + 1, td, by omega, by go_num, ST.out, hb4.out, hn2.out, hq2.out, hz2.out⟩
              case measure => omega
            · rw [if_neg hin] at m1
              have ST : Hid (BfsIn blocks dn (i : Int) (td ++ [(z : Int)]) (j + 1)) := by
                have := hbi.out.new (by omega) (by rw [hLj (by omega)]; exact hin) (by rw [hLj (by omega)]; exact hz)
                rw [hLj (by omega)] at this
                exact this
              have htl : td.length ≤ 300 := by have := hbi.out.few; unfold Few at this; rw [List.length_append] at this; omega
              clear hzl hc hz hLj hLn
              go_upto_region 15 with fail
              have BM := hb4.out.mark hzb
              have hX2 : (wr.setCell ⟨gs, z, none⟩ (.int .i64 1)).heap[g2]? = wr.heap[g2]? := Below.heap_setCell wr ⟨gs, z, none⟩ _ g2 hg2s
              have hXs : (wr.setCell ⟨gs, z, none⟩ (.int .i64 1)).heap.size = wr.heap.size := size_set _ _ _
              obtain ⟨X1, hX1⟩ : ∃ X1, wr.setCell ⟨gs, z, none⟩ (.int .i64 1) = X1 := ⟨_, rfl⟩
              rw [hX1] at BM hX2 hXs ⊢
              have hcX : X1.cell? ⟨g2, j, none⟩ = some (.int .i64 (z : Int)) := (World.cell?_of_block (w := wr) (w' := X1) (a := ⟨g2, j, none⟩) hX2).trans hcz
              have al := (Below.refl X1.heap.size X1).alloc (Nat.le_refl _) (.cells #[.int .i64 (z : Int)] 3)
              have BM2 := hideP (BM.stays al)
              have hlc : (X1.alloc (.cells #[.int .i64 (z : Int)] 3)).cell? ⟨X1.heap.size, 0, none⟩ = some (.int .i64 (z : Int)) := by rw [World.cell?_alloc_new]; rfl
              have HLC := hideP hlc
              have SC : Hid (w.heap.size + 1 ≤ (X1.alloc (.cells #[.int .i64 (z : Int)] 3)).heap.size) := by have := (BM.q.low).choose_spec; show _ ≤ _; simp; omega
              have HX2 := hideP ((al.block g2 (by omega)).trans (hX2.trans hn2.out))
              have HXS := hideP hXs
              clear BM al hlc hX2 hXs m1 f1 hcz hX1
              go_wp2_with (at_builtin; refine list_appQ _ rfl _ _ rfl (w.heap.size + 1) _ td (z : Int) X1.heap.size 0 1 rfl rfl BM2.out.q HLC.out (by omega) SC.out ?_; intro v6 w6 o6 grow6 loc6)
              replace grow6 : World.grownBy _ w6 (Value.slice (some ⟨gq4, oq4, none⟩) td.length cq4).ownBlock := grow6
              replace loc6 : v6.ownBlock = (Value.slice (some ⟨gq4, oq4, none⟩) td.length cq4).ownBlock ∨ v6.ownBlock = some (X1.alloc (.cells #[.int .i64 (z : Int)] 3)).heap.size := loc6
              have B6 := hideP (BM2.out.push o6 grow6 loc6)
              have H6 := hideP ((grow6.block g2 (by simp; have := HXS.out; omega) (by simp [Value.ownBlock]; exact hg2q)).trans HX2.out)
              have Z6 : Hid (wy.heap.size ≤ w6.heap.size) := by have := grow6.size; have := HXS.out; have := hz2.out; simp at *; show _ ≤ _; omega
              have Q6 : Hid (v6.ownBlock ≠ some g2) := by
                show _ ≠ _
                rcases loc6 with e | e
                · rw [e]; exact hq2.out
                · rw [e]; simp; have := HXS.out; omega
              obtain ⟨g6, oo6, c6, cur6, rfl, _⟩ := id o6
              clear o6 grow6 loc6
              go_wp2
              go_roundg (L.length - (j + 1))
              case rel => exact ⟨j + 1, td ++ [(z : Int)], by omega, by go_num, ST.out, by have := B6.out; rw [List.append_assoc] at this; show BQ _ _ _ _ _ _ _ _ _; simpa using this, H6.out, Q6.out, Z6.out⟩
              case measure => omega
          · have hjn : j = L.length := by omega
            subst hjn
            have BO : Hid (Bfs blocks (dn ++ [(i : Int)]) td) := by have := hbi.out; rw [← HL.out] at this; exact this.out
            go_wp2
            go_roundg (kk - 1)
            case rel => exact ⟨dn ++ [(i : Int)], td, by rw [List.length_append]; simp; omega, BO.out, hb4.out⟩
            case measure => have := HGK.out; omega
end Go.Proofs.Ytooaoankloocmab

/- The contract of spec.l10Spread (written by wip/mksprs.py). -/
namespace Go.Proofs.Ytooaoankloocmab
open Go.ChangeShapes Go.WideShapes Go.ChangeAt Go.RowKit
/-- Block gs tells which of n blocks were met. -/
def SeenB (w : World) (gs n : Nat) (met : List Int) : Prop := ∃ cur : Array Value, w.heap[gs]? = some (.cells cur 4 (0, 0)) ∧ n ≤ cur.size ∧ ∀ i, i < n → cur[i]? = some (.bool (decide ((i : Int) ∈ met)))
theorem SeenB.lt {w : World} {gs n : Nat} {met : List Int} (h : SeenB w gs n met) : gs < w.heap.size := by
  obtain ⟨cur, hh, _⟩ := h; exact (Array.getElem?_eq_some_iff.1 hh).1
theorem SeenB.keep {w w' : World} {gs n : Nat} {met : List Int} (h : SeenB w gs n met) (hk : w'.heap[gs]? = w.heap[gs]?) : SeenB w' gs n met := by
  obtain ⟨cur, hh, hr⟩ := h; exact ⟨cur, hk.trans hh, hr⟩
theorem SeenB.at {w : World} {gs n : Nat} {met : List Int} (h : SeenB w gs n met) {i : Nat} (hi : i < n) : w.cell? ⟨gs, i, none⟩ = some (.bool (decide ((i : Int) ∈ met))) ∧ w.frozen? ⟨gs, i, none⟩ = false := by
  obtain ⟨cur, hh, _, hc⟩ := h
  exact ⟨by simp [World.cell?, hh, hc i hi], by simp [World.frozen?, hh]⟩
theorem SeenB.set {w : World} {gs n : Nat} {met : List Int} (h : SeenB w gs n met) {i : Nat} (hi : i < n) : SeenB (w.setCell ⟨gs, i, none⟩ (.bool true)) gs n (met ++ [(i : Int)]) := by
  obtain ⟨cur, hh, hs, hc⟩ := h
  refine ⟨_, heap_setCell_same w gs i cur _ _ hh, by simpa using hs, fun j hj => ?_⟩
  rw [Array.getElem?_setIfInBounds]
  by_cases he : i = j
  · subst he; rw [if_pos rfl, if_pos (by omega)]; simp
  · rw [if_neg he, hc j hj]
    have : ((j : Int) ∈ met ++ [(i : Int)]) ↔ ((j : Int) ∈ met) := by
      rw [List.mem_append, List.mem_singleton]
      exact ⟨fun h => h.resolve_right (by omega), Or.inl⟩
    simp [this]
/-- What holds between two rounds: w0 the world in which the graph lay, w the one at the call. -/
structure BR (w0 w : World) (G : Array Value) (gs n : Nat) (met : List Int) (wr : World) (vq : Value) (todo : List Int) : Prop where
  q : QuI wr (w.heap.size + 1) vq todo
  s : SeenB wr gs n met
  gs0 : w0.heap.size ≤ gs
  gs1 : gs < w.heap.size
  but : But gs w wr
  bel : Below w0.heap.size w0 wr
  box : wr.heap[w.heap.size]? = some (.cells G 30 (0, 0))
theorem BR.qs {w0 w wr : World} {G : Array Value} {gs n : Nat} {met todo : List Int} {vq : Value} (h : BR w0 w G gs n met wr vq todo) : vq.ownBlock ≠ some gs := by
  obtain ⟨b, hb, hb1, _⟩ := h.q.low
  have := h.gs1
  rw [hb]; simp; omega
theorem BR.stays {w0 w wr w' : World} {G : Array Value} {gs n : Nat} {met todo : List Int} {vq : Value} (h : BR w0 w G gs n met wr vq todo) (bel : Below wr.heap.size wr w') : BR w0 w G gs n met w' vq todo :=
  ⟨h.q.stays bel, h.s.keep (bel.block gs h.s.lt), h.gs0, h.gs1, h.but.on bel, below_trans h.bel bel, (bel.block _ (Array.getElem?_eq_some_iff.1 h.box).1).trans h.box⟩
theorem BR.swap {w0 w wr : World} {G : Array Value} {gs n : Nat} {met todo todo' : List Int} {vq vq' : Value} (h : BR w0 w G gs n met wr vq todo) (hq : QuI wr (w.heap.size + 1) vq' todo') : BR w0 w G gs n met wr vq' todo' :=
  ⟨hq, h.s, h.gs0, h.gs1, h.but, h.bel, h.box⟩
theorem BR.mark {w0 w wr : World} {G : Array Value} {gs n : Nat} {met todo : List Int} {vq : Value} (h : BR w0 w G gs n met wr vq todo) {i : Nat} (hi : i < n) : BR w0 w G gs n (met ++ [(i : Int)]) (wr.setCell ⟨gs, i, none⟩ (.bool true)) vq todo := by
  have hb : But gs wr (wr.setCell ⟨gs, i, none⟩ (.bool true)) := (But.refl _ _).set _ _
  have hbx := (Array.getElem?_eq_some_iff.1 h.box).1
  have hne := h.gs1
  exact ⟨h.q.keep fun g hg => Below.heap_setCell wr ⟨gs, i, none⟩ _ g (fun e => h.qs (by rw [hg]; exact congrArg some e)), h.s.set hi, h.gs0, h.gs1, h.but.set i _, h.bel.trans (hb.below h.gs0 h.bel.size), (hb.block _ hbx (by omega)).trans h.box⟩
theorem BR.push {w0 w wr w' : World} {G : Array Value} {gs n : Nat} {met todo todo' : List Int} {vq vq' : Value} (h : BR w0 w G gs n met wr vq todo) (hq : QuI w' (w.heap.size + 1) vq' todo') (hg : wr.grownBy w' vq.ownBlock) : BR w0 w G gs n met w' vq' todo' := by
  obtain ⟨b, hb, hb1, hb2⟩ := h.q.low
  have hbx := (Array.getElem?_eq_some_iff.1 h.box).1
  have hgs := h.s.lt
  have h1 := h.gs1
  have h0 := h.gs0
  have hbl := h.bel.size
  rw [hb] at hg
  refine ⟨hq, h.s.keep (hg.block gs hgs (by simp; omega)), h.gs0, h.gs1, ⟨hg.os.trans h.but.os, hg.tape.trans h.but.tape, hg.output.trans h.but.output, Nat.le_trans h.but.size hg.size, fun k hk hne => (hg.block k (Nat.lt_of_lt_of_le hk h.but.size) (by simp; omega)).trans (h.but.block k hk hne)⟩, h.bel.grown hg h.bel.size (fun b' hb' => by simp at hb'; omega), (hg.block _ hbx (by simp; omega)).trans h.box⟩
set_option maxHeartbeats 8000000 in
set_option maxRecDepth 100000 in
theorem spec_spread (g : Gr) (w0 w : World) (B : Nat) (v : Array Value) (h : GrIs w0 B v g) (ok : grOk g = true) (hw0 : Below w0.heap.size w0 w) (a : Nat) (wo : Int) (gs cp : Nat) (ha : a < g.blocks.length) (hgs : w0.heap.size ≤ gs) (hs : SeenB w gs g.blocks.length []) :
    Calls Try.prog 56 #[.agg v, .int .i64 (a : Int), .int .i64 wo, .slice (some ⟨gs, 0, none⟩) g.blocks.length cp] w fun en w' => ∃ met, en = .returned (.tuple #[]) ∧ SeenB w' gs g.blocks.length met ∧ (∀ y, y ∈ met ↔ ReaW g.blocks a wo y) ∧ But gs w w' := by
  obtain ⟨sizes, params, vars, slots, blocks⟩ := g
  obtain ⟨us, cs, ub, cb, rfl, _, _, hb⟩ := h
  simp only at *
  have hm := maxLen_lt
  have hlb := hb.1
  have HB := hideP hb
  have hbl := grOk_blocks ok
  simp only at hbl
  have HALL := hideP (allIn_of ok)
  have BS := hideP (bfsW_start (xs := blocks) wo (a := (a : Int)) ⟨by omega, by omega⟩)
  have hgl := hs.lt
  have W0 := hideP hw0
  have HS := hideP hs
  have HRI : Hid (∀ y, ReaW blocks (a : Int) wo y → InR blocks.length y) := fun y hy => reaW_in (xs := blocks) ⟨by omega, by omega⟩ (fun b => nxt_in HALL.out b) hy
  obtain ⟨m0, f0⟩ := hs.at (i := a) ha
  simp only [List.not_mem_nil, decide_false] at m0
  have IV : Hid (BR w0 w #[.slice us sizes.length cs, .int .i64 params, .int .i64 vars, .int .i64 slots, .slice ub blocks.length cb] gs blocks.length ([] ++ [(a : Int)]) (((w.setCell ⟨gs, a, none⟩ (.bool true)).alloc (.cells #[.slice us sizes.length cs, .int .i64 params, .int .i64 vars, .int .i64 slots, .slice ub blocks.length cb] 30)).alloc (.cells #[.int .i64 (a : Int)] 3)) (.slice (some ⟨w.heap.size + 1, 0, none⟩) 1 1) [(a : Int)]) := by
    have e1 : (w.setCell ⟨gs, a, none⟩ (.bool true)).heap.size = w.heap.size := size_set _ _ _
    have bt : But gs w (w.setCell ⟨gs, a, none⟩ (.bool true)) := (But.refl _ _).set _ _
    have ss := HS.out.set ha
    obtain ⟨W1, hW1⟩ : ∃ W1, w.setCell ⟨gs, a, none⟩ (.bool true) = W1 := ⟨_, rfl⟩
    rw [hW1] at e1 bt ss ⊢
    have al := below2 W1 (.cells #[.slice us sizes.length cs, .int .i64 params, .int .i64 vars, .int .i64 slots, .slice ub blocks.length cb] 30) (.cells #[.int .i64 (a : Int)] 3)
    have tw := (two (w := W1) (o1 := .cells #[.slice us sizes.length cs, .int .i64 params, .int .i64 vars, .int .i64 slots, .slice ub blocks.length cb] 30) (o2 := .cells #[.int .i64 (a : Int)] 3) (Below.refl _ _)).1
    have ow := own_lit (W1.alloc (.cells #[.slice us sizes.length cs, .int .i64 params, .int .i64 vars, .int .i64 slots, .slice ub blocks.length cb] 30)) [(a : Int)] #[.int .i64 (a : Int)] (W1.heap.size + 1) 1 (by simp) rfl rfl (by simp)
    have q0 : QuI ((W1.alloc (.cells #[.slice us sizes.length cs, .int .i64 params, .int .i64 vars, .int .i64 slots, .slice ub blocks.length cb] 30)).alloc (.cells #[.int .i64 (a : Int)] 3)) (W1.heap.size + 1) (.slice (some ⟨W1.heap.size + 1, 0, none⟩) 1 1) [(a : Int)] := QuI.of_own (by simpa using ow)
    rw [e1] at q0 tw
    have hz := W0.out.size
    exact ⟨q0, ss.keep (al.block gs (by omega)), hgs, hgl, bt.on al, below_trans (W0.out.trans (bt.below hgs hz)) al, tw⟩
  clear hs hw0 hb HS W0
  go_enter Try.func56, Try.ntmps56
  go_wp2
  clear m0 f0
  go_loopg [8] blocks.length (fun gk q wr => ∃ (dn todo : List Int), gk + dn.length = blocks.length ∧ Hid (BfsW blocks (a : Int) wo dn todo) ∧ Hid (BR w0 w #[.slice us sizes.length cs, .int .i64 params, .int .i64 vars, .int .i64 slots, .slice ub blocks.length cb] gs blocks.length (dn ++ todo) wr q todo))
  case atStart => exact ⟨[], [(a : Int)], by simp, BS.out, IV.out⟩
  case round =>
    obtain ⟨dn, todo, hgk, hbf, hbq⟩ := hrel
    clear IV BS
    obtain ⟨kk, hkk⟩ : ∃ kk, kk = gk := ⟨_, rfl⟩
    rw [← hkk] at hgk
    have HGK := hideP hkk
    clear hkk
    obtain ⟨gq, oq, cq, cur, rfl, hq1, hq2, hq3, hq4, hq5, hq6⟩ := id hbq.out.q
    cases todo with
    | nil =>
      have MM := hideP (fun y => hbf.out.done y)
      rw [List.append_nil] at hbq
      clear hq1 hq2 hq3 hq4 hq5 hq6 hbf
      go_wp2
      go_end0
      exact ⟨dn, rfl, hbq.out.s, MM.out, hbq.out.but⟩
    | cons c todo =>
      have hra := HRI.out c (hbf.out.reach c (by simp))
      obtain ⟨i, rfl⟩ : ∃ i : Nat, c = (i : Int) := ⟨c.toNat, by have := hra.1; omega⟩
      have hi : i < blocks.length := by have := hra.2; omega
      have hc0 := hbq.out.q.at 0 (by simp)
      simp only [Nat.add_zero, List.getElem_cons_zero] at hc0
      have hdl : dn.length + 1 + todo.length ≤ blocks.length := by have := hbf.out.few; unfold Few at this; rw [List.length_append, List.length_cons] at this; omega
      have BI := hideP hbf.out.inn
      have hX := hbq.out.box
      obtain ⟨b, o, x0, x1, x2, x3, x4, ux, kx, rfl, _, hbb, hx, q0, q1, q2, q3, q4, hbX⟩ := Blk_get (HB.out.stays BlkKeeps hbq.out.bel) i hi
      have TL := hideP hbq.out.q.tail
      simp only [List.length_cons] at hq3 ⊢
      obtain ⟨k, hkl⟩ : ∃ k, todo.length = k := ⟨_, rfl⟩
      rw [hkl] at hq3 hdl TL ⊢
      have NL : Hid (∀ W', Below wr.heap.size wr W' → Calls Try.prog 43 #[.agg #[.slice ux x0.length kx, .int .i64 x1, .int .i64 x2, .int .i64 x3, .int .i64 x4]] W' fun en w' => ∃ g2 c2, en = .returned (.slice (some ⟨g2, 0, none⟩) (nxt blocks (i : Int)).length c2) ∧ OwnI w' wr.heap.size (.slice (some ⟨g2, 0, none⟩) (nxt blocks (i : Int)).length c2) (nxt blocks (i : Int)) ∧ Below wr.heap.size wr w') := fun W' bel => by
        refine (spec_l05Next _ W' B _ (BlkKeeps.stays hbX bel)).mono ?_
        rintro en w' ⟨v', he, ho, hb'⟩
        have e : nextP ⟨x0, x1, x2, x3, x4⟩ = nxt blocks (i : Int) := by rw [nxt_at hi, hx]
        rw [e] at ho
        obtain ⟨g2, c2, rfl, _⟩ := id ho
        exact ⟨g2, c2, he, ho.mono bel.size, bel.trans (hb'.mono bel.size)⟩
      have SK : Hid (∀ W', Below wr.heap.size wr W' → W'.cell? ⟨w.heap.size, 4, none⟩ = some (.slice (some ⟨b, o, none⟩) blocks.length cb) ∧ W'.cell? ⟨gq, oq, none⟩ = some (.int .i64 (i : Int)) ∧ W'.cell? ⟨b, o + i * 5, none⟩ = some (.slice ux x0.length kx) ∧ W'.cell? ⟨b, o + i * 5 + 1, none⟩ = some (.int .i64 x1) ∧ W'.cell? ⟨b, o + i * 5 + 2, none⟩ = some (.int .i64 x2) ∧ W'.cell? ⟨b, o + i * 5 + 3, none⟩ = some (.int .i64 x3) ∧ W'.cell? ⟨b, o + i * 5 + 4, none⟩ = some (.int .i64 x4)) := fun W' bel =>
        ⟨(cells_of ((bel.block _ (Array.getElem?_eq_some_iff.1 hX).1).trans hX)).1 4, (bel.cell (p := ⟨gq, oq, none⟩) (World.block_lt_of_cell? wr _ hc0)).trans hc0, (bel.cell (p := ⟨b, _, none⟩) hbb).trans q0, (bel.cell (p := ⟨b, _, none⟩) hbb).trans q1, (bel.cell (p := ⟨b, _, none⟩) hbb).trans q2, (bel.cell (p := ⟨b, _, none⟩) hbb).trans q3, (bel.cell (p := ⟨b, _, none⟩) hbb).trans q4⟩
      have HKL := hideP hkl
      clear hX hbX hx q0 q1 q2 q3 q4 hc0 hq1 hq2 hq4 hq5 hq6 hbf hkl
      go_upto_region 4 with fail
      go_region_held3 (fun W' => W'.cell? ⟨w.heap.size, 4, none⟩ = some (.slice (some ⟨b, o, none⟩) blocks.length cb) ∧ W'.cell? ⟨gq, oq, none⟩ = some (.int .i64 (i : Int)) ∧ W'.cell? ⟨b, o + i * 5, none⟩ = some (.slice ux x0.length kx) ∧ W'.cell? ⟨b, o + i * 5 + 1, none⟩ = some (.int .i64 x1) ∧ W'.cell? ⟨b, o + i * 5 + 2, none⟩ = some (.int .i64 x2) ∧ W'.cell? ⟨b, o + i * 5 + 3, none⟩ = some (.int .i64 x3) ∧ W'.cell? ⟨b, o + i * 5 + 4, none⟩ = some (.int .i64 x4)) (first | exact SK.out _ (Below.refl _ _).drew | exact SK.out _ FR.out) (first
        | (go_at_call 43; refine (NL.out _ (Below.refl _ _).drew).mono ?_; rintro yy wy ⟨g2, c2', rfl, on, fn⟩; have ON := hideP on; have FR := hideP fn; clear on fn))
      obtain ⟨L, hL⟩ : ∃ L, nxt blocks (i : Int) = L := ⟨_, rfl⟩
      have hL2 : L.length ≤ 2 := by rw [← hL]; exact nxt_len _ _
      have HIN : Hid (∀ y ∈ L, InR blocks.length y) := by rw [← hL]; exact nxt_in HALL.out _
      rw [hL] at ON ⊢
      have HL := hideP hL
      have BQ2 := hideP (hbq.out.stays FR.out)
      have G2 := hideP (ON.out.low g2 rfl)
      have hgsz := hbq.out.s.lt
      obtain ⟨bq', hbq', hbqlo, hbqhi⟩ := hbq.out.q.low
      obtain rfl : gq = bq' := by simpa [Value.ownBlock] using hbq'
      have QT : Hid (QuI wy (w.heap.size + 1) (.slice (some ⟨gq, oq + 1, none⟩) k (cq - 1)) todo ∧ (cq = 1 → QuI wy (w.heap.size + 1) (.slice (some ⟨gq, oq, none⟩) k (cq - 1)) todo)) := ⟨TL.out.1.stays FR.out, fun e => (TL.out.2 e).stays FR.out⟩
      have i1 : (1 : Int) ≤ ((k + 1 : Nat) : Int) := by omega
      have i2 : ((k + 1 : Nat) : Int) ≤ (cq : Int) := by omega
      clear hL TL hbq hbq' SK NL
      go_upto_region 5 with fail
      go_cut [8] from 16 to 63 (fun q wx => wx = wy ∧ Hid (QuI wy (w.heap.size + 1) q todo ∧ q.ownBlock = some gq))
      case first =>
        by_cases hc1 : cq = 1
        · have QT2 : Hid (QuI wy (w.heap.size + 1) (.slice (some ⟨gq, oq, none⟩) k 0) todo) := by have := QT.out.2 hc1; rw [hc1] at this; exact this
          go_wp2
          go_meet
          exact ⟨rfl, QT2.out, rfl⟩
        · go_wp2
          go_meet
          exact ⟨rfl, QT.out.1, rfl⟩
      case rest =>
      obtain ⟨hwc, hqq⟩ := hcut
      have hwc' := hwc.symm
      subst hwc'
      clear hwc
      obtain ⟨gq2, oq2, cq2, cur2, rfl, _⟩ := id hqq.out.1
      obtain rfl : gq2 = gq := by have := hqq.out.2; simpa [Value.ownBlock] using this
      have BQ3 : Hid (BR w0 w #[.slice us sizes.length cs, .int .i64 params, .int .i64 vars, .int .i64 slots, .slice (some ⟨b, o, none⟩) blocks.length cb] gs blocks.length (dn ++ [(i : Int)] ++ todo) wy (.slice (some ⟨gq2, oq2, none⟩) todo.length cq2) todo) := by
        have := BQ2.out.swap hqq.out.1
        rw [show dn ++ (i : Int) :: todo = dn ++ [(i : Int)] ++ todo by simp] at this
        exact this
      have N2 := hideP ON.out.is.2.sees
      clear BQ2 hqq QT
      go_wp2
      go_loopg [8, 10] L.length (fun hk q jj wr2 => ∃ (j : Nat) (td : List Int), hk + j = L.length ∧ jj = .int .i64 j ∧ Hid (BfsV blocks (a : Int) wo dn (i : Int) td j) ∧ Hid (BR w0 w #[.slice us sizes.length cs, .int .i64 params, .int .i64 vars, .int .i64 slots, .slice (some ⟨b, o, none⟩) blocks.length cb] gs blocks.length (dn ++ [(i : Int)] ++ td) wr2 q td) ∧ Hid (wr2.heap[g2]? = wy.heap[g2]?) ∧ Hid (q.ownBlock ≠ some g2) ∧ Hid (wy.heap.size ≤ wr2.heap.size))
      case atStart => exact ⟨0, todo, by simp, rfl, BI.out, BQ3.out, rfl, by show _ ≠ _; have := G2.out; simp [Value.ownBlock]; omega, Nat.le_refl _⟩
      case round =>
        obtain ⟨j, td, hhk, rfl, hbi, hb4, hn2, hq2, hz2⟩ := hrel
        clear BQ3 BI
        by_cases hlt : j < L.length
        · obtain ⟨b', o', he, hc⟩ := N2.out.get j hlt
          cases he
          rw [Nat.zero_add] at hc
          have hz := HIN.out _ (List.getElem_mem hlt)
          obtain ⟨z, hzl⟩ : ∃ z : Nat, L[j] = (z : Int) := ⟨L[j].toNat, by have := hz.1; omega⟩
          rw [hzl] at hc hz
          have hzb : z < blocks.length := by have := hz.2; omega
          have hcz : wr.cell? ⟨g2, j, none⟩ = some (.int .i64 (z : Int)) := (World.cell?_of_block (w := wy) (w' := wr) (a := ⟨g2, j, none⟩) hn2.out).trans hc
          obtain ⟨m1, f1⟩ := hb4.out.s.at hzb
          have hLn : (nxt blocks (i : Int)).length = L.length := by rw [HL.out]
          have hLj : ∀ (hh : j < (nxt blocks (i : Int)).length), (nxt blocks (i : Int))[j] = (z : Int) := fun hh => by rw [← hzl]; simp only [HL.out]
          obtain ⟨gq4, oq4, cq4, cur4, rfl, _⟩ := id hb4.out.q
          have hg2lt : g2 < wr.heap.size := by have := G2.out; have := hz2.out; omega
          have hg2s : g2 ≠ gs := by have := G2.out; omega
          have hg2q : g2 ≠ gq4 := fun e => hq2.out (by rw [e]; rfl)
          by_cases hwo : (z : Int) = wo
          · have ST := hideP (hbi.out.there (by omega) (by rw [hLj (by omega)]; exact Or.inl hwo))
            clear hzl hc hz hLj hLn m1
            have hwb : ((z : Int) == wo) = true := by simpa using hwo
            go_wp2
            go_roundg (L.length - (j + 1))
            case rel => exact ⟨j + 1, td, by omega, by go_num, ST.out, hb4.out, hn2.out, hq2.out, hz2.out⟩
            case measure => omega
          · have hwb : ((z : Int) == wo) = false := by simpa using hwo
            by_cases hin : (z : Int) ∈ dn ++ [(i : Int)] ++ td
            · rw [decide_eq_true hin] at m1
              have ST := hideP (hbi.out.there (by omega) (by rw [hLj (by omega)]; exact Or.inr hin))
              clear hzl hc hz hLj hLn
              go_wp2
              go_roundg (L.length - (j + 1))
              case rel => exact ⟨j + 1, td, by omega, by go_num, ST.out, hb4.out, hn2.out, hq2.out, hz2.out⟩
              case measure => omega
            · rw [decide_eq_false hin] at m1
              have ST : Hid (BfsV blocks (a : Int) wo dn (i : Int) (td ++ [(z : Int)]) (j + 1)) := by
                have := hbi.out.new (by omega) (by rw [hLj (by omega)]; exact hwo) (by rw [hLj (by omega)]; exact hin) (by rw [hLj (by omega)]; exact hz)
                rw [hLj (by omega)] at this
                exact this
              have htl : td.length ≤ 300 := by have := hbi.out.few; unfold Few at this; rw [List.length_append] at this; omega
              clear hzl hc hz hLj hLn
              go_upto_region 11 with fail
              have BM := hb4.out.mark hzb
              have hX2 : (wr.setCell ⟨gs, z, none⟩ (.bool true)).heap[g2]? = wr.heap[g2]? := Below.heap_setCell wr ⟨gs, z, none⟩ _ g2 hg2s
              have hXs : (wr.setCell ⟨gs, z, none⟩ (.bool true)).heap.size = wr.heap.size := size_set _ _ _
              obtain ⟨X1, hX1⟩ : ∃ X1, wr.setCell ⟨gs, z, none⟩ (.bool true) = X1 := ⟨_, rfl⟩
              rw [hX1] at BM hX2 hXs ⊢
              have hcX : X1.cell? ⟨g2, j, none⟩ = some (.int .i64 (z : Int)) := (World.cell?_of_block (w := wr) (w' := X1) (a := ⟨g2, j, none⟩) hX2).trans hcz
              have al := (Below.refl X1.heap.size X1).alloc (Nat.le_refl _) (.cells #[.int .i64 (z : Int)] 3)
              have BM2 := hideP (BM.stays al)
              have hlc : (X1.alloc (.cells #[.int .i64 (z : Int)] 3)).cell? ⟨X1.heap.size, 0, none⟩ = some (.int .i64 (z : Int)) := by rw [World.cell?_alloc_new]; rfl
              have HLC := hideP hlc
              have SC : Hid (w.heap.size + 1 ≤ (X1.alloc (.cells #[.int .i64 (z : Int)] 3)).heap.size) := by have := (BM.q.low).choose_spec; show _ ≤ _; simp; omega
              have HX2 := hideP ((al.block g2 (by omega)).trans (hX2.trans hn2.out))
              have HXS := hideP hXs
              clear BM al hlc hX2 hXs m1 f1 hcz hX1
              go_wp2_with (at_builtin; refine list_appQ _ rfl _ _ rfl (w.heap.size + 1) _ td (z : Int) X1.heap.size 0 1 rfl rfl BM2.out.q HLC.out (by omega) SC.out ?_; intro v6 w6 o6 grow6 loc6)
              replace grow6 : World.grownBy _ w6 (Value.slice (some ⟨gq4, oq4, none⟩) td.length cq4).ownBlock := grow6
              replace loc6 : v6.ownBlock = (Value.slice (some ⟨gq4, oq4, none⟩) td.length cq4).ownBlock ∨ v6.ownBlock = some (X1.alloc (.cells #[.int .i64 (z : Int)] 3)).heap.size := loc6
              have B6 := hideP (BM2.out.push o6 grow6)
              have H6 := hideP ((grow6.block g2 (by simp; have := HXS.out; omega) (by simp [Value.ownBlock]; exact hg2q)).trans HX2.out)
              have Z6 : Hid (wy.heap.size ≤ w6.heap.size) := by have := grow6.size; have := HXS.out; have := hz2.out; simp at *; show _ ≤ _; omega
              have Q6 : Hid (v6.ownBlock ≠ some g2) := by
                show _ ≠ _
                rcases loc6 with e | e
                · rw [e]; exact hq2.out
                · rw [e]; simp; have := HXS.out; omega
              obtain ⟨g6, oo6, c6, cur6, rfl, _⟩ := id o6
              clear o6 grow6 loc6
              go_wp2
              go_roundg (L.length - (j + 1))
              case rel => exact ⟨j + 1, td ++ [(z : Int)], by omega, by go_num, ST.out, by have := B6.out; rw [List.append_assoc] at this; show BR _ _ _ _ _ _ _ _ _; simpa using this, H6.out, Q6.out, Z6.out⟩
              case measure => omega
        · have hjn : j = L.length := by omega
          subst hjn
          have BO : Hid (BfsW blocks (a : Int) wo (dn ++ [(i : Int)]) td) := by have := hbi.out; rw [← HL.out] at this; exact this.out
          go_wp2
          go_roundg (kk - 1)
          case rel => exact ⟨dn ++ [(i : Int)], td, by rw [List.length_append]; simp; omega, BO.out, hb4.out⟩
          case measure => have := HGK.out; omega
end Go.Proofs.Ytooaoankloocmab
