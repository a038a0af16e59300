/- The contract of spec.l05Visit. -/
import Derived.Test.YtdkdimklacblaalRRVisitP
import Derived.Test.YtdkdimklacblaalRRNextS
import Derived.Deep.CutRange
import Derived.Deep.RegionHeld3
namespace Go.Proofs.YtdkdimklacblaalRR
open Go.ChangeShapes Go.WideShapes Go.ChangeAt Go.RowKit
theorem own_some {w : World} {A : Nat} {v : Value} {l : List Int} (h : OwnI w A v l) : ∃ b, v.ownBlock = some b ∧ A ≤ b ∧ b < w.heap.size := by
  have h' := h
  obtain ⟨g, cap, rfl, _⟩ := h'
  exact ⟨g, rfl, h.low g rfl⟩
set_option maxHeartbeats 8000000 in
set_option maxRecDepth 100000 in
theorem visit_any (sizes : List Int) (params vars slots : Int) (blocks : List Blk) (hall : AllIn blocks) (hN : blocks.length ≤ 300) (w0 : World) (B : Nat) (us : Option Addr) (cs : Nat) (ub : Option Addr) (cb : Nat)
    (hg : GrIs w0 B #[.slice us sizes.length cs, .int .i64 params, .int .i64 vars, .int .i64 slots, .slice ub blocks.length cb] ⟨sizes, params, vars, slots, blocks⟩) :
    ∀ (m i : Nat) (out : List Int) (w : World) (gs : Nat) (vo : Value), free blocks.length out ≤ m → i < blocks.length → Few blocks.length out → Below w0.heap.size w0 w → w0.heap.size ≤ gs → SeenIs w gs blocks.length out → OwnI w w0.heap.size vo out → vo.ownBlock ≠ some gs →
      Calls Try.prog 46 #[.agg #[.slice us sizes.length cs, .int .i64 params, .int .i64 vars, .int .i64 slots, .slice ub blocks.length cb], .int .i64 (i : Int), .slice (some ⟨gs, 0, none⟩) blocks.length blocks.length, vo] w fun en w' => ∃ q out', en = .returned q ∧ VisL blocks w0 w gs vo.ownBlock [(i : Int)] out q w' out' := by
  have hb : SlIs BlkIs 5 w0 B ub blocks := by
    obtain ⟨us', cs', ub', cb', e, _, _, hb⟩ := hg
    simp at e
    obtain ⟨_, ⟨rfl, rfl⟩⟩ := e
    exact hb
  have HB := hideP hb
  clear hg hb
  have hmx := maxLen_lt
  intro m
  induction m with
  | zero =>
    intro i out w gs vo hfree hi hfew bel0 hgs0 hseen hown hne
    have hin : (i : Int) ∈ out := by
      rcases Classical.em ((i : Int) ∈ out) with h | h
      · exact h
      · have := free_step (n := blocks.length) h ⟨by omega, by omega⟩; omega
    have al := (Below.refl w.heap.size w).alloc (Nat.le_refl _) (.cells #[.slice us sizes.length cs, .int .i64 params, .int .i64 vars, .int .i64 slots, .slice ub blocks.length cb] 44)
    have V : Hid (VisL blocks w0 w gs vo.ownBlock [(i : Int)] out vo (w.alloc (.cells #[.slice us sizes.length cs, .int .i64 params, .int .i64 vars, .int .i64 slots, .slice ub blocks.length cb] 44)) out) :=
      ⟨hown.stays al, hseen.keep (al.block gs hseen.lt), hne, Frm.of_below al, Or.inl rfl, fun W r h => Run.skip hin h, hfew, Nat.le_refl _⟩
    have c1 := ((hseen.keep (al.block gs hseen.lt)).at hi).1
    rw [show decide ((i : Int) ∈ out) = true by simpa using hin] at c1
    clear al hseen hown
    go_enter Try.func46, Try.ntmps46
    go_wp2
    go_ret
    exact ⟨_, _, rfl, V.out⟩
  | succ m ih =>
    intro i out w gs vo hfree hi hfew bel0 hgs0 hseen hown hne
    have IH := hideP ih
    clear ih
    have al := (Below.refl w.heap.size w).alloc (Nat.le_refl _) (.cells #[.slice us sizes.length cs, .int .i64 params, .int .i64 vars, .int .i64 slots, .slice ub blocks.length cb] 44)
    have hseen1 := hseen.keep (al.block gs hseen.lt)
    have hgw := hseen.lt
    by_cases hin : (i : Int) ∈ out
    · have V : Hid (VisL blocks w0 w gs vo.ownBlock [(i : Int)] out vo (w.alloc (.cells #[.slice us sizes.length cs, .int .i64 params, .int .i64 vars, .int .i64 slots, .slice ub blocks.length cb] 44)) out) :=
        ⟨hown.stays al, hseen1, hne, Frm.of_below al, Or.inl rfl, fun W r h => Run.skip hin h, hfew, Nat.le_refl _⟩
      have c1 := (hseen1.at hi).1
      rw [show decide ((i : Int) ∈ out) = true by simpa using hin] at c1
      clear al hseen hseen1 hown
      go_enter Try.func46, Try.ntmps46
      go_wp2
      go_ret
      exact ⟨_, _, rfl, V.out⟩
    · have c1 := (hseen1.at hi).1
      have f1 := (hseen1.at hi).2
      rw [show decide ((i : Int) ∈ out) = false by simpa using hin] at c1
      obtain ⟨w1, hw1⟩ : ∃ w1, (w.alloc (.cells #[.slice us sizes.length cs, .int .i64 params, .int .i64 vars, .int .i64 slots, .slice ub blocks.length cb] 44)) = w1 := ⟨_, rfl⟩
      have hbx : w1.heap[w.heap.size]? = some (.cells #[.slice us sizes.length cs, .int .i64 params, .int .i64 vars, .int .i64 slots, .slice ub blocks.length cb] 44 (0, 0)) := by rw [← hw1]; show (w.heap.push _)[w.heap.size]? = _; exact Array.getElem?_push_size
      have hsz1 : w1.heap.size = w.heap.size + 1 := by rw [← hw1]; simp
      rw [hw1] at c1 f1 hseen1 al
      -- the world behind the store and the literal
      have hown1 := hown.stays al
      obtain ⟨bo, hbo, hbo1, hbo2⟩ := own_some hown
      have fr2 := Frm.set gs vo.ownBlock w1 i (.bool true)
      have hseen2 := hseen1.set hi
      have hown2 := hown1.frm (Frm.set gs none w1 i (.bool true)) hne (fun b _ => by simp)
      obtain ⟨w2, hw2⟩ : ∃ w2, w1.setCell ⟨gs, i, none⟩ (.bool true) = w2 := ⟨_, rfl⟩
      rw [hw2] at fr2 hseen2 hown2
      have hsz2 : w2.heap.size = w.heap.size + 1 := by rw [← hw2, size_set, hsz1]
      have al2 := (Below.refl w2.heap.size w2).alloc (Nat.le_refl _) (.cells #[.int .i64 (i : Int)] 3)
      have OC := hideP (hown2.stays al2)
      have OD := hideP (own_lit w2 [(i : Int)] #[.int .i64 (i : Int)] w1.heap.size 1 (by rw [hsz2, hsz1]) rfl rfl (by simp))
      have S3 := hideP (hseen2.keep (al2.block gs hseen2.lt))
      have F3 : Hid (Frm gs vo.ownBlock w (w2.alloc (.cells #[.int .i64 (i : Int)] 3))) := ((Frm.of_below al).trans fr2 (Or.inl rfl)).trans (Frm.of_below al2) (Or.inl rfl)
      have X3 := hideP ((al2.block w.heap.size (by omega)).trans ((fr2.block w.heap.size (by omega) (by omega) (by rw [hbo]; simp; omega)).trans hbx))
      have hsz3 : (w2.alloc (.cells #[.int .i64 (i : Int)] 3)).heap.size = w.heap.size + 2 := by simp [hsz2]
      have HS3 := hideP hsz3
      have hlen : out.length ≤ 300 := by have := hfew; unfold Few at this; omega
      have HBO := hideP hbo
      have HW1 := hideP hw1
      have HW2 := hideP hw2
      have HS2 := hideP hsz2
      have B0 := hideP bel0
      have hB03 : Hid (w0.heap.size ≤ (w2.alloc (.cells #[.int .i64 (i : Int)] 3)).heap.size) := by show _ ≤ _; rw [hsz3]; have := bel0.size; omega
      obtain ⟨go, co, rfl, _⟩ := id hown
      clear al al2 hown1 hown2 hseen hseen1 hseen2 fr2 hsz1 hsz2 hsz3 hown hbo hw1 hw2 bel0 hbx
      go_enter Try.func46, Try.ntmps46
      go_upto_region 1 with fail
      rw [HW1.out]
      go_upto_region 5 with (at_builtin; rw [HW2.out]; refine list_appI _ rfl _ _ rfl w0.heap.size _ out [(i : Int)] w1.heap.size 0 1 1 rfl rfl rfl OC.out OD.out.at (by simp; omega) hB03.out ?_; intro v4 w4 o4 grow4 loc4)
      replace grow4 : World.grownBy _ w4 (Value.slice (some ⟨go, 0, none⟩) out.length co).ownBlock := grow4
      replace loc4 : v4.ownBlock = (Value.slice (some ⟨go, 0, none⟩) out.length co).ownBlock ∨ v4.ownBlock = some (w2.alloc (.cells #[.int .i64 (i : Int)] 3)).heap.size := loc4
      obtain ⟨g4, c4, rfl, _⟩ := id o4
      have gsz := grow4.size
      have f4 := F3.out.trans (Frm.grown (gs := gs) grow4) (Or.inl rfl)
      have b4 : Below w0.heap.size w0 w4 := B0.out.trans (f4.below hgs0 (fun b hb => by have := OC.out.low b hb; exact this.1) B0.out.size)
      have S4 := hideP (S3.out.keep (grow4.block gs S3.out.lt (fun e => hne e.symm)))
      have X4 := hideP ((grow4.block w.heap.size (by rw [HS3.out]; omega) (fun e => by rw [HBO.out] at e; simp at e; omega)).trans X3.out)
      have O4 := hideP o4
      have F4 := hideP f4
      have B4 := hideP b4
      have L4 : Hid (g4 = bo ∨ w.heap.size + 2 ≤ g4) := by
        rcases loc4 with e | e
        · rw [HBO.out] at e; exact Or.inl (own_blk e)
        · have := own_blk e; right; rw [this, HS3.out]; omega
      have G4 : Hid (g4 < w4.heap.size ∧ gs < w4.heap.size ∧ w.heap.size + 2 ≤ w4.heap.size) := ⟨(o4.low g4 rfl).2, by have := gsz; rw [HS3.out] at this; omega, by have := gsz; rw [HS3.out] at this; omega⟩
      have N4 : Hid (g4 ≠ gs) := by have := L4.out; intro e; subst e; exact this.elim (fun e => hne (by rw [HBO.out, e])) (fun e => by omega)
      clear o4 grow4 loc4 gsz f4 b4 S3 F3 X3 OC OD HS3 hB03 HW1 HW2 HS2 c1 f1
      have p4 := (cells_of X4.out).1 4
      simp at p4
      obtain ⟨b, o, x0, x1, x2, x3, x4, ux, kx, rfl, _, hbb, hx, q0, q1, q2, q3, q4, hbX⟩ := Blk_get (HB.out.stays BlkKeeps B4.out) i hi
      have HX := hideP hbX
      have HE := hideP hx
      clear hbX hx
      go_wp2_with fail
      refine (spec_l05Next _ _ B _ HX.out).mono ?_
      rintro e5 w5 ⟨v5, rfl, o5, bel5⟩
      obtain ⟨g5, c5, rfl, _⟩ := id o5
      have NX : Hid (nxt blocks (i : Int) = nextP ⟨x0, x1, x2, x3, x4⟩) := by show _ = _; rw [nxt_at hi, HE.out]
      obtain ⟨L, hL⟩ : ∃ L, nextP ⟨x0, x1, x2, x3, x4⟩ = L := ⟨_, rfl⟩
      rw [hL] at o5 NX ⊢
      have HIN : Hid (∀ y ∈ L, InR blocks.length y) := by rw [← NX.out]; exact nxt_in hall _
      have N5 := hideP o5.is.2.sees
      have hL2 : L.length ≤ 2 := by rw [← hL]; exact nextP_len _
      have G5 : Hid (w4.heap.size ≤ g5 ∧ g5 < w5.heap.size ∧ w4.heap.size ≤ w5.heap.size) := ⟨(o5.low g5 rfl).1, (o5.low g5 rfl).2, bel5.size⟩
      have X5 := hideP ((bel5.block _ (Array.getElem?_eq_some_iff.1 X4.out).1).trans X4.out)
      have V5 : Hid (VisL blocks w0 w5 gs (some g4) [] (out ++ [(i : Int)]) (.slice (some ⟨g4, 0, none⟩) (out.length + 1) c4) w5 (out ++ [(i : Int)])) :=
        ⟨by have := O4.out.stays bel5; simpa using this, S4.out.keep (bel5.block gs S4.out.lt), fun e => N4.out (own_blk e), Frm.of_below (Below.refl _ _), Or.inl rfl, fun W r h => h, hfew.step hin ⟨by omega, by omega⟩, Nat.le_refl _⟩
      have F5 := hideP (F4.out.trans (Frm.of_below (gs := gs) (row := (Value.slice (some ⟨go, 0, none⟩) out.length co).ownBlock) bel5) (Or.inl rfl))
      have B5 := hideP (below_trans B4.out bel5)
      have FS := hideP (free_step (n := blocks.length) hin ⟨by omega, by omega⟩)
      clear o5 hL bel5 q0 q1 q2 q3 q4 p4 HX X4 O4 S4 F4 B4
      go_wp2
      go_loopw [3, 10] (fun q k wr => ∃ (j : Nat) (outk : List Int), j ≤ L.length ∧ k = .int .i64 j ∧ Hid (VisL blocks w0 w5 gs (some g4) (L.take j) (out ++ [(i : Int)]) q wr outk)) (fun _ k _ => L.length - (intOf k).toNat)
      case atStart => exact ⟨0, _, Nat.zero_le _, rfl, V5.out⟩
      case round =>
        obtain ⟨j, outk, hj, rfl, hv⟩ := hrel
        by_cases hlt : j < L.length
        · obtain ⟨b', o', he, hc⟩ := N5.out.get j hlt
          cases he
          have hz := HIN.out _ (List.getElem_mem hlt)
          obtain ⟨z, hzl⟩ : ∃ z : Nat, L[j] = (z : Int) := ⟨L[j].toNat, by have := hz.1; omega⟩
          rw [hzl] at hc hz
          have hzb : z < blocks.length := by have := hz.2; omega
          have TK : Hid (L.take (j + 1) = L.take j ++ [(z : Int)]) := by show _ = _; rw [List.take_succ_eq_append_getElem hlt, hzl]
          obtain ⟨bq, hbq, _, _⟩ := own_some hv.out.own
          have hbq1 : bq ≠ w.heap.size ∧ bq ≠ g5 := by
            have h5 := G5.out
            have h4 := G4.out
            rcases hv.out.loc with e | e
            · rw [hbq] at e
              have : bq = g4 := by simpa using e
              have := L4.out
              omega
            · have := e bq hbq; omega
          have hX := (hv.out.frm.block w.heap.size (by have := G4.out; have := G5.out; omega) (by omega) (by have := L4.out; simp; omega)).trans X5.out
          have hC := (World.cell?_of_block (w := w5) (w' := wr) (a := ⟨g5, 0 + j, none⟩) (hv.out.frm.block g5 G5.out.2.1 (by have := G4.out; have := G5.out; show g5 ≠ gs; omega) (by have := G4.out; have := G5.out; simp; omega))).trans hc
          rw [Nat.zero_add] at hC
          have SK : Hid (∀ W', Frm gs u3.ownBlock wr W' → W'.cell? ⟨w.heap.size, 0, none⟩ = some (.slice us sizes.length cs) ∧ W'.cell? ⟨w.heap.size, 1, none⟩ = some (.int .i64 params) ∧ W'.cell? ⟨w.heap.size, 2, none⟩ = some (.int .i64 vars) ∧ W'.cell? ⟨w.heap.size, 3, none⟩ = some (.int .i64 slots) ∧ W'.cell? ⟨w.heap.size, 4, none⟩ = some (.slice (some ⟨b, o, none⟩) blocks.length cb) ∧ W'.cell? ⟨g5, j, none⟩ = some (.int .i64 (z : Int))) := fun W' hF => by
            have h1 := (hF.block w.heap.size (Array.getElem?_eq_some_iff.1 hX).1 (by omega) (by rw [hbq]; simp; omega)).trans hX
            have h2 := (World.cell?_of_block (w := wr) (w' := W') (a := ⟨g5, j, none⟩) (hF.block g5 (World.block_lt_of_cell? wr _ hC) (by have := G4.out; have := G5.out; show g5 ≠ gs; omega) (by rw [hbq]; simp; omega))).trans hC
            have h3 := (cells_of h1).1
            exact ⟨h3 0, h3 1, h3 2, h3 3, h3 4, h2⟩
          have IHD : Hid (∀ W', Below wr.heap.size wr W' → Calls Try.prog 46 #[.agg #[.slice us sizes.length cs, .int .i64 params, .int .i64 vars, .int .i64 slots, .slice (some ⟨b, o, none⟩) blocks.length cb], .int .i64 (z : Int), .slice (some ⟨gs, 0, none⟩) blocks.length blocks.length, u3] W' fun en w' => ∃ q out', en = .returned q ∧ VisL blocks w0 w5 gs (some g4) (L.take (j + 1)) (out ++ [(i : Int)]) q w' out' ∧ Frm gs u3.ownBlock wr w') := fun W' bel => by
            have hv' := hv.out.on bel
            refine (IH.out z outk W' gs u3 (by have := hv'.less; have := FS.out; omega) hzb hv'.few (B5.out.trans (hv'.frm.below hgs0 (fun b hb => by simp at hb; subst hb; have := L4.out; have := B0.out.size; omega) B5.out.size)) hgs0 hv'.seen hv'.own hv'.ne).mono ?_
            rintro en w' ⟨q, out', he, hq⟩
            refine ⟨q, out', he, ?_, (Frm.of_below bel).trans hq.frm (Or.inl rfl)⟩
            rw [TK.out]
            exact hv'.trans hq
          clear hX hC hc hz hzl hbq1 hbq TK
          go_upto_region 9 with fail
          go_region_held3 (fun W' => W'.cell? ⟨w.heap.size, 0, none⟩ = some (.slice us sizes.length cs) ∧ W'.cell? ⟨w.heap.size, 1, none⟩ = some (.int .i64 params) ∧ W'.cell? ⟨w.heap.size, 2, none⟩ = some (.int .i64 vars) ∧ W'.cell? ⟨w.heap.size, 3, none⟩ = some (.int .i64 slots) ∧ W'.cell? ⟨w.heap.size, 4, none⟩ = some (.slice (some ⟨b, o, none⟩) blocks.length cb) ∧ W'.cell? ⟨g5, j, none⟩ = some (.int .i64 (z : Int))) (first | exact SK.out _ (Frm.of_below (Below.refl _ _).drew) | exact SK.out _ FR.out) (first
            | (go_at_call 46; refine (IHD.out _ (Below.refl _ _).drew).mono ?_; rintro yy wy ⟨qn, outn, rfl, hvn, hfn⟩; have HV := hideP hvn; have FR := hideP hfn; clear hvn hfn))
          all_goals
            go_wp2
            go_roundw
            case rel => exact ⟨j + 1, outn, by omega, by go_num, HV⟩
            case measure => simp [intOf]; omega
        · have hjn : j = L.length := by omega
          subst hjn
          have h1 := hv.out
          rw [List.take_length] at h1
          have FV := hideP (h1.close F5.out (L4.out.imp (fun e => by rw [e]; exact HBO.out) (fun e => by omega)) hin NX.out ⟨by omega, by omega⟩)
          clear h1
          go_wp2
          go_ret
          exact ⟨_, outk, rfl, FV.out⟩
end Go.Proofs.YtdkdimklacblaalRR
