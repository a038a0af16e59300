/- append of one list of parts to another; the contract of impl.part.inner. -/
import Derived.Test.YtdkdimklacblaahParts
import Derived.Deep.CutRange
import Derived.Deep.RegionHeld3
import Derived.Deep.AppendLies
namespace Go.Proofs.Ytdkdimklacblaah
open Go.ChangeShapes Go.WideShapes Go.ChangeAt Go.RowKit

theorem OwnPts.stays {w w' : World} {B : Nat} {v : Value} {l : List Pt} (h : OwnPts w B v l) (bel : Below w.heap.size w w') : OwnPts w' B v l :=
  let ⟨g, cap, hv, ho⟩ := h
  ⟨g, cap, hv, owns_stays ho bel⟩
theorem OwnPts.low {w : World} {B : Nat} {v : Value} {l : List Pt} (h : OwnPts w B v l) : ∀ b, v.ownBlock = some b → B ≤ b := fun b hb => (h.choose_spec.choose_spec.2.lt b hb).1
theorem OwnPts.lt {w : World} {B : Nat} {v : Value} {l : List Pt} (h : OwnPts w B v l) : ∀ b, v.ownBlock = some b → b < w.heap.size := fun b hb => (h.choose_spec.choose_spec.2.lt b hb).2
theorem OwnPts.mono {w : World} {B B' : Nat} {v : Value} {l : List Pt} (h : OwnPts w B v l) (hB : B' ≤ B) : OwnPts w B' v l := by
  obtain ⟨g, cap, hv, hl, h0 | ⟨g', cap', cur, hv', hB', hr⟩⟩ := h
  · exact ⟨g, cap, hv, hl, Or.inl h0⟩
  · exact ⟨g, cap, hv, hl, Or.inr ⟨g', cap', cur, hv', Nat.le_trans hB hB', hr⟩⟩
/-- Its cells. -/
theorem OwnPts.cells {w : World} {B : Nat} {v : Value} {l : List Pt} (h : OwnPts w B v l) : ∃ g cap, v = .slice (some ⟨g, 0, none⟩) l.length cap ∧ l.length ≤ cap ∧ cap ≤ maxLen ∧ B ≤ g ∧ g < w.heap.size ∧ ∀ j u, (ptsCells l)[j]? = some u → w.cell? ((⟨g, 0, none⟩ : Addr).add j) = some u := by
  obtain ⟨g0, cap0, hv0, hl, ⟨h0, _⟩ | ⟨g, cap, cur, hv, hB, hh, hc, hm, hs, ht⟩⟩ := h
  · rw [hv0] at h0; cases h0
  · refine ⟨g, cap, hv, hc, hm, hB, (Array.getElem?_eq_some_iff.1 hh).1, fun j u hj => ?_⟩
    have hadd : (⟨g, 0, none⟩ : Addr).add j = ⟨g, j, none⟩ := by unfold Addr.add; split <;> simp_all
    rw [hadd]
    have h1 : (cur.toList.take (l.length * 2))[j]? = (ptsCells l)[j]? := by rw [ht]
    have hjl : j < l.length * 2 := by rw [← ptsCells_len]; exact (List.getElem?_eq_some_iff.1 hj).1
    rw [List.getElem?_take_of_lt hjl, hj, Array.getElem?_toList] at h1
    simp only [World.cell?, hh]
    exact h1
theorem run_app {w : World} {B B2 : Nat} {v1 v2 : Value} {l1 l2 : List Pt} (ty : TypeId) (h1 : OwnPts w B v1 l1) (h2 : OwnPts w B2 v2 l2) (hn : l1.length + l2.length ≤ 8000000) (hB : B ≤ w.heap.size) :
    ∃ v' w', (Builtin.append_ #[57, 57] ty #[v1, v2]).run Try.prog w = .ok v' w' ∧ OwnPts w' B v' (l1 ++ l2) ∧ w.grownBy w' v1.ownBlock ∧ (v'.ownBlock = v1.ownBlock ∨ v'.ownBlock = some w.heap.size) := by
  obtain ⟨i0, hi, hz0, hz1, hz2⟩ := info_parts info70
  obtain ⟨g, cap, hv, hown⟩ := h1
  obtain ⟨g2, cap2, rfl, _, _, _, _, hc⟩ := h2.cells
  obtain ⟨v', w', hr, ho, hg, hnil, hloc⟩ := run_append_own_at (P := Try.prog) w B 57 ty 70 i0 (.agg #[.pointer none, .pointer none]) 2 16 Try.underlying57 hi hz0 hz1 hz2 rfl (by decide) v1 l1.length (ptsCells l1) hown ⟨g2, 0, none⟩ l2.length cap2 (ptsCells l2) (ptsCells_len l2) hc (ptsCells_one l2) (by unfold maxLen; omega) (by omega) hB
  refine ⟨v', w', hr, own_of ?_ (fun h => ?_), hg, hloc⟩
  · rw [ptsCells_append, List.length_append]; exact ho
  · have := (hnil.1 h).1; rw [hv] at this; cases this
section
variable {ops : Array Oper} {o : Oper} {a : Act} {Q : Exit → Act → World → Prop}
theorem step_app {K : Act → World → Prop} {E : Prop} (w : World) (hgd : o.guard = none) (s x : Operand) (ho : o.op = .call { callee := .builtin .append, args := #[s, x], argTypes := #[57, 57] })
    (B B2 : Nat) (v1 v2 : Value) (l1 l2 : List Pt) (hs : a.eval s = v1) (hx : a.eval x = v2) (h1 : OwnPts w B v1 l1) (h2 : OwnPts w B2 v2 l2) (hn : l1.length + l2.length ≤ 8000000) (hB : B ≤ w.heap.size)
    (h : ∀ v' w', OwnPts w' B v' (l1 ++ l2) → w.grownBy w' v1.ownBlock → (v'.ownBlock = v1.ownBlock ∨ v'.ownBlock = some w.heap.size) → K (a.put o.dst v') w') :
    if Region.wanted o (yielded ops a.tmps) = true then Oper.wp Try.prog o a w K Q else E := by
  have hw : Region.wanted o (yielded ops a.tmps) = true := by simp [Region.wanted, hgd]
  rw [if_pos hw]
  obtain ⟨v', w', hr, r1, r2, r3⟩ := run_app o.type h1 h2 hn hB
  unfold Oper.wp execOp
  simp only [ho, resolve, invoke, builtin, Sem.run_bind, Sem.run_pure, Result.andThen_ok, List.map_toArray, List.map_cons, List.map_nil, hs, hx, hr]
  exact h v' w' r1 r2 r3
theorem list_app {rest : List Oper} (w : World) (hgd : o.guard = none) (s x : Operand) (ho : o.op = .call { callee := .builtin .append, args := #[s, x], argTypes := #[57, 57] })
    (B B2 : Nat) (v1 v2 : Value) (l1 l2 : List Pt) (hs : a.eval s = v1) (hx : a.eval x = v2) (h1 : OwnPts w B v1 l1) (h2 : OwnPts w B2 v2 l2) (hn : l1.length + l2.length ≤ 8000000) (hB : B ≤ w.heap.size)
    (h : ∀ v' w', OwnPts w' B v' (l1 ++ l2) → w.grownBy w' v1.ownBlock → (v'.ownBlock = v1.ownBlock ∨ v'.ownBlock = some w.heap.size) → wpList Try.prog ops Q rest (a.put o.dst v') w') :
    wpList Try.prog ops Q (o :: rest) a w := by
  refine wpList_plain hgd fun K hK => ?_
  obtain ⟨v', w', hr, r1, r2, r3⟩ := run_app o.type h1 h2 hn hB
  unfold Oper.wp execOp
  simp only [ho, resolve, invoke, builtin, Sem.run_bind, Sem.run_pure, Result.andThen_ok, List.map_toArray, List.map_cons, List.map_nil, hs, hx, hr]
  exact hK _ _ (h v' w' r1 r2 r3)
end

set_option maxHeartbeats 1000000 in
theorem inner_ex (w : World) (b o : Nat) (a : Option Addr) (n cap : Nat) (hb : b < w.heap.size) (hc : w.cell? ⟨b, o + 4, none⟩ = some (.slice a n cap)) (hn : n ≤ 1048576) (ha : n = 0 ∨ ∃ b o, a = some ⟨b, o, none⟩) :
    Calls Try.prog 50 #[(Pt.ex b o).val] w fun en w' => ∃ v, en = .returned v ∧ OwnPts w' w.heap.size v (rowPts .ex 5 a n) ∧ Below w.heap.size w w' := by
  have al := (Below.refl w.heap.size w).alloc (Nat.le_refl _) (.cells #[.pointer none, .pointer (some ⟨b, o, none⟩)] 70)
  have hc' := (al.cell (p := ⟨b, o + 4, none⟩) hb).trans hc
  have AL := hideP al
  clear hc al
  unfold Pt.val Pt.c0 Pt.c1
  go_enter Try.func50, Try.ntmps50
  go_wp2_with fail
  refine (expParts_row _ a n cap hn ha).mono ?_
  rintro e1 w1 ⟨v, rfl, own, bel⟩
  have OWN : Hid (OwnPts w1 w.heap.size v (rowPts .ex 5 a n)) := own.mono (by simp)
  have HB := hideP (below_new bel)
  clear own bel hc'
  go_wp2
  go_ret
  exact ⟨_, rfl, OWN.out, HB.out⟩
set_option maxHeartbeats 2000000 in
theorem inner_st (w : World) (b o : Nat) (ea xa ya : Option Addr) (en ec xn xc yn yc : Nat) (hb : b < w.heap.size) (c3 : w.cell? ⟨b, o + 3, none⟩ = some (.slice ea en ec)) (c4 : w.cell? ⟨b, o + 4, none⟩ = some (.slice xa xn xc)) (c5 : w.cell? ⟨b, o + 5, none⟩ = some (.slice ya yn yc))
    (he : en ≤ 1048576) (hx : xn ≤ 1048576) (hy : yn ≤ 1048576) (hea : en = 0 ∨ ∃ b o, ea = some ⟨b, o, none⟩) (hxa : xn = 0 ∨ ∃ b o, xa = some ⟨b, o, none⟩) (hya : yn = 0 ∨ ∃ b o, ya = some ⟨b, o, none⟩) :
    Calls Try.prog 50 #[(Pt.st b o).val] w fun e w' => ∃ v, e = .returned v ∧ OwnPts w' w.heap.size v (rowPts .ex 5 ea en ++ rowPts .st 6 xa xn ++ rowPts .st 6 ya yn) ∧ Below w.heap.size w w' := by
  have le := row_le .ex 5 ea en
  have lx := row_le .st 6 xa xn
  have ly := row_le .st 6 ya yn
  obtain ⟨W, hW⟩ : ∃ W, w.alloc (.cells #[.pointer (some ⟨b, o, none⟩), .pointer none] 70) = W := ⟨_, rfl⟩
  have al : Below w.heap.size w W := by rw [← hW]; exact (Below.refl w.heap.size w).alloc (Nat.le_refl _) _
  have bx : W.heap[w.heap.size]? = some (.cells #[.pointer (some ⟨b, o, none⟩), .pointer none] 70) := by rw [← hW]; exact blk_new' _ _
  have q0 : W.cell? ⟨w.heap.size, 0, none⟩ = some (.pointer (some ⟨b, o, none⟩)) := by simp [World.cell?, bx]
  have q3 := (al.cell (p := ⟨b, o + 3, none⟩) hb).trans c3
  have q4 := (al.cell (p := ⟨b, o + 4, none⟩) hb).trans c4
  have q5 := (al.cell (p := ⟨b, o + 5, none⟩) hb).trans c5
  have hbW : b < W.heap.size := Nat.lt_of_lt_of_le hb al.size
  have hxW : w.heap.size < W.heap.size := (Array.getElem?_eq_some_iff.1 bx).1
  have SK : Hid (∀ W', Below W.heap.size W W' → W'.cell? ⟨w.heap.size, 0, none⟩ = some (.pointer (some ⟨b, o, none⟩)) ∧ W'.cell? ⟨b, o + 3, none⟩ = some (.slice ea en ec) ∧ W'.cell? ⟨b, o + 4, none⟩ = some (.slice xa xn xc) ∧ W'.cell? ⟨b, o + 5, none⟩ = some (.slice ya yn yc)) := fun W' h =>
    ⟨(h.cell (p := ⟨w.heap.size, 0, none⟩) hxW).trans q0, (h.cell (p := ⟨b, o + 3, none⟩) hbW).trans q3, (h.cell (p := ⟨b, o + 4, none⟩) hbW).trans q4, (h.cell (p := ⟨b, o + 5, none⟩) hbW).trans q5⟩
  have AL := hideP al
  have HWe := hideP hW
  clear hW al bx q0 q3 q4 q5 c3 c4 c5 hb
  unfold Pt.val Pt.c0 Pt.c1
  go_enter Try.func50, Try.ntmps50
  go_upto_region 3 with fail
  rw [HWe.out]
  go_cut [3] from 13 to 25 (fun s3 wx => Hid (OwnPts wx W.heap.size s3 (rowPts .ex 5 ea en ++ rowPts .st 6 xa xn)) ∧ Hid (Below W.heap.size W wx))
  case first =>
    go_region_held3 (fun W' => W'.cell? ⟨w.heap.size, 0, none⟩ = some (.pointer (some ⟨b, o, none⟩)) ∧ W'.cell? ⟨b, o + 3, none⟩ = some (.slice ea en ec) ∧ W'.cell? ⟨b, o + 4, none⟩ = some (.slice xa xn xc) ∧ W'.cell? ⟨b, o + 5, none⟩ = some (.slice ya yn yc)) (first | exact SK.out _ (Below.refl _ _).drew | exact SK.out _ HB3.out | exact SK.out _ HB2.out | exact SK.out _ HB1.out) (first
      | (go_at_call 42; refine (expParts_row _ ea en ec he hea).mono ?_; rintro e1 w1 ⟨v1, rfl, own1, bel1⟩; have OWN1 := hideP own1; have HB1 := hideP ((Below.refl W.heap.size W).drew.trans (bel1.mono (Nat.le_refl _))); clear own1 bel1)
      | (go_at_call 36; refine (stmtParts_row _ xa xn xc hx hxa).mono ?_; rintro e2 w2 ⟨v2, rfl, own2, bel2⟩; have OWN2 := hideP own2; have OWN1' := hideP (OWN1.out.stays bel2); have HB2 := hideP (HB1.out.trans (bel2.mono HB1.out.size)); clear own2 bel2)
      | (refine step_app _ rfl _ _ rfl W.heap.size _ v1 v2 (rowPts .ex 5 ea en) (rowPts .st 6 xa xn) rfl rfl OWN1'.out OWN2.out (by omega) HB2.out.size ?_; intro v3 w3 own3 grow3 loc3; have OWN3 := hideP own3; have HB3 := hideP (HB2.out.grown grow3 HB2.out.size OWN1'.out.low); clear own3 grow3 loc3))
    all_goals (go_wp2_with fail; go_meet; exact ⟨OWN3, HB3⟩)
  case rest =>
  obtain ⟨hown, hbel⟩ := hcut
  obtain ⟨d0, d3, d4, d5⟩ := SK.out _ hbel.out
  go_wp2_with fail
  refine (stmtParts_row _ ya yn yc hy hya).mono ?_
  rintro e4 w4 ⟨v4, rfl, own4, bel4⟩
  have OWN4 := hideP own4
  have OWN3' := hideP (hown.out.stays bel4)
  have HB4 := hideP (hbel.out.trans (bel4.mono hbel.out.size))
  clear own4 bel4 d0 d3 d4 d5 SK hown hbel
  go_wp2_with (at_builtin; refine list_app _ rfl _ _ rfl W.heap.size _ _ v4 (rowPts .ex 5 ea en ++ rowPts .st 6 xa xn) (rowPts .st 6 ya yn) rfl rfl OWN3'.out OWN4.out (by rw [List.length_append]; omega) HB4.out.size ?_; intro v5 w5 own5 grow5 loc5)
  have OWN5 := hideP (own5.mono (show w.heap.size ≤ W.heap.size from AL.out.size))
  have HB5 := hideP (AL.out.trans ((HB4.out.grown grow5 HB4.out.size OWN3'.out.low).mono AL.out.size))
  clear own5 grow5 loc5
  go_wp2
  go_ret
  exact ⟨_, rfl, OWN5.out, HB5.out⟩
end Go.Proofs.Ytdkdimklacblaah
