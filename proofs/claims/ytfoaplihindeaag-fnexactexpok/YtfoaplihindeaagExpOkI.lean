/- The contract of impl.ExpOk. -/
import Derived.Test.YtfoaplihindeaagExpOkP
namespace Go.Proofs.Ytfoaplihindeaag
open Go.ChangeShapes Go.WideShapes Go.ChangeAt Go.RowKit

def ImOk (e : Ex) : Prop := ∀ (w : World) (B : Nat) (v : Array Value) (R V : Int) (d : Nat), ExIs w B v e → d ≤ 31 →
  Calls Try.prog 40 #[.agg #[.int .i64 R, .int .i64 V], .agg v, .int .i64 d] w fun en w' => en = .returned (.bool (exOk R V (30 - d) e)) ∧ Below w.heap.size w w'
set_option maxHeartbeats 1000000 in
theorem expOk_any (e : Ex) : ImOk e := by
  induction e using Ex.ind with
  | h k n b t kids ih =>
    intro w B v R V d hx hd
    obtain ⟨a, cap, rfl, ht, hk⟩ := hx.out
    have hl := hk.1
    have hm := maxLen_lt
    have HK := hideP hk
    have IH := hideP ih
    clear hx hk ih
    by_cases h31 : d = 31
    · subst h31
      have E : Hid (exOk R V (30 - ((31 : Nat) : Int)) (.mk k n b t kids) = false) := by show _ = _; simp [exOk]
      go_enter Try.func40, Try.ntmps40
      go_wp2
      go_ret
      exact ⟨ret_bool E.out.symm, below2 w _ _⟩
    · go_enter Try.func40, Try.ntmps40
      go_wp2_with fail
      refine (expFieldsOk_any R V k n b t a kids.length cap _).mono ?_
      rintro e1 w1 ⟨rfl, bel1⟩
      obtain ⟨q1, q2, hz, hw⟩ := two bel1
      have HW := hideP hw
      have Q1 := hideP q1
      have Q2 := hideP q2
      clear hw bel1
      cases hf : fldOk R V k n b t kids.length with
      | false =>
        have E : Hid (exOk R V (30 - (d : Int)) (.mk k n b t kids) = false) := by show _ = _; simp [exOk, hf]
        clear hf q1 q2
        go_wp2
        go_ret
        exact ⟨ret_bool E.out.symm, HW.out⟩
      | true =>
        have c4 := (cells_of q2).1 4
        simp at c4
        have HF := hideP hf
        clear hf q1 q2
        go_wp2
        go_loopw [20] (fun i wr => ∃ j : Nat, j ≤ kids.length ∧ i = .int .i64 j ∧ Below w1.heap.size w1 wr ∧ Hid (exsOk R V (30 - (d : Int) - 1) (kids.take j) = true)) (fun i _ => kids.length - (intOf i).toNat)
        case atStart => exact ⟨0, Nat.zero_le _, rfl, Below.refl _ _, show _ = _ by simp [exsOk]⟩
        case round =>
          obtain ⟨j, hj, rfl, bel, hok⟩ := hrel
          clear c4
          by_cases hlt : j < kids.length
          · obtain ⟨g, o, k', n', bs', t', kids', ka, kc, rfl, _, hb, he, p0, p1, p2, p3, p4, hx⟩ := ((HK.out.stays HW.out).stays bel).get j hlt
            have hmem : kids[j] ∈ kids := List.getElem_mem hlt
            have tk := exsOk_take R V (30 - (d : Int) - 1) kids j hlt
            have no := exsOk_no R V (30 - (d : Int) - 1) kids j hlt
            have r1 := (cells_of ((bel.block _ (show w.heap.size < w1.heap.size by omega)).trans Q1.out)).1
            have r10 := r1 0
            have r11 := r1 1
            simp at r10 r11
            clear r1
            rw [hok.out, he] at tk
            rw [he] at no hmem
            have IHj := hideP (IH.out _ hmem)
            have HX := hideP hx
            have HB := hideP bel
            have hsz := bel.size
            have hlt0 : w.heap.size < wr.heap.size := by omega
            have TK := hideP tk
            have NO := hideP no
            clear tk no hx bel hmem he
            go_wp2_with fail
            have ed : (d : Int) + 1 = ((d + 1 : Nat) : Int) := by omega
            rw [ed]
            clear ed
            refine (IHj.out _ B _ R V (d + 1) (HX.out.stays ((Below.refl _ _).alloc (Nat.le_refl _) _)) (by omega)).mono ?_
            rintro e2 w2 ⟨rfl, bel2⟩
            have hw2 := hideP (HB.out.trans ((below_new bel2).mono hsz))
            have ed : (30 : Int) - ((d + 1 : Nat) : Int) = 30 - (d : Int) - 1 := by omega
            rw [ed]
            clear ed bel2 p0 p1 p2 p3 p4 r10 r11
            cases hr : exOk R V (30 - (d : Int) - 1) (.mk k' n' bs' t' kids') with
            | false =>
              have E : Hid (exOk R V (30 - (d : Int)) (.mk k n b t kids) = false) := by show _ = _; rw [exOk, NO.out hr]; simp
              clear hr
              go_wp2
              go_ret
              exact ⟨ret_bool E.out.symm, HW.out.trans (hw2.out.mono (by omega))⟩
            | true =>
              have T : Hid (exsOk R V (30 - (d : Int) - 1) (kids.take (j + 1)) = true) := by show _ = _; rw [TK.out, hr]; rfl
              clear hr
              go_wp2
              go_roundw
              case rel => exact ⟨j + 1, by omega, by go_num, hw2.out, T⟩
              case measure => simp [intOf]; omega
          · have hjn : j = kids.length := by omega
            subst hjn
            have h1 := hok.out
            rw [List.take_length] at h1
            have E : Hid (exOk R V (30 - (d : Int)) (.mk k n b t kids) = true) := by show _ = _; rw [exOk, HF.out, h1]; simp; omega
            clear h1
            go_wp2
            go_ret
            exact ⟨ret_bool E.out.symm, HW.out.trans (bel.mono (by omega))⟩
theorem scopeOf_any (p : Pr) (w : World) (B : Nat) (v : Array Value) (h : PrIs w B v p) :
    Calls Try.prog 28 #[.agg v] w fun en w' => en = .returned (.agg #[.int .i64 (p.sizes.length : Nat), .int .i64 p.vars]) ∧ Below w.heap.size w w' := by
  obtain ⟨a, cap, ab, cb, rfl, hz, _⟩ := h
  have hl := hz.1
  have hm := maxLen_lt
  clear hz
  go_enter Try.func28, Try.ntmps28
  go_wp2
  try simp only [Exit.inBlock, Exit.then]
  refine bodyPost_ret (v := .agg #[.int .i64 (p.sizes.length : Nat), .int .i64 p.vars]) (by simp [results, Try.results28, go_sem]) rfl ⟨rfl, ?_⟩
  exact below2 w _ _
theorem twoW {w W w1 : World} {o1 o2 : Obj} (hW : W.heap = (w.heap.push o1).push o2) (hB : Below w.heap.size w W) (bel : Below W.heap.size W w1) :
    w1.heap[w.heap.size]? = some o1 ∧ w1.heap[w.heap.size + 1]? = some o2 ∧ w.heap.size + 1 < w1.heap.size ∧ Below w.heap.size w w1 := by
  have hz : W.heap.size = w.heap.size + 2 := by rw [hW]; simp
  have hs := bel.size
  refine ⟨?_, ?_, by omega, hB.trans (bel.mono (by omega))⟩
  · rw [bel.block _ (by omega), hW, Array.getElem?_push, Array.getElem?_push]; simp
  · rw [bel.block _ (by omega), hW, Array.getElem?_push]; simp
set_option maxHeartbeats 1000000 in
theorem impl_expOk (p : Pr) (e : Ex) (w : World) (B1 B2 : Nat) (v1 v2 : Array Value) (h1 : PrIs w B1 v1 p) (h2 : ExIs w B2 v2 e) :
    Calls Try.prog 17 #[.agg v1, .agg v2] w fun en w' => en = .returned (.bool (exOk (p.sizes.length : Nat) p.vars 30 e)) ∧ Below w.heap.size w w' := by
  have S : Hid (∀ W, Below w.heap.size w W → Calls Try.prog 28 #[.agg v1] W fun en w' => en = .returned (.agg #[.int .i64 (p.sizes.length : Nat), .int .i64 p.vars]) ∧ Below W.heap.size W w') := fun W hW => scopeOf_any p W B1 v1 (h1.stays hW)
  have X : Hid (∀ W, Below w.heap.size w W → Calls Try.prog 40 #[.agg #[.int .i64 (p.sizes.length : Nat), .int .i64 p.vars], .agg v2, .int .i64 0] W fun en w' => en = .returned (.bool (exOk (p.sizes.length : Nat) p.vars 30 e)) ∧ Below W.heap.size W w') := fun W hW => expOk_any e W B2 v2 _ _ 0 (h2.stays hW) (by omega)
  obtain ⟨a1, c1, b1, d1, rfl, _, _⟩ := h1
  obtain ⟨k, n, b, t, kids⟩ := e
  obtain ⟨a2, c2, rfl, _, _⟩ := h2.out
  clear h2
  go_enter Try.func17, Try.ntmps17
  go_wp2
  go_region_with (first | (go_at_call 28; refine (S.out _ (by first | exact below2 w _ _ | exact (below2 w _ _).drew | exact (below2 w _ _).drew.drew)).mono ?_; rintro e1 w1 ⟨rfl, bel1⟩; have hq := twoW rfl (by first | exact below2 w _ _ | exact (below2 w _ _).drew | exact (below2 w _ _).drew.drew) bel1; have hw1 := hideP hq.2.2.2; have r0 := (cells_of hq.2.1).1 0; have r1 := (cells_of hq.2.1).1 1; have r2 := (cells_of hq.2.1).1 2; have r3 := (cells_of hq.2.1).1 3; have r4 := (cells_of hq.2.1).1 4; simp at r0 r1 r2 r3 r4; clear bel1 hq) | (go_at_call 40; refine (X.out _ (by first | exact hw1.out | exact hw1.out.drew)).mono ?_; rintro e2 w2 ⟨rfl, bel2⟩))
  all_goals
    have hw2 : Hid (Below w.heap.size w w2) := by first | exact below_trans hw1.out bel2 | exact hw1.out.drew.trans (bel2.mono (by exact hw1.out.size))
    clear bel2
    go_wp2
    go_ret
    exact ⟨rfl, hw2.out⟩
end Go.Proofs.Ytfoaplihindeaag
