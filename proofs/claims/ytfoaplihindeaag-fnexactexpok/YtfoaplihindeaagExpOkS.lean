/- The contract of spec.ExpOk. -/
import Derived.Test.YtfoaplihindeaagExpOkI
namespace Go.Proofs.Ytfoaplihindeaag
open Go.ChangeShapes Go.WideShapes Go.ChangeAt Go.RowKit

theorem l02At_any (a1 : Option Addr) (m c1 : Nat) (P V : Int) (b1 : Option Addr) (l d1 : Nat) (n b : Int) (w : World) (hm : m ≤ maxLen) :
    Calls Try.prog 53 #[.agg #[.slice a1 m c1, .int .i64 P, .int .i64 V, .slice b1 l d1], .int .i64 n, .int .i64 b] w fun e w' => e = .returned (.bool (plOk (m : Nat) V n b)) ∧ Below w.heap.size w w' := by
  have hM := maxLen_lt
  go_enter Try.func53, Try.ntmps53
  go_wp2_with (go_at_call 23; refine (l01In_any _ _ _ _).mono ?_; rintro e1 w1 ⟨rfl, rfl⟩)
  all_goals go_ret
  all_goals refine ⟨ret_bool ?_, (Below.refl _ _).alloc (Nat.le_refl _) _⟩
  all_goals simp only [plOk, vOk, inB, decide_eq_true_eq] at *
  all_goals rw [Bool.eq_iff_iff]
  all_goals simp
  all_goals omega

def SpOk (e : Ex) : Prop := ∀ (w : World) (B : Nat) (v : Array Value) (a1 : Option Addr) (m c1 : Nat) (P V : Int) (b1 : Option Addr) (l d1 : Nat) (D : Int), ExIs w B v e → m ≤ maxLen → -1 ≤ D → D ≤ 30 →
  Calls Try.prog 38 #[.agg #[.slice a1 m c1, .int .i64 P, .int .i64 V, .slice b1 l d1], .agg v, .int .i64 D] w fun en w' => en = .returned (.bool (exOk (m : Nat) V D e)) ∧ Below w.heap.size w w'
set_option maxHeartbeats 4000000 in
set_option maxRecDepth 100000 in
theorem l02ExpOk_any (e : Ex) : SpOk e := by
  induction e using Ex.ind with
  | h k n b t kids ih =>
    intro w B v a1 m c1 P V b1 l d1 D hx hml hD0 hD1
    obtain ⟨a, cap, rfl, ht, hk⟩ := hx.out
    have hl := hk.1
    have hm := maxLen_lt
    have HK := hideP hk
    have IH := hideP ih
    clear hx hk ih
    by_cases hneg : D < 0
    · have E : Hid (exOk (m : Nat) V D (.mk k n b t kids) = false) := by show _ = _; simp [exOk]; omega
      go_enter Try.func38, Try.ntmps38
      go_wp2
      go_ret
      exact ⟨ret_bool E.out.symm, below2 w _ _⟩
    · have hdd : decide (0 ≤ D) = true := by simp; omega
      have E : Hid (exOk (m : Nat) V D (.mk k n b t kids) = (fldOk (m : Nat) V k n b t kids.length && exsOk (m : Nat) V (D - 1) kids)) := by show _ = _; simp [exOk, hdd]
      clear hdd
      have hti : (t.toList.isEmpty = true ∧ t.toList = []) ∨ (t.toList.isEmpty = false ∧ ¬ t.toList = []) := by cases t.toList <;> simp
      rcases hti with ⟨hti, hte⟩ | ⟨hti, hte⟩
      all_goals go_enter Try.func38, Try.ntmps38
      all_goals go_wp2
      all_goals first | (go_ret; refine ⟨ret_bool ?_, below2 w _ _⟩; simp [exOk, fldOk, *]; done) | skip
      all_goals try (rename k = 2 => h2; subst h2)
      all_goals try (rename k = 3 => h3; subst h3)
      all_goals try (rename b = 0 => h0; subst h0)
      all_goals
        go_loopw [7] (fun i wr => ∃ j : Nat, j ≤ kids.length ∧ i = .int .i64 j ∧ Below (w.heap.size + 2) ((w.alloc (.cells #[.slice a1 m c1, .int .i64 P, .int .i64 V, .slice b1 l d1] 30)).alloc (.cells #[.int .i64 _, .int .i64 n, .int .i64 _, .string t, .slice a kids.length cap] 42)) wr ∧ Hid (exsOk (m : Nat) V (D - 1) (kids.take j) = true)) (fun i _ => kids.length - (intOf i).toNat)
        case atStart => exact ⟨0, Nat.zero_le _, rfl, Below.refl _ _, show _ = _ by simp [exsOk]⟩
        case round =>
          obtain ⟨j, hj, rfl, bel0, hok⟩ := hrel
          obtain ⟨q1, q2, hz, hw⟩ := two (bel0.mono (by simp))
          have p0 := (cells_of q1).1 0
          have p1 := (cells_of q1).1 1
          have p2 := (cells_of q1).1 2
          have p3 := (cells_of q1).1 3
          have e0 := (cells_of q2).1 0
          have e1 := (cells_of q2).1 1
          have e2 := (cells_of q2).1 2
          have e3 := (cells_of q2).1 3
          have e4 := (cells_of q2).1 4
          simp at p0 p1 p2 p3 e0 e1 e2 e3 e4
          have HB0 := hideP bel0
          have HW := hideP hw
          clear q1 q2 bel0 hw
          by_cases hlt : j < kids.length
          · obtain ⟨g, o, k', n', bs', t', kids', ka, kc, rfl, _, hb, he, s0, s1, s2, s3, s4, hx⟩ := (HK.out.stays HW.out).get j hlt
            have hmem : kids[j] ∈ kids := List.getElem_mem hlt
            have tk := exsOk_take (m : Nat) V (D - 1) kids j hlt
            have no := exsOk_no (m : Nat) V (D - 1) kids j hlt
            rw [hok.out, he] at tk
            rw [he] at no hmem
            obtain ⟨r, hr⟩ : ∃ r, exOk (m : Nat) V (D - 1) (.mk k' n' bs' t' kids') = r := ⟨_, rfl⟩
            rw [hr] at tk no
            have IHj : Hid (∀ (W : World) (x : Int), Below wr.heap.size wr W → x = D - 1 → Calls Try.prog 38 #[.agg #[.slice a1 m c1, .int .i64 P, .int .i64 V, .slice b1 l d1], .agg #[.int .i64 k', .int .i64 n', .int .i64 bs', .string t', .slice ka kids'.length kc], .int .i64 x] W fun en w' => en = .returned (.bool r) ∧ Below W.heap.size W w') :=
              fun W x hW hxe => by subst hxe; rw [← hr]; exact IH.out _ hmem W B _ a1 m c1 P V b1 l d1 (D - 1) (hx.stays hW) hml (by omega) (by omega)
            have TK := hideP tk
            have NO := hideP no
            clear tk no hx hmem he hr
            go_wp2
            go_region_with (go_at_call 38; refine (IHj.out _ _ (by first | exact Below.refl _ _ | exact (Below.refl _ _).drew | exact (Below.refl _ _).drew.drew) (by first | rfl | (rw [IntKind.wrap_i64]; omega))).mono ?_; rintro e1 w1 ⟨rfl, bel1⟩; have hww : Hid (Below wr.heap.size wr w1) := (by first | exact bel1 | exact (Below.refl _ _).drew.trans bel1 | exact (Below.refl _ _).drew.drew.trans bel1); clear bel1)
            all_goals clear p0 p1 p2 p3 e0 e1 e2 e3 e4 s0 s1 s2 s3 s4
            all_goals cases r
            all_goals go_wp2
            all_goals first
              | (go_ret; exact ⟨ret_bool (by rw [E.out, NO.out (by first | rfl | trivial)]; simp), HW.out.trans (hww.out.mono (by omega))⟩)
              | (go_roundw
                 case rel => exact ⟨j + 1, by omega, by go_num, HB0.out.trans (hww.out.mono (by omega)), by show _ = _; rw [TK.out]; rfl⟩
                 case measure => simp [intOf]; omega)
          · have hjn : j = kids.length := by omega
            subst hjn
            have h1 := hok.out
            rw [List.take_length] at h1
            have E2 := E.out
            rw [h1, Bool.and_true] at E2
            have E2' := hideP E2
            clear h1 E2 E hok
            go_wp2_with (first | (go_at_call 23; refine (l01In_any _ _ _ _).mono ?_; rintro e1 w1 ⟨rfl, rfl⟩) | (go_at_call 53; refine (l02At_any a1 m c1 P V b1 l d1 n _ _ hml).mono ?_; rintro e1 w1 ⟨rfl, bel1⟩) | (go_at_call 54; refine (has_any theOps t _ 6 _ (by decide) (fun j h => lit_cells2 _ theOps _ 9 _ (by simp) rfl j h)).mono ?_; rw [hasB_theOps]; rintro e1 w1 ⟨rfl, rfl⟩))
            all_goals go_ret
            all_goals refine ⟨ret_bool ?_, by first | exact HW.out | exact below_trans HW.out bel1 | exact HW.out.alloc (by omega) _⟩
            all_goals try (rename kids = [] => hk0; subst hk0)
            all_goals rw [E2'.out]
            all_goals clear E2' HK IH HW HB0
            all_goals try simp only [beq_iff_eq, beq_eq_false_iff_ne, ne_eq] at *
            all_goals first | (simp [fldOk, *]; done) | (simp [fldOk, vOk, *]; done) | (simp [fldOk, inB, *]; done) | (rw [beq0]; simp [fldOk, *]; done) | (rw [beq1]; simp [fldOk, *]; done) | (rw [beq2]; simp [fldOk, *]; done) | (rw [Bool.eq_iff_iff]; simp [fldOk, *]; done) | (simp [fldOk, vOk, *]; omega)
set_option maxHeartbeats 1000000 in
theorem spec_expOk (p : Pr) (e : Ex) (w : World) (B1 B2 : Nat) (v1 v2 : Array Value) (h1 : PrIs w B1 v1 p) (h2 : ExIs w B2 v2 e) :
    Calls Try.prog 15 #[.agg v1, .agg v2] w fun en w' => en = .returned (.bool (exOk (p.sizes.length : Nat) p.vars 30 e)) ∧ Below w.heap.size w w' := by
  obtain ⟨a1, c1, b1, d1, rfl, hz, _⟩ := h1
  have X : Hid (∀ W, Below w.heap.size w W → Calls Try.prog 38 #[.agg #[.slice a1 p.sizes.length c1, .int .i64 p.params, .int .i64 p.vars, .slice b1 p.body.length d1], .agg v2, .int .i64 30] W fun en w' => en = .returned (.bool (exOk (p.sizes.length : Nat) p.vars 30 e)) ∧ Below W.heap.size W w') :=
    fun W hW => l02ExpOk_any e W B2 v2 a1 _ c1 _ _ b1 _ d1 30 (h2.stays hW) hz.1 (by omega) (by omega)
  obtain ⟨k, n, b, t, kids⟩ := e
  obtain ⟨a2, c2, rfl, _, _⟩ := h2.out
  clear h2 hz
  go_enter Try.func15, Try.ntmps15
  go_wp2_with fail
  refine (X.out _ (below2 w _ _)).mono ?_
  rintro e1 w1 ⟨rfl, bel1⟩
  have hw1 := hideP (two bel1).2.2.2
  clear bel1
  go_wp2
  go_ret
  exact ⟨rfl, hw1.out⟩
end Go.Proofs.Ytfoaplihindeaag
