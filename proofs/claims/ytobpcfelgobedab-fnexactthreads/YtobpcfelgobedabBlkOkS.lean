/- The contract of spec.l04BlockOk. -/
import Derived.Test.YtobpcfelgobedabGrOkP
import Derived.Test.YtobpcfelgobedabInstrOkS0
import Derived.Test.YtobpcfelgobedabInstrOkS1
import Derived.Test.YtobpcfelgobedabInstrOkS2
import Derived.Test.YtobpcfelgobedabInstrOkS3
import Derived.Test.YtobpcfelgobedabInstrOkS4
import Derived.Deep.RegionHeld3
namespace Go.Proofs.Ytobpcfelgobedab
open Go.ChangeShapes Go.WideShapes Go.ChangeAt Go.RowKit
theorem l04Ins_any (V : Int) (us : Option Addr) (cs ls : Nat) (params vars : Int) (ub : Option Addr) (lb cb : Nat) (op d a b c n : Int) (t : ByteArray) (W : World) (hl : ls ≤ maxLen) (hV : 0 ≤ V) (hV2 : V ≤ 9223372036854775807) :
    Calls Try.prog 46 #[.agg #[.slice us ls cs, .int .i64 params, .int .i64 vars, .int .i64 V, .slice ub lb cb], .agg #[.int .i64 op, .int .i64 d, .int .i64 a, .int .i64 b, .int .i64 c, .int .i64 n, .string t]] W fun en w' => en = .returned (.bool (insOk (ls : Nat) V ⟨op, d, a, b, c, n, t⟩)) ∧ Below W.heap.size W w' := by
  rcases (show op = 0 ∨ op = 1 ∨ op = 2 ∨ op = 3 ∨ op = 4 ∨ op = 5 ∨ op = 6 ∨ (¬ op = 0 ∧ ¬ op = 1 ∧ ¬ op = 2 ∧ ¬ op = 3 ∧ ¬ op = 4 ∧ ¬ op = 5 ∧ ¬ op = 6) by omega) with h | h | h | h | h | h | h | ⟨h0, h1, h2, h3, h4, h5, h6⟩
  · exact l04InstrOk0 V us cs _ params vars ub _ cb op d a b c n t W hl hV hV2 h
  · exact l04InstrOk1 V us cs _ params vars ub _ cb op d a b c n t W hl hV hV2 h
  · exact l04InstrOk2 V us cs _ params vars ub _ cb op d a b c n t W hl hV hV2 h
  · exact l04InstrOk3 V us cs _ params vars ub _ cb op d a b c n t W hl hV hV2 h
  · exact l04InstrOk4 V us cs _ params vars ub _ cb op d a b c n t W hl hV hV2 h
  · exact l04InstrOk5 V us cs _ params vars ub _ cb op d a b c n t W hl hV hV2 h
  · exact l04InstrOk6 V us cs _ params vars ub _ cb op d a b c n t W hl hV hV2 h
  · exact l04InstrOk7 V us cs _ params vars ub _ cb op d a b c n t W hl hV hV2 h0 h1 h2 h3 h4 h5 h6
set_option maxHeartbeats 8000000 in
set_option maxRecDepth 100000 in
theorem l04BlockOk_any (g : Gr) (x : Blk) (w : World) (B1 B2 : Nat) (v1 v2 : Array Value) (h1 : GrIs w B1 v1 g) (h2 : BlkIs w B2 v2 x) (hV : 0 ≤ g.slots) :
    Calls Try.prog 31 #[.agg v1, .agg v2] w fun en w' => en = .returned (.bool (x.code.all (insOk (g.sizes.length : Nat) g.slots) && jmpOk g.slots g.blocks.length x)) ∧ Below w.heap.size w w' := by
  obtain ⟨sizes, params, vars, slots, blocks⟩ := g
  obtain ⟨us, cs, ub, cb, rfl, ok, hz, hb⟩ := h1
  obtain ⟨code, jump, ja, to, els⟩ := x
  obtain ⟨uc, kc, rfl, _, hc⟩ := h2
  simp only at *
  have hm := maxLen_lt
  have hlz := hz.1
  have hlb := hb.1
  have hlc := hc.1
  have hV2 := ok.2.2.2
  have HC := hideP hc
  clear hz hb hc ok
  obtain ⟨q1, q2, _, hw⟩ := two (w := w) (o1 := .cells #[.slice us sizes.length cs, .int .i64 params, .int .i64 vars, .int .i64 slots, .slice ub blocks.length cb] 29) (o2 := .cells #[.slice uc code.length kc, .int .i64 jump, .int .i64 ja, .int .i64 to, .int .i64 els] 40) (Below.refl _ _)
  have Q1 := hideP q1
  have Q2 := hideP q2
  have BW := hideP hw
  clear q1 q2 hw
  go_enter Try.func31, Try.ntmps31
  obtain ⟨W0, hW0⟩ : ∃ W0, (w.alloc (.cells #[.slice us sizes.length cs, .int .i64 params, .int .i64 vars, .int .i64 slots, .slice ub blocks.length cb] 29)).alloc (.cells #[.slice uc code.length kc, .int .i64 jump, .int .i64 ja, .int .i64 to, .int .i64 els] 40) = W0 := ⟨_, rfl⟩
  rw [hW0] at Q1 Q2 BW
  have HW0 := hideP hW0
  clear hW0
  go_wp2
  rw [HW0.out]
  clear HW0
  go_loopw [5] (fun i wr => ∃ j : Nat, j ≤ code.length ∧ i = .int .i64 j ∧ Hid (Below W0.heap.size W0 wr) ∧ Hid ((code.take j).all (insOk (sizes.length : Nat) slots) = true)) (fun i _ => code.length - (intOf i).toNat)
  case atStart => exact ⟨0, Nat.zero_le _, rfl, Below.refl _ _, show _ = _ by simp⟩
  case round =>
    obtain ⟨j, hj, rfl, hbr, hok⟩ := hrel
    have r1 := (hbr.out.block _ (Array.getElem?_eq_some_iff.1 Q1.out).1).trans Q1.out
    have r2 := (hbr.out.block _ (Array.getElem?_eq_some_iff.1 Q2.out).1).trans Q2.out
    have bw := BW.out.trans (hbr.out.mono BW.out.size)
    have hA0 := (Array.getElem?_eq_some_iff.1 r1).1
    have hA1 := (Array.getElem?_eq_some_iff.1 r2).1
    by_cases hlt : j < code.length
    · obtain ⟨bu, ou, i0, i1, i2, i3, i4, i5, i6, rfl, _, hbu, hi, c0, c1, c2, c3, c4, c5, c6, _⟩ := Ins_get (HC.out.stays InsKeeps bw) j hlt
      have tk := all_take (insOk (sizes.length : Nat) slots) code j hlt
      have no := all_no (insOk (sizes.length : Nat) slots) code j hlt
      rw [hi] at tk no
      rw [hok.out, Bool.true_and] at tk
      obtain ⟨r, hr⟩ : ∃ r, insOk (sizes.length : Nat) slots ⟨i0, i1, i2, i3, i4, i5, i6⟩ = r := ⟨_, rfl⟩
      rw [hr] at tk no
      have LO : Hid (∀ W', Calls Try.prog 46 #[.agg #[.slice us sizes.length cs, .int .i64 params, .int .i64 vars, .int .i64 slots, .slice ub blocks.length cb], .agg #[.int .i64 i0, .int .i64 i1, .int .i64 i2, .int .i64 i3, .int .i64 i4, .int .i64 i5, .string i6]] W' fun en w' => en = .returned (.bool r) ∧ Below W'.heap.size W' w') := fun W' => by rw [← hr]; exact l04Ins_any slots us cs _ params vars ub _ cb i0 i1 i2 i3 i4 i5 i6 W' hlz hV hV2
      have SK : Hid (∀ W', Below wr.heap.size wr W' → W'.cell? ⟨w.heap.size, 0, none⟩ = some (.slice us sizes.length cs) ∧ W'.cell? ⟨w.heap.size, 1, none⟩ = some (.int .i64 params) ∧ W'.cell? ⟨w.heap.size, 2, none⟩ = some (.int .i64 vars) ∧ W'.cell? ⟨w.heap.size, 3, none⟩ = some (.int .i64 slots) ∧ W'.cell? ⟨w.heap.size, 4, none⟩ = some (.slice ub blocks.length cb) ∧ W'.cell? ⟨w.heap.size + 1, 0, none⟩ = some (.slice (some ⟨bu, ou, none⟩) code.length kc) ∧ W'.cell? ⟨w.heap.size + 1, 1, none⟩ = some (.int .i64 jump) ∧ W'.cell? ⟨w.heap.size + 1, 2, none⟩ = some (.int .i64 ja) ∧ W'.cell? ⟨w.heap.size + 1, 3, none⟩ = some (.int .i64 to) ∧ W'.cell? ⟨w.heap.size + 1, 4, none⟩ = some (.int .i64 els) ∧ W'.cell? ⟨bu, ou + j * 7, none⟩ = some (.int .i64 i0) ∧ W'.cell? ⟨bu, ou + j * 7 + 1, none⟩ = some (.int .i64 i1) ∧ W'.cell? ⟨bu, ou + j * 7 + 2, none⟩ = some (.int .i64 i2) ∧ W'.cell? ⟨bu, ou + j * 7 + 3, none⟩ = some (.int .i64 i3) ∧ W'.cell? ⟨bu, ou + j * 7 + 4, none⟩ = some (.int .i64 i4) ∧ W'.cell? ⟨bu, ou + j * 7 + 5, none⟩ = some (.int .i64 i5) ∧ W'.cell? ⟨bu, ou + j * 7 + 6, none⟩ = some (.string i6)) := fun W' hW => by
        have e0 := (cells_of r1).1
        have e1 := (cells_of r2).1
        exact ⟨(hW.cell (p := ⟨w.heap.size, 0, none⟩) hA0).trans (e0 0), (hW.cell (p := ⟨w.heap.size, 1, none⟩) hA0).trans (e0 1), (hW.cell (p := ⟨w.heap.size, 2, none⟩) hA0).trans (e0 2), (hW.cell (p := ⟨w.heap.size, 3, none⟩) hA0).trans (e0 3), (hW.cell (p := ⟨w.heap.size, 4, none⟩) hA0).trans (e0 4), (hW.cell (p := ⟨w.heap.size + 1, 0, none⟩) hA1).trans (e1 0), (hW.cell (p := ⟨w.heap.size + 1, 1, none⟩) hA1).trans (e1 1), (hW.cell (p := ⟨w.heap.size + 1, 2, none⟩) hA1).trans (e1 2), (hW.cell (p := ⟨w.heap.size + 1, 3, none⟩) hA1).trans (e1 3), (hW.cell (p := ⟨w.heap.size + 1, 4, none⟩) hA1).trans (e1 4), (hW.cell (p := ⟨bu, _, none⟩) hbu).trans c0, (hW.cell (p := ⟨bu, _, none⟩) hbu).trans c1, (hW.cell (p := ⟨bu, _, none⟩) hbu).trans c2, (hW.cell (p := ⟨bu, _, none⟩) hbu).trans c3, (hW.cell (p := ⟨bu, _, none⟩) hbu).trans c4, (hW.cell (p := ⟨bu, _, none⟩) hbu).trans c5, (hW.cell (p := ⟨bu, _, none⟩) hbu).trans c6⟩
      have m0 := (cells_of r2).1 0
      simp at m0
      have jj : (j : Int) < (code.length : Int) := by omega
      have TK := hideP tk
      have NO := hideP no
      have BWr := hideP bw
      clear hr tk no r1 r2 hi c0 c1 c2 c3 c4 c5 c6 hA0 hA1 hbu bw
      go_wp2
      clear m0
      go_region_held3 (fun W' => W'.cell? ⟨w.heap.size, 0, none⟩ = some (.slice us sizes.length cs) ∧ W'.cell? ⟨w.heap.size, 1, none⟩ = some (.int .i64 params) ∧ W'.cell? ⟨w.heap.size, 2, none⟩ = some (.int .i64 vars) ∧ W'.cell? ⟨w.heap.size, 3, none⟩ = some (.int .i64 slots) ∧ W'.cell? ⟨w.heap.size, 4, none⟩ = some (.slice ub blocks.length cb) ∧ W'.cell? ⟨w.heap.size + 1, 0, none⟩ = some (.slice (some ⟨bu, ou, none⟩) code.length kc) ∧ W'.cell? ⟨w.heap.size + 1, 1, none⟩ = some (.int .i64 jump) ∧ W'.cell? ⟨w.heap.size + 1, 2, none⟩ = some (.int .i64 ja) ∧ W'.cell? ⟨w.heap.size + 1, 3, none⟩ = some (.int .i64 to) ∧ W'.cell? ⟨w.heap.size + 1, 4, none⟩ = some (.int .i64 els) ∧ W'.cell? ⟨bu, ou + j * 7, none⟩ = some (.int .i64 i0) ∧ W'.cell? ⟨bu, ou + j * 7 + 1, none⟩ = some (.int .i64 i1) ∧ W'.cell? ⟨bu, ou + j * 7 + 2, none⟩ = some (.int .i64 i2) ∧ W'.cell? ⟨bu, ou + j * 7 + 3, none⟩ = some (.int .i64 i3) ∧ W'.cell? ⟨bu, ou + j * 7 + 4, none⟩ = some (.int .i64 i4) ∧ W'.cell? ⟨bu, ou + j * 7 + 5, none⟩ = some (.int .i64 i5) ∧ W'.cell? ⟨bu, ou + j * 7 + 6, none⟩ = some (.string i6)) (first | exact SK.out _ (Below.refl _ _).drew | exact SK.out _ HB1.out) (first | (go_at_call 46; refine (LO.out _).mono ?_; rintro e1 w1 ⟨rfl, bel1⟩; have HB1 := hideP ((Below.refl wr.heap.size wr).drew.trans (bel1.mono (Nat.le_refl _))); clear bel1))
      all_goals
        cases r
        · go_wp2
          go_ret
          exact ⟨ret_bool (by rw [NO.out (by first | rfl | trivial)]; rfl), BWr.out.trans (HB1.out.mono BWr.out.size)⟩
        · go_wp2
          go_roundw
          case rel => exact ⟨j + 1, by omega, by go_num, hbr.out.trans (HB1.out.mono hbr.out.size), TK.out⟩
          case measure => simp [intOf]; omega
    · obtain rfl : j = code.length := by omega
      have h1 := hok.out
      rw [List.take_length] at h1
      have E : Hid ((code.all (insOk (sizes.length : Nat) slots) && jmpOk slots blocks.length ⟨code, jump, ja, to, els⟩) = jmpOk slots blocks.length ⟨code, jump, ja, to, els⟩) := by show _ = _; rw [h1]; rfl
      have p3 := (cells_of r1).1 3
      have p4 := (cells_of r1).1 4
      have m0 := (cells_of r2).1 0
      have m1 := (cells_of r2).1 1
      have m2 := (cells_of r2).1 2
      have m3 := (cells_of r2).1 3
      have m4 := (cells_of r2).1 4
      simp at p3 p4 m0 m1 m2 m3 m4
      have BWr := hideP bw
      clear h1 hok r1 r2 bw
      go_wp2_with (first | (go_at_call 30; refine (l01In_v slots _ _ (by first | rfl | (rw [IntKind.wrap_i64]; omega)) _).mono ?_; rintro e1 w1 ⟨rfl, rfl⟩) | (go_at_call 30; refine (l01In_v (blocks.length : Nat) _ _ (by first | rfl | (rw [IntKind.wrap_i64]; omega)) _).mono ?_; rintro e1 w1 ⟨rfl, rfl⟩))
      all_goals go_ret
      all_goals refine ⟨ret_bool ?_, BWr.out⟩
      all_goals rw [E.out]
      all_goals clear E BWr HC
      all_goals first | (simp [jmpOk, *]; done) | (simp_all [jmpOk]; done) | (rw [dz]; simp_all [jmpOk]; done) | trace_state
end Go.Proofs.Ytobpcfelgobedab
