/- The contract of spec.l07Count. -/
import Derived.Test.YtljeahjcfbcbgaaCntP
import Derived.Deep.CutRange
import Derived.Deep.RegionHeld3
import Derived.Deep.LoopGhost
namespace Go.Proofs.Ytljeahjcfbcbgaa
open Go.ChangeShapes Go.WideShapes Go.ChangeAt Go.RowKit
set_option maxHeartbeats 4000000 in
set_option maxRecDepth 100000 in
theorem l07Count_any (op : Int) (g : Gr) (w : World) (B : Nat) (v : Array Value) (h : GrIs w B v g) (hn : (codeAll g.blocks).length ≤ 1048576) :
    Calls Try.prog 42 #[.agg v, .int .i64 op] w fun en w' => en = .returned (.int .i64 ((cntP op (codeAll g.blocks) : Nat) : Int)) ∧ Below w.heap.size w w' := by
  obtain ⟨sizes, params, vars, slots, blocks⟩ := g
  obtain ⟨us, cs, ub, cb, rfl, _, _, hb⟩ := h
  simp only at *
  have hm := maxLen_lt
  have hlb := hb.1
  have BW : Hid (Below w.heap.size w (w.alloc (.cells #[.slice us sizes.length cs, .int .i64 params, .int .i64 vars, .int .i64 slots, .slice ub blocks.length cb] 29))) := (Below.refl _ _).alloc (Nat.le_refl _) _
  have HB := hideP (hb.stays BlkKeeps BW.out)
  have Q1 : (w.alloc (.cells #[.slice us sizes.length cs, .int .i64 params, .int .i64 vars, .int .i64 slots, .slice ub blocks.length cb] 29)).heap[w.heap.size]? = some (.cells #[.slice us sizes.length cs, .int .i64 params, .int .i64 vars, .int .i64 slots, .slice ub blocks.length cb] 29) := by show (w.heap.push _)[w.heap.size]? = _; exact Array.getElem?_push_size
  have HQ := hideP Q1
  have HN := hideP hn
  clear hb Q1 hn
  obtain ⟨R, hR⟩ : ∃ R, cntP op (codeAll blocks) = R := ⟨_, rfl⟩
  rw [hR]
  have HR := hideP hR
  clear hR
  go_enter Try.func42, Try.ntmps42
  go_upto_region 1 with fail
  obtain ⟨WG, hWG⟩ : ∃ WG, (w.alloc (.cells #[.slice us sizes.length cs, .int .i64 params, .int .i64 vars, .int .i64 slots, .slice ub blocks.length cb] 29)) = WG := ⟨_, rfl⟩
  rw [hWG] at BW HB HQ ⊢
  clear hWG
  have p4 := (cells_of HQ.out).1 4
  simp at p4
  go_wp2
  go_loopg [5, 6] blocks.length (fun gk n i wr => ∃ j m : Nat, gk + j = blocks.length ∧ i = .int .i64 j ∧ n = .int .i64 m ∧ Hid (m = cntP op (codeAll (blocks.take j))) ∧ wr = WG)
  case atStart => exact ⟨0, 0, by simp, rfl, rfl, show _ = _ by simp [codeAll, cntP], rfl⟩
  case round =>
    obtain ⟨j, m, hj, rfl, rfl, hmm, rfl⟩ := hrel
    by_cases hlt : j < blocks.length
    · obtain ⟨b, o, x0, x1, x2, x3, x4, ux, kx, rfl, _, hbb, hx, q0, q1, q2, q3, q4, hbX⟩ := Blk_get HB.out j hlt
      obtain ⟨u', c', hv, _, hcode⟩ := hbX
      simp at hv
      obtain ⟨⟨rfl, rfl⟩, -⟩ := hv
      have hle := code_leC hlt
      rw [hx] at hle
      simp only at hle
      have hmb : m + x0.length ≤ 1048576 := by rw [hmm.out]; have := cntP_le op (codeAll (blocks.take j)); have := HN.out; omega
      have hlc := hcode.1
      have HC := hideP hcode
      have TK : Hid (cntP op (codeAll (blocks.take (j + 1))) = m + cntP op x0) := by show _ = _; rw [codeAll_take blocks j hlt, cntP_append, hx, ← hmm.out]
      clear hcode hle hx q1 q2 q3 q4
      go_wp2
      go_loopg [5, 7] x0.length (fun hk n k wr2 => ∃ i m2 : Nat, hk + i = x0.length ∧ k = .int .i64 i ∧ n = .int .i64 m2 ∧ Hid (m2 = m + cntP op (x0.take i)) ∧ wr2 = wr)
      case atStart => exact ⟨0, m, by simp, rfl, rfl, show _ = _ by simp [cntP], rfl⟩
      case round =>
        obtain ⟨i, m2, hi, rfl, rfl, hm2, rfl⟩ := hrel
        by_cases hlt2 : i < x0.length
        · obtain ⟨bi, oi, y0, y1, y2, y3, y4, y5, y6, rfl, _, hbi, hy, r0, r1, r2, r3, r4, r5, r6, _⟩ := Ins_get HC.out i hlt2
          have hmb2 : m2 + 1 ≤ 1048576 := by rw [hm2.out]; have := cntP_le op (x0.take i); simp at this; omega
          have TI : Hid (m + cntP op (x0.take (i + 1)) = m2 + (if y0 = op then 1 else 0)) := by show _ = _; rw [List.take_succ_eq_append_getElem hlt2, cntP_snoc, hy, hm2.out, Nat.add_assoc]
          clear hy r1 r2 r3 r4 r5 r6
          by_cases hc : y0 = op
          · have E : Hid (m + cntP op (x0.take (i + 1)) = m2 + 1) := by show _ = _; rw [TI.out, if_pos hc]
            subst hc
            go_wp2
            go_roundg (x0.length - (i + 1))
            case rel => exact ⟨i + 1, m2 + 1, by omega, by go_num, by go_num, E.out.symm, rfl⟩
            case measure => omega
          · have E : Hid (m + cntP op (x0.take (i + 1)) = m2) := by show _ = _; rw [TI.out, if_neg hc]; rfl
            have hc2 : (y0 == op) = false := by simpa using hc
            go_wp2
            go_roundg (x0.length - (i + 1))
            case rel => exact ⟨i + 1, m2, by omega, by go_num, rfl, E.out.symm, rfl⟩
            case measure => omega
        · have hin : i = x0.length := by omega
          subst hin
          rw [List.take_length] at hm2
          go_wp2
          go_roundg (blocks.length - (j + 1))
          case rel => exact ⟨j + 1, m2, by omega, by go_num, rfl, by show _ = _; rw [TK.out]; exact hm2.out, rfl⟩
          case measure => omega
    · have hjn : j = blocks.length := by omega
      subst hjn
      rw [List.take_length] at hmm
      go_wp2
      go_ret
      exact ⟨ret_int (by rw [← HR.out, ← hmm.out]), BW.out⟩
theorem spec_loads (g : Gr) (w : World) (B : Nat) (v : Array Value) (h : GrIs w B v g) (hn : (codeAll g.blocks).length ≤ 1048576) :
    Calls Try.prog 16 #[.agg v] w fun en w' => en = .returned (.int .i64 ((cntP 3 (codeAll g.blocks) : Nat) : Int)) ∧ Below w.heap.size w w' := by
  have CT := hideP (fun W hW => l07Count_any 3 g W B v (GrKeeps.stays h hW) hn)
  obtain ⟨R, hR⟩ : ∃ R, ((cntP 3 (codeAll g.blocks) : Nat) : Int) = R := ⟨_, rfl⟩
  rw [hR] at CT ⊢
  obtain ⟨us, cs, ub, cb, rfl, _⟩ := h
  clear hR
  have al := (Below.refl w.heap.size w).alloc (Nat.le_refl _) (.cells #[.slice us g.sizes.length cs, .int .i64 g.params, .int .i64 g.vars, .int .i64 g.slots, .slice ub g.blocks.length cb] 29)
  go_enter Try.func16, Try.ntmps16
  go_wp2_with fail
  refine (CT.out _ al).mono ?_
  rintro e1 w1 ⟨rfl, bel1⟩
  go_wp2
  go_ret
  exact ⟨rfl, below_trans al bel1⟩
theorem spec_stores (g : Gr) (w : World) (B : Nat) (v : Array Value) (h : GrIs w B v g) (hn : (codeAll g.blocks).length ≤ 1048576) :
    Calls Try.prog 18 #[.agg v] w fun en w' => en = .returned (.int .i64 ((cntP 4 (codeAll g.blocks) : Nat) : Int)) ∧ Below w.heap.size w w' := by
  have CT := hideP (fun W hW => l07Count_any 4 g W B v (GrKeeps.stays h hW) hn)
  obtain ⟨R, hR⟩ : ∃ R, ((cntP 4 (codeAll g.blocks) : Nat) : Int) = R := ⟨_, rfl⟩
  rw [hR] at CT ⊢
  obtain ⟨us, cs, ub, cb, rfl, _⟩ := h
  clear hR
  have al := (Below.refl w.heap.size w).alloc (Nat.le_refl _) (.cells #[.slice us g.sizes.length cs, .int .i64 g.params, .int .i64 g.vars, .int .i64 g.slots, .slice ub g.blocks.length cb] 29)
  go_enter Try.func18, Try.ntmps18
  go_wp2_with fail
  refine (CT.out _ al).mono ?_
  rintro e1 w1 ⟨rfl, bel1⟩
  go_wp2
  go_ret
  exact ⟨rfl, below_trans al bel1⟩
end Go.Proofs.Ytljeahjcfbcbgaa
