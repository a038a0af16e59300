/- The program's iterator over the steps of blocks: its contract, for every loop body that keeps what lay there when the graph did. -/
import Derived.Test.YtobpcfelgobedabGrOkP
import Derived.RangeFuncNested
import Derived.RangeFuncBound
import Derived.RangeFuncCalls
import Derived.RangeFuncLeaves
import Derived.Shelf.Abstract
import Derived.Shelf.RegionOpen
import Derived.WalkKit
import Derived.OwnWalkIn
import Derived.TacticsInMore
import Derived.LoopNIn
import Derived.LoopIn
namespace Go.Proofs.Ytobpcfelgobedab
open Go.ChangeShapes Go.WideShapes Go.ChangeAt Go.RowKit Go.Shelf
attribute [local go_sem] Oper.semAt_some
theorem codeAll_take (bs : List Blk) (i : Nat) (h : i < bs.length) : codeAll (bs.take (i + 1)) = codeAll (bs.take i) ++ bs[i].code := by
  unfold codeAll
  rw [List.take_succ_eq_append_getElem h, List.flatMap_append, List.flatMap_cons, List.flatMap_nil, List.append_nil]
theorem codeAll_pre (bs : List Blk) (i : Nat) : codeAll (bs.take i) <+: codeAll bs := by
  unfold codeAll
  conv => rhs; rw [← List.take_append_drop i bs, List.flatMap_append]
  exact List.prefix_append _ _
theorem take_snoc {α : Type} (l : List α) (k : Nat) (h : k < l.length) : l.take (k + 1) = l.take k ++ [l[k]] := List.take_succ_eq_append_getElem h
def insCells (x : Ins) : Array Value := #[.int .i64 x.op, .int .i64 x.d, .int .i64 x.a, .int .i64 x.b, .int .i64 x.c, .int .i64 x.n, .string x.t]
set_option maxRecDepth 100000 in
set_option maxHeartbeats 4000000 in
theorem steps_in (F : Fence) (n : Nat) (hF : F.fn 37) (hro : F.round = none) (hn : 1 ≤ n) (l : Nat) (w0 : World) (B : Nat) (bs : List Blk) (a : Option Addr) (cap : Nat) (h : SlIs BlkIs 5 w0 B a bs) (J Jx : List Ins → World → Prop)
    (hJa : ∀ pre W o, J pre W → J pre (W.alloc o))
    (hY : ∀ pre x W, J pre W → x.wf → x.t.size ≤ maxLen → YieldAt F (n - 1) Try.prog l #[.agg (insCells x)] W fun e W' =>
      (e = .returned (.bool true) ∧ J (pre ++ [x]) W' ∧ Below w0.heap.size W W') ∨ (e = .returned (.bool false) ∧ Jx (pre ++ [x]) W'))
    (W : World) (hW : Below w0.heap.size w0 W) (h0 : J [] W) :
    CallsIn F n Try.prog 37 #[.slice a bs.length cap, .func (.yield l) #[] #[]] W fun e W' => (∃ v, e = .returned v) ∧
      ((J (codeAll bs) W' ∧ Below w0.heap.size w0 W') ∨ ∃ pre, pre <+: codeAll bs ∧ Jx pre W') := by
  have hm := maxLen_lt
  have hl := h.1
  have H := hideP h
  have HJ := hideP hJa
  have HY := hideP hY
  clear h hJa hY
  refine callsIn_of_wp Try.func37 rfl hF ?_ hro
  simp only [Try.ntmps37, List.size_toArray, List.length_cons, List.length_nil, Nat.reduceAdd, Nat.reduceSub, Array.replicate_succ, Array.replicate_zero, List.push_toArray, List.append_toArray, List.nil_append, List.cons_append]
  gi_wp2
  gi_loopw [10] (fun i wr => ∃ j : Nat, j ≤ bs.length ∧ i = .int .i64 j ∧ Hid (J (codeAll (bs.take j)) wr) ∧ Hid (Below w0.heap.size w0 wr)) (fun i _ => bs.length - (intOf i).toNat)
  case atStart => exact ⟨0, Nat.zero_le _, rfl, h0, hW⟩
  case round =>
    obtain ⟨j, hj, rfl, hJs, hbel⟩ := hrel
    by_cases hlt : j < bs.length
    · obtain ⟨b, o, x0, x1, x2, x3, x4, ux, kx, rfl, _, hb, hx, p0, p1, p2, p3, p4, hbX⟩ := Blk_get H.out j hlt
      replace p0 := (hbel.out.cell (p := ⟨b, _, none⟩) hb).trans p0
      replace p1 := (hbel.out.cell (p := ⟨b, _, none⟩) hb).trans p1
      replace p2 := (hbel.out.cell (p := ⟨b, _, none⟩) hb).trans p2
      replace p3 := (hbel.out.cell (p := ⟨b, _, none⟩) hb).trans p3
      replace p4 := (hbel.out.cell (p := ⟨b, _, none⟩) hb).trans p4
      have hsz := hbel.out.size
      have hcl := hbX
      obtain ⟨u', c', hv, _, hcode⟩ := hcl
      simp at hv
      obtain ⟨⟨rfl, rfl⟩, -⟩ := hv
      have hlc := hcode.1
      have HC := hideP hcode
      have HX := hideP hx
      have HT := hideP (codeAll_take bs j hlt)
      have HP := hideP (codeAll_pre bs (j + 1))
      clear hx hbX hcode
      gi_wp2
      clear p0 p1 p2 p3 p4
      gi_loopw [17] (fun i wq => ∃ k : Nat, k ≤ x0.length ∧ i = .int .i64 k ∧ Hid (J (codeAll (bs.take j) ++ x0.take k) wq) ∧ Hid (Below w0.heap.size w0 wq) ∧ Hid (Below w0.heap.size wr wq)) (fun i _ => x0.length - (intOf i).toNat)
      case atStart => exact ⟨0, Nat.zero_le _, rfl, by show J _ _; simpa using HJ.out _ _ _ hJs.out, hbel.out.alloc hsz _, (Below.refl _ _).alloc hsz _⟩
      case round =>
        obtain ⟨k, hk, rfl, hJk, hbk, hbr⟩ := hrel
        by_cases hlk : k < x0.length
        · obtain ⟨bu, ou, i0, i1, i2, i3, i4, i5, i6, rfl, _, hbu, hi, c0, c1, c2, c3, c4, c5, c6, hI⟩ := Ins_get HC.out k hlk
          replace c0 := (hbk.out.cell (p := ⟨bu, _, none⟩) hbu).trans c0
          replace c1 := (hbk.out.cell (p := ⟨bu, _, none⟩) hbu).trans c1
          replace c2 := (hbk.out.cell (p := ⟨bu, _, none⟩) hbu).trans c2
          replace c3 := (hbk.out.cell (p := ⟨bu, _, none⟩) hbu).trans c3
          replace c4 := (hbk.out.cell (p := ⟨bu, _, none⟩) hbu).trans c4
          replace c5 := (hbk.out.cell (p := ⟨bu, _, none⟩) hbu).trans c5
          replace c6 := (hbk.out.cell (p := ⟨bu, _, none⟩) hbu).trans c6
          have hsk := hbk.out.size
          have tk := take_snoc x0 k hlk
          rw [hi] at tk
          have HK := hideP tk
          obtain ⟨fn, tmps, assign, body, hy, hR⟩ := HY.out _ ⟨i0, i1, i2, i3, i4, i5, i6⟩ (wr.alloc (.cells (insCells ⟨i0, i1, i2, i3, i4, i5, i6⟩) 62)) (HJ.out _ _ _ hJk.out) hI.2.1 hI.2.2
          simp only [insCells] at hy hR
          clear tk hi hI
          gi_wp2
          refine hR.mono ?_
          rintro e W3 (⟨rfl, hJ3, hk3⟩ | ⟨rfl, hJx3⟩)
          · clear c0 c1 c2 c3 c4 c5 c6 hy hR
            gi_wp2
            go_roundw
            case rel => exact ⟨k + 1, by omega, by go_num, by show J _ _; rw [HK.out, ← List.append_assoc]; exact hJ3, (hbk.out.alloc hsk _).trans hk3, (hbr.out.alloc (Nat.le_trans hbel.out.size (by first | exact hbr.out.size | exact Nat.le_of_lt (by omega) | omega)) _).trans hk3⟩
            case measure => simp [intOf]; omega
          · clear c0 c1 c2 c3 c4 c5 c6 hy hR
            gi_wp2
            refine bodyPost_ret (results_none rfl _ _ _) rfl ?_
            exact ⟨⟨_, rfl⟩, .inr ⟨_, List.IsPrefix.trans ⟨x0.drop (k + 1), by rw [HT.out, HX.out, List.append_assoc, List.append_assoc, ← List.append_assoc (x0.take k), ← HK.out, List.take_append_drop]⟩ HP.out, hJx3⟩⟩
        · obtain rfl : k = x0.length := by omega
          gi_wp2
          go_roundw
          case rel => exact ⟨j + 1, by omega, by go_num, by show J _ _; rw [HT.out, HX.out]; have := hJk.out; rwa [List.take_length] at this, hbk.out⟩
          case measure => simp [intOf]; omega
    · obtain rfl : j = bs.length := by omega
      gi_wp2
      go_end0
      exact ⟨⟨_, rfl⟩, .inl ⟨by have := hJs.out; rwa [List.take_length] at this, hbel.out⟩⟩
end Go.Proofs.Ytobpcfelgobedab
