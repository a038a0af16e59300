/- How many words of an Op there are; the contracts of spec.CountOp and impl.CountOp. -/
import Derived.Test.YtfoelnblnfcaiaaImageD
import Derived.Deep.CutRange
import Derived.Deep.RegionHeld3
import Derived.Deep.LoopGhost
namespace Go.Proofs.Ytfoelnblnfcaiaa
open Go.ChangeShapes Go.WideShapes Go.ChangeAt Go.RowKit
def cntW (op : Int) (l : List Wrd) : Nat := (l.filter fun x => x.op == op).length
theorem cntW_le (op : Int) (l : List Wrd) : cntW op l ≤ l.length := List.length_filter_le _ _
theorem cntW_snoc (op : Int) (l : List Wrd) (x : Wrd) : cntW op (l ++ [x]) = cntW op l + (if x.op = op then 1 else 0) := by
  unfold cntW
  rw [List.filter_append, List.length_append]
  by_cases h : x.op = op
  · simp [h]
  · simp [h]
theorem cntW_take (op : Int) (l : List Wrd) (i : Nat) (h : i < l.length) : cntW op (l.take (i + 1)) = cntW op (l.take i) + (if l[i].op = op then 1 else 0) := by
  rw [List.take_succ_eq_append_getElem h, cntW_snoc]
set_option maxHeartbeats 4000000 in
set_option maxRecDepth 100000 in
theorem spec_countOp (m : Img) (op : Int) (w : World) (B : Nat) (v : Array Value) (h : ImgIs w B v m) (hn : m.code.length ≤ 1048576) :
    Calls Try.prog 17 #[.agg v, .int .i64 op] w fun en w' => en = .returned (.int .i64 ((cntW op m.code : Nat) : Int)) ∧ Below w.heap.size w w' := by
  obtain ⟨sizes, params, slots, code⟩ := m
  obtain ⟨us, cs, ub, cb, rfl, _, _, hb⟩ := h
  simp only at *
  have hm := maxLen_lt
  have hlb := hb.1
  have BW : Hid (Below w.heap.size w (w.alloc (.cells #[.slice us sizes.length cs, .int .i64 params, .int .i64 slots, .slice ub code.length cb] 30))) := (Below.refl _ _).alloc (Nat.le_refl _) _
  have HB := hideP (hb.stays WrdKeeps BW.out)
  have Q1 : (w.alloc (.cells #[.slice us sizes.length cs, .int .i64 params, .int .i64 slots, .slice ub code.length cb] 30)).heap[w.heap.size]? = some (.cells #[.slice us sizes.length cs, .int .i64 params, .int .i64 slots, .slice ub code.length cb] 30) := by show (w.heap.push _)[w.heap.size]? = _; exact Array.getElem?_push_size
  have HQ := hideP Q1
  clear hb Q1
  obtain ⟨R, hR⟩ : ∃ R, cntW op code = R := ⟨_, rfl⟩
  rw [hR]
  have HR := hideP hR
  clear hR
  go_enter Try.func17, Try.ntmps17
  go_upto_region 1 with fail
  obtain ⟨WG, hWG⟩ : ∃ WG, (w.alloc (.cells #[.slice us sizes.length cs, .int .i64 params, .int .i64 slots, .slice ub code.length cb] 30)) = WG := ⟨_, rfl⟩
  rw [hWG] at BW HB HQ ⊢
  clear hWG
  have p3 := (cells_of HQ.out).1 3
  simp at p3
  go_wp2
  go_loopg [5, 6] code.length (fun gk n i wr => ∃ j m : Nat, gk + j = code.length ∧ i = .int .i64 j ∧ n = .int .i64 m ∧ Hid (m = cntW op (code.take j)) ∧ wr = WG)
  case atStart => exact ⟨0, 0, by simp, rfl, rfl, show _ = _ by simp [cntW], rfl⟩
  case round =>
    obtain ⟨j, m, hj, rfl, rfl, hmm, rfl⟩ := hrel
    by_cases hlt : j < code.length
    · obtain ⟨b, o, y0, y1, y2, y3, y4, rfl, _, hbi, hy, r0, r1, r2, r3, r4, _⟩ := Wrd_get HB.out j hlt
      have hmb2 : m + 1 ≤ 1048576 := by rw [hmm.out]; have := cntW_le op (code.take j); simp at this; omega
      have TI : Hid (cntW op (code.take (j + 1)) = m + (if y0 = op then 1 else 0)) := by show _ = _; rw [cntW_take op code j hlt, hy, ← hmm.out]
      clear hy r1 r2 r3 r4
      by_cases hc : y0 = op
      · have E : Hid (cntW op (code.take (j + 1)) = m + 1) := by show _ = _; rw [TI.out, if_pos hc]
        subst hc
        go_wp2
        go_roundg (code.length - (j + 1))
        case rel => exact ⟨j + 1, m + 1, by omega, by go_num, by go_num, E.out.symm, rfl⟩
        case measure => omega
      · have E : Hid (cntW op (code.take (j + 1)) = m) := by show _ = _; rw [TI.out, if_neg hc]; rfl
        have hc2 : (y0 == op) = false := by simpa using hc
        go_wp2
        go_roundg (code.length - (j + 1))
        case rel => exact ⟨j + 1, m, by omega, by go_num, rfl, E.out.symm, rfl⟩
        case measure => omega
    · have hjn : j = code.length := by omega
      subst hjn
      rw [List.take_length] at hmm
      go_wp2
      go_ret
      exact ⟨ret_int (by rw [← HR.out, ← hmm.out]), BW.out⟩
set_option maxHeartbeats 4000000 in
set_option maxRecDepth 100000 in
theorem impl_countOp (m : Img) (op : Int) (w : World) (B : Nat) (v : Array Value) (h : ImgIs w B v m) (hn : m.code.length ≤ 1048576) :
    Calls Try.prog 18 #[.agg v, .int .i64 op] w fun en w' => en = .returned (.int .i64 ((cntW op m.code : Nat) : Int)) ∧ Below w.heap.size w w' := by
  obtain ⟨sizes, params, slots, code⟩ := m
  obtain ⟨us, cs, ub, cb, rfl, _, _, hb⟩ := h
  simp only at *
  have hm := maxLen_lt
  have hlb := hb.1
  have HB := hideP hb
  clear hb
  obtain ⟨R, hR⟩ : ∃ R, cntW op code = R := ⟨_, rfl⟩
  rw [hR]
  have HR := hideP hR
  clear hR
  go_enter Try.func18, Try.ntmps18
  go_wp2
  go_loopg [5, 11] code.length (fun gk n i wr => ∃ j m : Nat, gk + j = code.length ∧ i = .int .i64 j ∧ n = .int .i64 m ∧ Hid (m = cntW op (code.take j)) ∧ Hid (Below w.heap.size w wr))
  case atStart => exact ⟨0, 0, by simp, rfl, rfl, show _ = _ by simp [cntW], (Below.refl _ _).alloc (Nat.le_refl _) _⟩
  case round =>
    obtain ⟨j, m, hj, rfl, rfl, hmm, bel⟩ := hrel
    by_cases hlt : j < code.length
    · obtain ⟨b, o, y0, y1, y2, y3, y4, rfl, _, hbi, hy, r0, r1, r2, r3, r4, _⟩ := Wrd_get (HB.out.stays WrdKeeps bel.out) j hlt
      have hmb2 : m + 1 ≤ 1048576 := by rw [hmm.out]; have := cntW_le op (code.take j); simp at this; omega
      have TI : Hid (cntW op (code.take (j + 1)) = m + (if y0 = op then 1 else 0)) := by show _ = _; rw [cntW_take op code j hlt, hy, ← hmm.out]
      clear hy
      by_cases hc : y0 = op
      · have E : Hid (cntW op (code.take (j + 1)) = m + 1) := by show _ = _; rw [TI.out, if_pos hc]
        subst hc
        go_wp2
        go_roundg (code.length - (j + 1))
        case rel => exact ⟨j + 1, m + 1, by omega, by go_num, by go_num, E.out.symm, bel.out.alloc bel.out.size _⟩
        case measure => omega
      · have E : Hid (cntW op (code.take (j + 1)) = m) := by show _ = _; rw [TI.out, if_neg hc]; rfl
        have hc2 : (y0 == op) = false := by simpa using hc
        go_wp2
        go_roundg (code.length - (j + 1))
        case rel => exact ⟨j + 1, m, by omega, by go_num, rfl, E.out.symm, bel.out.alloc bel.out.size _⟩
        case measure => omega
    · have hjn : j = code.length := by omega
      subst hjn
      rw [List.take_length] at hmm
      go_wp2
      go_ret
      exact ⟨ret_int (by rw [← HR.out, ← hmm.out]), bel.out⟩
end Go.Proofs.Ytfoelnblnfcaiaa
