/- The contracts of szInstr and szInstrS (written by wip/mkshape.py). -/
import Derived.Test.YtdkdimklacblaakInstrD
namespace Go.Proofs.Ytdkdimklacblaak
open Go.ChangeShapes Go.WideShapes Go.ChangeAt Go.RowKit
set_option maxHeartbeats 1000000 in
theorem szInstr_any (x : Ins) (w : World) (B : Nat) (v : Array Value) (L : Nat) (h : InsIs w B v x) (hL : L ≤ 1048576) :
    Calls Try.prog 69 #[.agg v, .int .i64 L] w fun en w' => en = .returned (.int .i64 (szR x.sz L)) ∧ Below w.heap.size w w' := by
  obtain ⟨op, d, a, b, c, n, t⟩ := x
  obtain ⟨rfl, _, st⟩ := h
  have hm := maxLen_lt
  simp only [Ins.sz] at *
  by_cases h0 : L < t.size
  · rw [szR_neg (by omega)]
    go_enter Try.func69, Try.ntmps69
    go_wp2
    go_ret
    exact ⟨rfl, (Below.refl _ _).alloc (Nat.le_refl _) _⟩
  · rw [szR_pos (by omega)]
    go_enter Try.func69, Try.ntmps69
    go_wp2
    go_ret
    exact ⟨ret_int (by omega), (Below.refl _ _).alloc (Nat.le_refl _) _⟩
set_option maxHeartbeats 1000000 in
theorem szInstrS_any (es : List Ins) (w : World) (B : Nat) (a' : Option Addr) (cap L : Nat) (h : SlIs InsIs 7 w B a' es) (hL : L ≤ 1048576) :
    Calls Try.prog 57 #[.slice a' es.length cap, .int .i64 L] w fun en w' => en = .returned (.int .i64 (szR (slSz Ins.sz es) L)) ∧ Below w.heap.size w w' := by
  have hm := maxLen_lt
  have hl := h.1
  by_cases h0 : L < es.length
  · have e1 : szR (slSz Ins.sz es) L = -1 := szR_neg (by unfold slSz; omega)
    rw [e1]
    clear e1
    go_enter Try.func57, Try.ntmps57
    go_wp2
    go_ret
    exact ⟨rfl, Below.refl _ _⟩
  · have H := hideP h
    clear h
    go_enter Try.func57, Try.ntmps57
    go_wp2
    go_loopw [1, 5] (fun l i wr => ∃ j M : Nat, j ≤ es.length ∧ i = .int .i64 j ∧ l = .int .i64 M ∧ Hid (M + (es.length + slSum Ins.sz (es.take j)) = L) ∧ Below w.heap.size w wr) (fun _ i _ => es.length - (intOf i).toNat)
    case atStart => exact ⟨0, L - es.length, Nat.zero_le _, rfl, by go_num, show _ = _ by simp [slSum]; omega, Below.refl _ _⟩
    case round =>
      obtain ⟨j, M, hj, rfl, rfl, hM, bel⟩ := hrel
      by_cases hlt : j < es.length
      · obtain ⟨b', o', op, d, a, b, c, n, t, rfl, _, hb, he, k0, k1, k2, k3, k4, k5, k6, hx⟩ := Ins_get (H.out.stays InsKeeps bel) j hlt
        have HE := hideP he
        have HX := hideP hx
        have HB := hideP bel
        have hsz := bel.size
        have hM' := hM.out
        clear he hx bel
        go_wp2_with fail
        refine (szInstr_any es[j] _ B _ M (by rw [HE.out]; exact HX.out) (by omega)).mono ?_
        rintro e1 w1 ⟨rfl, bel1⟩
        have hw1 : Hid (Below w.heap.size w w1) := HB.out.trans (bel1.mono hsz)
        have htk := slSum_take Ins.sz es j hlt
        have hle := slSum_le Ins.sz es (j + 1)
        clear bel1 k0 k1 k2 k3 k4 k5 k6
        by_cases hs : es[j].sz ≤ M
        · rw [szR_pos hs]
          have HT := hideP htk
          have HS := hideP hs
          clear htk hs hle hM'
          go_wp2
          go_roundw
          case rel => exact ⟨j + 1, M - es[j].sz, by omega, by go_num, rfl, show _ = _ by have h1 := hM.out; have h2 := HT.out; have h3 := HS.out; omega, hw1.out⟩
          case measure => simp [intOf]; omega
        · rw [szR_neg (by omega)]
          have E1 : Hid (szR (slSz Ins.sz es) L = -1) := szR_neg (by unfold slSz; omega)
          clear htk hle hM' hs
          go_wp2
          go_ret
          exact ⟨ret_int E1.out.symm, hw1.out⟩
      · have hjn : j = es.length := by omega
        subst hjn
        go_wp2
        go_ret
        have h1 := hM.out
        rw [List.take_length] at h1
        exact ⟨ret_int (by rw [szR_pos (by unfold slSz; omega)]; unfold slSz; omega), bel⟩
end Go.Proofs.Ytdkdimklacblaak
