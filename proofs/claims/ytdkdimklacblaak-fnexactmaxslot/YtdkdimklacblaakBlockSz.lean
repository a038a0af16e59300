/- The contracts of szBlock and szBlockS (written by wip/mkshape.py). -/
import Derived.Test.YtdkdimklacblaakBlockD
import Derived.Test.YtdkdimklacblaakInstrSz
namespace Go.Proofs.Ytdkdimklacblaak
open Go.ChangeShapes Go.WideShapes Go.ChangeAt Go.RowKit
set_option maxHeartbeats 1000000 in
theorem szBlock_any (x : Blk) (w : World) (B : Nat) (v : Array Value) (L : Nat) (h : BlkIs w B v x) (hL : L ≤ 1048576) :
    Calls Try.prog 42 #[.agg v, .int .i64 L] w fun en w' => en = .returned (.int .i64 (szR x.sz L)) ∧ Below w.heap.size w w' := by
  obtain ⟨code, jump, a, to, els⟩ := x
  obtain ⟨ucode, ccode, rfl, _, hcode⟩ := h
  have hm := maxLen_lt
  simp only [Blk.sz] at *
  have Hcode := hideP hcode
  clear hcode
  go_enter Try.func42, Try.ntmps42
  go_wp2_with fail
  refine (szInstrS_any code _ B ucode ccode (L) (Hcode.out.stays InsKeeps ((Below.refl _ _).alloc (Nat.le_refl _) _)) (by omega)).mono ?_
  rintro e1 w1 ⟨rfl, bel1⟩
  have hw1 := hideP (below_new bel1)
  clear bel1
  by_cases hs0 : slSz Ins.sz code ≤ L
  · rw [szR_pos hs0]
    have HS0 := hideP hs0
    clear hs0
    go_wp2
    go_ret
    exact ⟨ret_int (by have := HS0.out; rw [szR_pos (show (slSz Ins.sz code) ≤ L by omega)]; first | done | omega), hw1.out⟩
  · rw [szR_neg (by omega)]
    have E1 : Hid (szR ((slSz Ins.sz code)) L = -1) := szR_neg (by omega)
    clear hs0
    go_wp2
    go_ret
    exact ⟨ret_int E1.out.symm, hw1.out⟩
set_option maxHeartbeats 1000000 in
theorem szBlockS_any (es : List Blk) (w : World) (B : Nat) (a' : Option Addr) (cap L : Nat) (h : SlIs BlkIs 5 w B a' es) (hL : L ≤ 1048576) :
    Calls Try.prog 20 #[.slice a' es.length cap, .int .i64 L] w fun en w' => en = .returned (.int .i64 (szR (slSz Blk.sz es) L)) ∧ Below w.heap.size w w' := by
  have hm := maxLen_lt
  have hl := h.1
  by_cases h0 : L < es.length
  · have e1 : szR (slSz Blk.sz es) L = -1 := szR_neg (by unfold slSz; omega)
    rw [e1]
    clear e1
    go_enter Try.func20, Try.ntmps20
    go_wp2
    go_ret
    exact ⟨rfl, Below.refl _ _⟩
  · have H := hideP h
    clear h
    go_enter Try.func20, Try.ntmps20
    go_wp2
    go_loopw [1, 5] (fun l i wr => ∃ j M : Nat, j ≤ es.length ∧ i = .int .i64 j ∧ l = .int .i64 M ∧ Hid (M + (es.length + slSum Blk.sz (es.take j)) = L) ∧ Below w.heap.size w wr) (fun _ i _ => es.length - (intOf i).toNat)
    case atStart => exact ⟨0, L - es.length, Nat.zero_le _, rfl, by go_num, show _ = _ by simp [slSum]; omega, Below.refl _ _⟩
    case round =>
      obtain ⟨j, M, hj, rfl, rfl, hM, bel⟩ := hrel
      by_cases hlt : j < es.length
      · obtain ⟨b', o', code, jump, a, to, els, ucode, ccode, rfl, _, hb, he, k0, k1, k2, k3, k4, hx⟩ := Blk_get (H.out.stays BlkKeeps bel) j hlt
        have HE := hideP he
        have HX := hideP hx
        have HB := hideP bel
        have hsz := bel.size
        have hM' := hM.out
        clear he hx bel
        go_wp2_with fail
        refine (szBlock_any es[j] _ B _ M (by rw [HE.out]; exact HX.out) (by omega)).mono ?_
        rintro e1 w1 ⟨rfl, bel1⟩
        have hw1 : Hid (Below w.heap.size w w1) := HB.out.trans (bel1.mono hsz)
        have htk := slSum_take Blk.sz es j hlt
        have hle := slSum_le Blk.sz es (j + 1)
        clear bel1 k0 k1 k2 k3 k4
        by_cases hs : es[j].sz ≤ M
        · rw [szR_pos hs]
          have HT := hideP htk
          have HS := hideP hs
          clear htk hs hle hM'
          go_wp2
          go_roundw
          case rel => exact ⟨j + 1, M - es[j].sz, by omega, by go_num, rfl, show _ = _ by have h1 := hM.out; have h2 := HT.out; have h3 := HS.out; omega, hw1.out⟩
          case measure => simp [intOf]; omega
        · rw [szR_neg (by omega)]
          have E1 : Hid (szR (slSz Blk.sz es) L = -1) := szR_neg (by unfold slSz; omega)
          clear htk hle hM' hs
          go_wp2
          go_ret
          exact ⟨ret_int E1.out.symm, hw1.out⟩
      · have hjn : j = es.length := by omega
        subst hjn
        go_wp2
        go_ret
        have h1 := hM.out
        rw [List.take_length] at h1
        exact ⟨ret_int (by rw [szR_pos (by unfold slSz; omega)]; unfold slSz; omega), bel⟩
end Go.Proofs.Ytdkdimklacblaak
