/- The contract of szIntSS. -/
import Derived.Test.YtpbmnajlkgjkfabIntSD
namespace Go.Proofs.Ytpbmnajlkgjkfab
open Go.ChangeShapes Go.WideShapes Go.ChangeAt Go.RowKit
set_option maxHeartbeats 1000000 in
theorem szIntSS_any (es : List Rw) (w : World) (B : Nat) (a' : Option Addr) (cap L : Nat) (h : SlIs RwIs 1 w B a' es) (hL : L ≤ 1048576) :
    Calls Try.prog 14 #[.slice a' es.length cap, .int .i64 L] w fun en w' => en = .returned (.int .i64 (szR (slSz Rw.sz es) L)) ∧ w' = w := by
  have hm := maxLen_lt
  have hl := h.1
  by_cases h0 : L < es.length
  · have e1 : szR (slSz Rw.sz es) L = -1 := szR_neg (by unfold slSz; omega)
    rw [e1]
    clear e1
    go_enter Try.func14, Try.ntmps14
    go_wp2
    go_ret
    exact ⟨rfl, rfl⟩
  · have H := hideP h
    clear h
    go_enter Try.func14, Try.ntmps14
    go_wp2
    go_loopw [1, 5] (fun l i wr => ∃ j M : Nat, j ≤ es.length ∧ i = .int .i64 j ∧ l = .int .i64 M ∧ Hid (M + (es.length + slSum Rw.sz (es.take j)) = L) ∧ wr = w) (fun _ i _ => es.length - (intOf i).toNat)
    case atStart => exact ⟨0, L - es.length, Nat.zero_le _, rfl, by go_num, show _ = _ by simp [slSum]; omega, rfl⟩
    case round =>
      obtain ⟨j, M, hj, rfl, rfl, hM, hwr⟩ := hrel
      subst hwr
      by_cases hlt : j < es.length
      · obtain ⟨b', o', u, c, rfl, _, hb, k0, hx⟩ := Rw_get H.out j hlt
        have hxl := hx.1
        have hM' := hM.out
        clear hx
        go_wp2_with fail
        refine (szIntS_any _ u es[j].length c M hxl (by omega)).mono ?_
        rintro e1 w1 ⟨rfl, hw1⟩
        obtain rfl := hw1
        have htk := slSum_take Rw.sz es j hlt
        have hle := slSum_le Rw.sz es (j + 1)
        have hsz : Rw.sz es[j] = es[j].length := rfl
        rw [hsz] at htk
        clear k0
        by_cases hs : es[j].length ≤ M
        · rw [szR_pos hs]
          have HT := hideP htk
          have HS := hideP hs
          clear htk hs hle hM' hsz
          go_wp2
          go_roundw
          case rel => exact ⟨j + 1, M - es[j].length, by omega, by go_num, rfl, show _ = _ by have h1 := hM.out; have h2 := HT.out; have h3 := HS.out; omega, by trivial⟩
          case measure => simp [intOf]; omega
        · rw [szR_neg (by omega)]
          have E1 : Hid (szR (slSz Rw.sz es) L = -1) := szR_neg (by unfold slSz; omega)
          clear htk hle hM' hs hsz
          go_wp2
          go_ret
          exact ⟨ret_int E1.out.symm, rfl⟩
      · have hjn : j = es.length := by omega
        subst hjn
        go_wp2
        go_ret
        have h1 := hM.out
        rw [List.take_length] at h1
        exact ⟨ret_int (by rw [szR_pos (by unfold slSz; omega)]; unfold slSz; omega), rfl⟩
end Go.Proofs.Ytpbmnajlkgjkfab
