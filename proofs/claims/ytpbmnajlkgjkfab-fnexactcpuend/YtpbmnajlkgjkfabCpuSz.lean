/- The contracts of szCpu and szCpuS (written by wip/mkshape.py). -/
import Derived.Test.YtpbmnajlkgjkfabCpuD
import Derived.Test.YtpbmnajlkgjkfabIntSSz
namespace Go.Proofs.Ytpbmnajlkgjkfab
open Go.ChangeShapes Go.WideShapes Go.ChangeAt Go.RowKit
set_option maxHeartbeats 1000000 in
theorem szCpu_any (x : Cp) (w : World) (B : Nat) (v : Array Value) (L : Nat) (h : CpIs w B v x) (hL : L ≤ 1048576) :
    Calls Try.prog 4 #[.agg v, .int .i64 L] w fun en w' => en = .returned (.int .i64 (szR x.sz L)) ∧ Below w.heap.size w w' := by
  obtain ⟨pos, regs, slots, mem, input, out, code, over, val⟩ := x
  obtain ⟨uregs, cregs, uslots, cslots, umem, cmem, uinput, cinput, uout, cout, rfl, _, hregs, hslots, hmem, hinput, hout⟩ := h
  have hm := maxLen_lt
  simp only [Cp.sz] at *
  have Hregs := hideP hregs
  have Hslots := hideP hslots
  have Hmem := hideP hmem
  have Hinput := hideP hinput
  have Hout := hideP hout
  clear hregs hslots hmem hinput hout
  go_enter Try.func4, Try.ntmps4
  go_wp2_with fail
  refine (szIntS_any _ uregs regs.length cregs (L) Hregs.out.1 (by omega)).mono ?_
  rintro e1 w1 ⟨rfl, rfl⟩
  have hw1 := hideP ((Below.refl w.heap.size w).alloc (Nat.le_refl _) (.cells #[.int .i64 pos, .slice uregs regs.length cregs, .slice uslots slots.length cslots, .slice umem mem.length cmem, .slice uinput input.length cinput, .slice uout out.length cout, .int .i64 code, .bool over, .int .i64 val] 25))
  by_cases hs0 : regs.length ≤ L
  · rw [szR_pos hs0]
    go_wp2_with fail
    refine (szIntS_any _ uslots slots.length cslots (L - regs.length) Hslots.out.1 (by omega)).mono ?_
    rintro e2 w2 ⟨rfl, rfl⟩
    have hw2 := hideP (hw1.out)
    by_cases hs1 : slots.length ≤ L - regs.length
    · rw [szR_pos hs1]
      go_wp2_with fail
      refine (szIntSS_any mem _ B umem cmem (L - regs.length - slots.length) (Hmem.out.stays RwKeeps hw2.out) (by omega)).mono ?_
      rintro e3 w3 ⟨rfl, rfl⟩
      have hw3 := hideP (hw2.out)
      by_cases hs2 : slSz Rw.sz mem ≤ L - regs.length - slots.length
      · rw [szR_pos hs2]
        go_wp2_with fail
        refine (szIntS_any _ uinput input.length cinput (L - regs.length - slots.length - (slSz Rw.sz mem)) Hinput.out.1 (by omega)).mono ?_
        rintro e4 w4 ⟨rfl, rfl⟩
        have hw4 := hideP (hw3.out)
        by_cases hs3 : input.length ≤ L - regs.length - slots.length - (slSz Rw.sz mem)
        · rw [szR_pos hs3]
          go_wp2_with fail
          refine (szIntS_any _ uout out.length cout (L - regs.length - slots.length - (slSz Rw.sz mem) - input.length) Hout.out.1 (by omega)).mono ?_
          rintro e5 w5 ⟨rfl, rfl⟩
          have hw5 := hideP (hw4.out)
          by_cases hs4 : out.length ≤ L - regs.length - slots.length - (slSz Rw.sz mem) - input.length
          · rw [szR_pos hs4]
            have HS0 := hideP hs0
            have HS1 := hideP hs1
            have HS2 := hideP hs2
            have HS3 := hideP hs3
            have HS4 := hideP hs4
            clear hs0 hs1 hs2 hs3 hs4
            go_wp2
            go_ret
            exact ⟨ret_int (by have := HS0.out; have := HS1.out; have := HS2.out; have := HS3.out; have := HS4.out; rw [szR_pos (show regs.length + slots.length + (slSz Rw.sz mem) + input.length + out.length ≤ L by omega)]; first | done | omega), hw5.out⟩
          · rw [szR_neg (by omega)]
            have E1 : Hid (szR (regs.length + slots.length + (slSz Rw.sz mem) + input.length + out.length) L = -1) := szR_neg (by omega)
            clear hs0 hs1 hs2 hs3 hs4
            go_wp2
            go_ret
            exact ⟨ret_int E1.out.symm, hw5.out⟩
        · rw [szR_neg (by omega)]
          have E1 : Hid (szR (regs.length + slots.length + (slSz Rw.sz mem) + input.length + out.length) L = -1) := szR_neg (by omega)
          clear hs0 hs1 hs2 hs3
          go_wp2
          go_ret
          exact ⟨ret_int E1.out.symm, hw4.out⟩
      · rw [szR_neg (by omega)]
        have E1 : Hid (szR (regs.length + slots.length + (slSz Rw.sz mem) + input.length + out.length) L = -1) := szR_neg (by omega)
        clear hs0 hs1 hs2
        go_wp2
        go_ret
        exact ⟨ret_int E1.out.symm, hw3.out⟩
    · rw [szR_neg (by omega)]
      have E1 : Hid (szR (regs.length + slots.length + (slSz Rw.sz mem) + input.length + out.length) L = -1) := szR_neg (by omega)
      clear hs0 hs1
      go_wp2
      go_ret
      exact ⟨ret_int E1.out.symm, hw2.out⟩
  · rw [szR_neg (by omega)]
    have E1 : Hid (szR (regs.length + slots.length + (slSz Rw.sz mem) + input.length + out.length) L = -1) := szR_neg (by omega)
    clear hs0
    go_wp2
    go_ret
    exact ⟨ret_int E1.out.symm, hw1.out⟩
end Go.Proofs.Ytpbmnajlkgjkfab
