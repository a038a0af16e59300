/- InstrSz, BlockSz, GraphSz, InstrTo, BlockTo, GraphTo, InstrEq, BlockEq, GraphEq, as one text (wip/mkmerge.py). -/
import Derived.Test.YtobpcfelgobedabInstrD
import Derived.Test.YtobpcfelgobedabBlockD
import Derived.Test.YtobpcfelgobedabGraphD
namespace Go.Proofs.Ytobpcfelgobedab
open Go.ChangeShapes Go.WideShapes Go.ChangeAt Go.RowKit
set_option maxHeartbeats 1000000 in
theorem szInstr_any (x : Ins) (w : World) (B : Nat) (v : Array Value) (L : Nat) (h : InsIs w B v x) (hL : L ≤ 1048576) :
    Calls Try.prog 59 #[.agg v, .int .i64 L] w fun en w' => en = .returned (.int .i64 (szR x.sz L)) ∧ Below w.heap.size w w' := by
  obtain ⟨op, d, a, b, c, n, t⟩ := x
  obtain ⟨rfl, _, st⟩ := h
  have hm := maxLen_lt
  simp only [Ins.sz] at *
  by_cases h0 : L < t.size
  · rw [szR_neg (by omega)]
    go_enter Try.func59, Try.ntmps59
    go_wp2
    go_ret
    exact ⟨rfl, (Below.refl _ _).alloc (Nat.le_refl _) _⟩
  · rw [szR_pos (by omega)]
    go_enter Try.func59, Try.ntmps59
    go_wp2
    go_ret
    exact ⟨ret_int (by omega), (Below.refl _ _).alloc (Nat.le_refl _) _⟩
set_option maxHeartbeats 1000000 in
theorem szInstrS_any (es : List Ins) (w : World) (B : Nat) (a' : Option Addr) (cap L : Nat) (h : SlIs InsIs 7 w B a' es) (hL : L ≤ 1048576) :
    Calls Try.prog 45 #[.slice a' es.length cap, .int .i64 L] w fun en w' => en = .returned (.int .i64 (szR (slSz Ins.sz es) L)) ∧ Below w.heap.size w w' := by
  have hm := maxLen_lt
  have hl := h.1
  by_cases h0 : L < es.length
  · have e1 : szR (slSz Ins.sz es) L = -1 := szR_neg (by unfold slSz; omega)
    rw [e1]
    clear e1
    go_enter Try.func45, Try.ntmps45
    go_wp2
    go_ret
    exact ⟨rfl, Below.refl _ _⟩
  · have H := hideP h
    clear h
    go_enter Try.func45, Try.ntmps45
    go_wp2
    go_loopw [1, 5] (fun l i wr => ∃ j M : Nat, j ≤ es.length ∧ i = .int .i64 j ∧ l = .int .i64 M ∧ Hid (M + (es.length + slSum Ins.sz (es.take j)) = L) ∧ Below w.heap.size w wr) (fun _ i _ => es.length - (intOf i).toNat)
    case atStart => exact ⟨0, L - es.length, Nat.zero_le _, rfl, by go_num, show _ = _ by simp [slSum]; omega, Below.refl _ _⟩
    case round =>
      obtain ⟨j, M, hj, rfl, rfl, hM, bel⟩ := hrel
      by_cases hlt : j < es.length
      · obtain ⟨b', o', op, d, a, b, c, n, t, rfl, _, hb, he, k0, k1, k2, k3, k4, k5, k6, hx⟩ := Ins_get (H.out.stays InsKeeps bel) j hlt
        have HE := hideP he
        have HX := hideP hx
        have HB := hideP bel
        have hsz := bel.size
        have hM' := hM.out
        clear he hx bel
        go_wp2_with fail
        refine (szInstr_any es[j] _ B _ M (by rw [HE.out]; exact HX.out) (by omega)).mono ?_
        rintro e1 w1 ⟨rfl, bel1⟩
        have hw1 : Hid (Below w.heap.size w w1) := HB.out.trans (bel1.mono hsz)
        have htk := slSum_take Ins.sz es j hlt
        have hle := slSum_le Ins.sz es (j + 1)
        clear bel1 k0 k1 k2 k3 k4 k5 k6
        by_cases hs : es[j].sz ≤ M
        · rw [szR_pos hs]
          have HT := hideP htk
          have HS := hideP hs
          clear htk hs hle hM'
          go_wp2
          go_roundw
          case rel => exact ⟨j + 1, M - es[j].sz, by omega, by go_num, rfl, show _ = _ by have h1 := hM.out; have h2 := HT.out; have h3 := HS.out; omega, hw1.out⟩
          case measure => simp [intOf]; omega
        · rw [szR_neg (by omega)]
          have E1 : Hid (szR (slSz Ins.sz es) L = -1) := szR_neg (by unfold slSz; omega)
          clear htk hle hM' hs
          go_wp2
          go_ret
          exact ⟨ret_int E1.out.symm, hw1.out⟩
      · have hjn : j = es.length := by omega
        subst hjn
        go_wp2
        go_ret
        have h1 := hM.out
        rw [List.take_length] at h1
        exact ⟨ret_int (by rw [szR_pos (by unfold slSz; omega)]; unfold slSz; omega), bel⟩
end Go.Proofs.Ytobpcfelgobedab
namespace Go.Proofs.Ytobpcfelgobedab
open Go.ChangeShapes Go.WideShapes Go.ChangeAt Go.RowKit
set_option maxHeartbeats 1000000 in
theorem szBlock_any (x : Blk) (w : World) (B : Nat) (v : Array Value) (L : Nat) (h : BlkIs w B v x) (hL : L ≤ 1048576) :
    Calls Try.prog 29 #[.agg v, .int .i64 L] w fun en w' => en = .returned (.int .i64 (szR x.sz L)) ∧ Below w.heap.size w w' := by
  obtain ⟨code, jump, a, to, els⟩ := x
  obtain ⟨ucode, ccode, rfl, _, hcode⟩ := h
  have hm := maxLen_lt
  simp only [Blk.sz] at *
  have Hcode := hideP hcode
  clear hcode
  go_enter Try.func29, Try.ntmps29
  go_wp2_with fail
  refine (szInstrS_any code _ B ucode ccode (L) (Hcode.out.stays InsKeeps ((Below.refl _ _).alloc (Nat.le_refl _) _)) (by omega)).mono ?_
  rintro e1 w1 ⟨rfl, bel1⟩
  have hw1 := hideP (below_new bel1)
  clear bel1
  by_cases hs0 : slSz Ins.sz code ≤ L
  · rw [szR_pos hs0]
    have HS0 := hideP hs0
    clear hs0
    go_wp2
    go_ret
    exact ⟨ret_int (by have := HS0.out; rw [szR_pos (show (slSz Ins.sz code) ≤ L by omega)]; first | done | omega), hw1.out⟩
  · rw [szR_neg (by omega)]
    have E1 : Hid (szR ((slSz Ins.sz code)) L = -1) := szR_neg (by omega)
    clear hs0
    go_wp2
    go_ret
    exact ⟨ret_int E1.out.symm, hw1.out⟩
set_option maxHeartbeats 1000000 in
theorem szBlockS_any (es : List Blk) (w : World) (B : Nat) (a' : Option Addr) (cap L : Nat) (h : SlIs BlkIs 5 w B a' es) (hL : L ≤ 1048576) :
    Calls Try.prog 12 #[.slice a' es.length cap, .int .i64 L] w fun en w' => en = .returned (.int .i64 (szR (slSz Blk.sz es) L)) ∧ Below w.heap.size w w' := by
  have hm := maxLen_lt
  have hl := h.1
  by_cases h0 : L < es.length
  · have e1 : szR (slSz Blk.sz es) L = -1 := szR_neg (by unfold slSz; omega)
    rw [e1]
    clear e1
    go_enter Try.func12, Try.ntmps12
    go_wp2
    go_ret
    exact ⟨rfl, Below.refl _ _⟩
  · have H := hideP h
    clear h
    go_enter Try.func12, Try.ntmps12
    go_wp2
    go_loopw [1, 5] (fun l i wr => ∃ j M : Nat, j ≤ es.length ∧ i = .int .i64 j ∧ l = .int .i64 M ∧ Hid (M + (es.length + slSum Blk.sz (es.take j)) = L) ∧ Below w.heap.size w wr) (fun _ i _ => es.length - (intOf i).toNat)
    case atStart => exact ⟨0, L - es.length, Nat.zero_le _, rfl, by go_num, show _ = _ by simp [slSum]; omega, Below.refl _ _⟩
    case round =>
      obtain ⟨j, M, hj, rfl, rfl, hM, bel⟩ := hrel
      by_cases hlt : j < es.length
      · obtain ⟨b', o', code, jump, a, to, els, ucode, ccode, rfl, _, hb, he, k0, k1, k2, k3, k4, hx⟩ := Blk_get (H.out.stays BlkKeeps bel) j hlt
        have HE := hideP he
        have HX := hideP hx
        have HB := hideP bel
        have hsz := bel.size
        have hM' := hM.out
        clear he hx bel
        go_wp2_with fail
        refine (szBlock_any es[j] _ B _ M (by rw [HE.out]; exact HX.out) (by omega)).mono ?_
        rintro e1 w1 ⟨rfl, bel1⟩
        have hw1 : Hid (Below w.heap.size w w1) := HB.out.trans (bel1.mono hsz)
        have htk := slSum_take Blk.sz es j hlt
        have hle := slSum_le Blk.sz es (j + 1)
        clear bel1 k0 k1 k2 k3 k4
        by_cases hs : es[j].sz ≤ M
        · rw [szR_pos hs]
          have HT := hideP htk
          have HS := hideP hs
          clear htk hs hle hM'
          go_wp2
          go_roundw
          case rel => exact ⟨j + 1, M - es[j].sz, by omega, by go_num, rfl, show _ = _ by have h1 := hM.out; have h2 := HT.out; have h3 := HS.out; omega, hw1.out⟩
          case measure => simp [intOf]; omega
        · rw [szR_neg (by omega)]
          have E1 : Hid (szR (slSz Blk.sz es) L = -1) := szR_neg (by unfold slSz; omega)
          clear htk hle hM' hs
          go_wp2
          go_ret
          exact ⟨ret_int E1.out.symm, hw1.out⟩
      · have hjn : j = es.length := by omega
        subst hjn
        go_wp2
        go_ret
        have h1 := hM.out
        rw [List.take_length] at h1
        exact ⟨ret_int (by rw [szR_pos (by unfold slSz; omega)]; unfold slSz; omega), bel⟩
end Go.Proofs.Ytobpcfelgobedab
namespace Go.Proofs.Ytobpcfelgobedab
open Go.ChangeShapes Go.WideShapes Go.ChangeAt Go.RowKit
set_option maxHeartbeats 1000000 in
theorem szGraph_any (x : Gr) (w : World) (B : Nat) (v : Array Value) (L : Nat) (h : GrIs w B v x) (hL : L ≤ 1048576) :
    Calls Try.prog 4 #[.agg v, .int .i64 L] w fun en w' => en = .returned (.int .i64 (szR x.sz L)) ∧ Below w.heap.size w w' := by
  obtain ⟨sizes, params, vars, slots, blocks⟩ := x
  obtain ⟨usizes, csizes, ublocks, cblocks, rfl, _, hsizes, hblocks⟩ := h
  have hm := maxLen_lt
  simp only [Gr.sz] at *
  have Hsizes := hideP hsizes
  have Hblocks := hideP hblocks
  clear hsizes hblocks
  go_enter Try.func4, Try.ntmps4
  go_wp2_with fail
  refine (szIntS_any _ usizes sizes.length csizes (L) Hsizes.out.1 (by omega)).mono ?_
  rintro e1 w1 ⟨rfl, rfl⟩
  have hw1 := hideP ((Below.refl w.heap.size w).alloc (Nat.le_refl _) (.cells #[.slice usizes sizes.length csizes, .int .i64 params, .int .i64 vars, .int .i64 slots, .slice ublocks blocks.length cblocks] 25))
  by_cases hs0 : sizes.length ≤ L
  · rw [szR_pos hs0]
    go_wp2_with fail
    refine (szBlockS_any blocks _ B ublocks cblocks (L - sizes.length) (Hblocks.out.stays BlkKeeps hw1.out) (by omega)).mono ?_
    rintro e2 w2 ⟨rfl, bel2⟩
    have hw2 := hideP (hw1.out.trans (bel2.mono (by first | exact hw1.out.size | (have := hw1.out.size; simp at this ⊢; omega))))
    clear bel2
    by_cases hs1 : slSz Blk.sz blocks ≤ L - sizes.length
    · rw [szR_pos hs1]
      have HS0 := hideP hs0
      have HS1 := hideP hs1
      clear hs0 hs1
      go_wp2
      go_ret
      exact ⟨ret_int (by have := HS0.out; have := HS1.out; rw [szR_pos (show sizes.length + (slSz Blk.sz blocks) ≤ L by omega)]; first | done | omega), hw2.out⟩
    · rw [szR_neg (by omega)]
      have E1 : Hid (szR (sizes.length + (slSz Blk.sz blocks)) L = -1) := szR_neg (by omega)
      clear hs0 hs1
      go_wp2
      go_ret
      exact ⟨ret_int E1.out.symm, hw2.out⟩
  · rw [szR_neg (by omega)]
    have E1 : Hid (szR (sizes.length + (slSz Blk.sz blocks)) L = -1) := szR_neg (by omega)
    clear hs0
    go_wp2
    go_ret
    exact ⟨ret_int E1.out.symm, hw1.out⟩
end Go.Proofs.Ytobpcfelgobedab
namespace Go.Proofs.Ytobpcfelgobedab
open Go.ChangeShapes Go.WideShapes Go.ChangeAt Go.RowKit
set_option maxHeartbeats 1000000 in
theorem toInstr_any (x : Ins) (w : World) (B : Nat) (v : Array Value) (h : InsIs w B v x) :
    Calls Try.prog 61 #[.agg v] w fun en w' => ∃ v', en = .returned (.agg v') ∧ InsIs w' w.heap.size v' x ∧ Below w.heap.size w w' := by
  obtain ⟨op, d, a, b, c, n, t⟩ := x
  obtain ⟨rfl, ok, st⟩ := h
  simp only at *
  go_enter Try.func61, Try.ntmps61
  go_wp2
  try simp only [Exit.inBlock, Exit.then]
  refine bodyPost_ret (v := .agg #[.int .i64 op, .int .i64 d, .int .i64 a, .int .i64 b, .int .i64 c, .int .i64 n, .string t]) (by simp [results, Try.results61, go_sem]) rfl ⟨_, rfl, ⟨rfl, ok, st⟩, ?_⟩
  first | exact below3 w _ _ _ | exact below2 w _ _ | exact (Below.refl _ _).alloc (Nat.le_refl _) _
/-- The copy, its cells named. -/
theorem toInstr_in {op : Int} {d : Int} {a : Int} {b : Int} {c : Int} {n : Int} {t : ByteArray} (w : World) (B : Nat) (v : Array Value) (h : InsIs w B v ⟨op, d, a, b, c, n, t⟩) (W : World) (bel : Below w.heap.size w W) :
    Calls Try.prog 61 #[.agg v] W fun en w' => en = .returned (.agg #[.int .i64 op, .int .i64 d, .int .i64 a, .int .i64 b, .int .i64 c, .int .i64 n, .string t]) ∧ InsIs w' W.heap.size #[.int .i64 op, .int .i64 d, .int .i64 a, .int .i64 b, .int .i64 c, .int .i64 n, .string t] ⟨op, d, a, b, c, n, t⟩ ∧ Below W.heap.size W w' :=
  (toInstr_any ⟨op, d, a, b, c, n, t⟩ W B v (InsKeeps.stays h bel)).mono fun en w' ⟨v', he, hp, hb⟩ => by
    have h1 := hp
    obtain ⟨rfl, _⟩ := h1
    exact ⟨he, hp, hb⟩
theorem infoInstr : (Try.prog.info? 62).map (fun i => (i.zero, i.size, i.bytes)) = some (some (.agg #[.int .i64 0, .int .i64 0, .int .i64 0, .int .i64 0, .int .i64 0, .int .i64 0, .string ByteArray.empty]), 7, 64) := by kernel_rfl
set_option maxHeartbeats 1000000 in
theorem toInstrS_any (es : List Ins) (w : World) (B : Nat) (a' : Option Addr) (cap : Nat) (h : SlIs InsIs 7 w B a' es) (hs : slSz Ins.sz es ≤ 1048576) :
    Calls Try.prog 47 #[.slice a' es.length cap] w fun en w' => ∃ g, en = .returned (.slice (some ⟨g, 0, none⟩) es.length es.length) ∧ SlIs InsIs 7 w' w.heap.size (some ⟨g, 0, none⟩) es ∧ Below w.heap.size w w' := by
  have hl0 := h.1
  have hl : es.length ≤ 1048576 := by unfold slSz at hs; omega
  have hmk := make_n (P := Try.prog) Try.underlying38 infoInstr es.length hl (by decide)
  have H := hideP h
  have HS := hideP hs
  clear h hs
  go_enter Try.func47, Try.ntmps47
  go_wp2
  clear hmk
  go_loopw [4] (fun i wr => ∃ j : Nat, j ≤ es.length ∧ i = .int .i64 j ∧ Built InsIs 7 62 wr w.heap.size es j ∧ Below w.heap.size w wr) (fun i _ => es.length - (intOf i).toNat)
  case atStart => exact ⟨0, Nat.zero_le _, rfl, built_start InsIs w _ 7 _ es, (Below.refl _ _).alloc (Nat.le_refl _) _⟩
  case round =>
    obtain ⟨j, hj, rfl, hbt, bel⟩ := hrel
    by_cases hlt : j < es.length
    · obtain ⟨b', o', op, d, a, b, c, n, t, rfl, _, hb, he, k0, k1, k2, k3, k4, k5, k6, hx⟩ := Ins_get (H.out.stays InsKeeps bel) j hlt
      have HE := hideP he
      have HX := hideP hx
      have HB := hideP bel
      have HT := hideP hbt
      have hg := hbt.lt
      have hsz := bel.size
      clear he hx bel hbt
      go_wp2_with fail
      refine (toInstr_any es[j] _ B _ (by rw [HE.out]; exact HX.out)).mono ?_
      rintro e1 w1 ⟨v', rfl, hx1, bel1⟩
      have hx2 := hx1
      rw [HE.out] at hx2
      obtain ⟨rfl, _, _⟩ := hx2
      simp only at hx1
      have hb1 := HT.out.on InsKeeps bel1
      obtain ⟨hce, hfz⟩ := hb1.cells
      obtain ⟨d0, hd0⟩ := hce (j * 7) (by omega)
      obtain ⟨d1, hd1⟩ := hce (j * 7 + 1) (by omega)
      obtain ⟨d2, hd2⟩ := hce (j * 7 + 2) (by omega)
      obtain ⟨d3, hd3⟩ := hce (j * 7 + 3) (by omega)
      obtain ⟨d4, hd4⟩ := hce (j * 7 + 4) (by omega)
      obtain ⟨d5, hd5⟩ := hce (j * 7 + 5) (by omega)
      obtain ⟨d6, hd6⟩ := hce (j * 7 + 6) (by omega)
      have HB1 := hideP hb1
      have HX1 := hideP (InsKeeps.mono hx1 (show w.heap.size + 1 ≤ wr.heap.size by omega))
      have hw1 : Hid (Below w.heap.size w w1) := HB.out.trans (bel1.mono hsz)
      clear bel1 k0 k1 k2 k3 k4 k5 k6 hb1 hx1 hce
      go_wp2
      go_roundw
      case rel => exact ⟨j + 1, by omega, by go_num, HB1.out.step InsKeeps hlt (l := [.int .i64 op, .int .i64 d, .int .i64 a, .int .i64 b, .int .i64 c, .int .i64 n, .string t]) rfl HX1.out, sets_below (Nat.le_refl _) [.int .i64 op, .int .i64 d, .int .i64 a, .int .i64 b, .int .i64 c, .int .i64 n, .string t] _ _ hw1.out⟩
      case measure => simp [intOf]; omega
    · have hjn : j = es.length := by omega
      subst hjn
      go_wp2
      go_ret
      exact ⟨_, rfl, hbt.is InsKeeps hl0 (Nat.le_refl _), bel⟩
end Go.Proofs.Ytobpcfelgobedab
namespace Go.Proofs.Ytobpcfelgobedab
open Go.ChangeShapes Go.WideShapes Go.ChangeAt Go.RowKit
set_option maxHeartbeats 1000000 in
theorem toBlock_any (x : Blk) (w : World) (B : Nat) (v : Array Value) (h : BlkIs w B v x) (hs : x.sz ≤ 1048576) :
    Calls Try.prog 32 #[.agg v] w fun en w' => ∃ v', en = .returned (.agg v') ∧ BlkIs w' w.heap.size v' x ∧ Below w.heap.size w w' := by
  obtain ⟨code, jump, a, to, els⟩ := x
  obtain ⟨ucode, ccode, rfl, ok, hcode⟩ := h
  simp only [Blk.sz, slSz] at *
  have Hcode := hideP hcode
  clear hcode
  go_enter Try.func32, Try.ntmps32
  go_wp2_with fail
  refine (toInstrS_any code _ B ucode ccode (Hcode.out.stays InsKeeps (below3 w _ _ _)) (by unfold slSz; omega)).mono ?_
  rintro y1 w1 ⟨gcode, rfl, hx1, bel1⟩
  obtain ⟨q1, q2, q3, hz, hw⟩ := three bel1
  have hB3 : (((w.alloc (.cells #[.slice ucode code.length ccode, .int .i64 jump, .int .i64 a, .int .i64 to, .int .i64 els] 51)).alloc (.cells #[.slice none 0 0, .int .i64 0, .int .i64 0, .int .i64 0, .int .i64 0] 40)).alloc (.cells #[.slice none 0 0, .int .i64 0, .int .i64 0, .int .i64 0, .int .i64 0] 40)).heap.size = w.heap.size + 3 := by simp
  rw [hB3] at hx1
  have HXcode := hideP hx1
  have HW1 := hideP hw
  have Q1 := hideP q1
  have Q2 := hideP q2
  have Q3 := hideP q3
  clear bel1 q1 q2 q3 hx1 hw hB3
  obtain ⟨c1, _⟩ := cells_of Q1.out
  obtain ⟨c2, f2⟩ := cells_of Q2.out
  obtain ⟨c3, f3⟩ := cells_of Q3.out
  have r1 := c1 1
  have r2 := c1 2
  have r3 := c1 3
  have r4 := c1 4
  have a0' := c2 0
  have b0' := c3 0
  have a1' := c2 1
  have b1' := c3 1
  have a2' := c2 2
  have b2' := c3 2
  have a3' := c2 3
  have b3' := c3 3
  have a4' := c2 4
  have b4' := c3 4
  simp at r1 r2 r3 r4 a0' b0' a1' b1' a2' b2' a3' b3' a4' b4'
  clear Q1 Q2 Q3 c1 c2 c3
  go_wp2
  try simp only [Exit.inBlock, Exit.then]
  refine bodyPost_ret (v := .agg #[.slice (some ⟨gcode, 0, none⟩) code.length code.length, .int .i64 jump, .int .i64 a, .int .i64 to, .int .i64 els]) (by simp [results, Try.results32, go_sem, a0', a1', a2', a3', a4']) rfl ⟨_, rfl, ⟨_, _, rfl, ok, ?_⟩, ?_⟩
  · exact (((HXcode.out.but InsKeeps (g := w.heap.size + 1 + 1) (by omega) ((((((But.refl _ _).set _ _).set _ _).set _ _).set _ _).set _ _)).but InsKeeps (g := w.heap.size + 1) (by omega) ((((((But.refl _ _).set _ _).set _ _).set _ _).set _ _).set _ _)).mono InsKeeps (by omega))
  · exact ((((((((((HW1.out.setCell (show w.heap.size ≤ w.heap.size + 1 + 1 by omega) _).setCell (show w.heap.size ≤ w.heap.size + 1 + 1 by omega) _).setCell (show w.heap.size ≤ w.heap.size + 1 + 1 by omega) _).setCell (show w.heap.size ≤ w.heap.size + 1 + 1 by omega) _).setCell (show w.heap.size ≤ w.heap.size + 1 + 1 by omega) _).setCell (show w.heap.size ≤ w.heap.size + 1 by omega) _).setCell (show w.heap.size ≤ w.heap.size + 1 by omega) _).setCell (show w.heap.size ≤ w.heap.size + 1 by omega) _).setCell (show w.heap.size ≤ w.heap.size + 1 by omega) _).setCell (show w.heap.size ≤ w.heap.size + 1 by omega) _)
/-- The copy, its cells named. -/
theorem toBlock_in {code : List Ins} {jump : Int} {a : Int} {to : Int} {els : Int} (w : World) (B : Nat) (v : Array Value) (h : BlkIs w B v ⟨code, jump, a, to, els⟩) (hs : (⟨code, jump, a, to, els⟩ : Blk).sz ≤ 1048576) (W : World) (bel : Below w.heap.size w W) :
    Calls Try.prog 32 #[.agg v] W fun en w' => ∃ ucode_ ccode_, en = .returned (.agg #[.slice ucode_ code.length ccode_, .int .i64 jump, .int .i64 a, .int .i64 to, .int .i64 els]) ∧ BlkIs w' W.heap.size #[.slice ucode_ code.length ccode_, .int .i64 jump, .int .i64 a, .int .i64 to, .int .i64 els] ⟨code, jump, a, to, els⟩ ∧ Below W.heap.size W w' :=
  (toBlock_any ⟨code, jump, a, to, els⟩ W B v (BlkKeeps.stays h bel) hs).mono fun en w' ⟨v', he, hp, hb⟩ => by
    have h1 := hp
    obtain ⟨ucode_, ccode_, rfl, _⟩ := h1
    exact ⟨ucode_, ccode_, he, hp, hb⟩
theorem infoBlock : (Try.prog.info? 40).map (fun i => (i.zero, i.size, i.bytes)) = some (some (.agg #[.slice none 0 0, .int .i64 0, .int .i64 0, .int .i64 0, .int .i64 0]), 5, 56) := by kernel_rfl
set_option maxHeartbeats 1000000 in
theorem toBlockS_any (es : List Blk) (w : World) (B : Nat) (a' : Option Addr) (cap : Nat) (h : SlIs BlkIs 5 w B a' es) (hs : slSz Blk.sz es ≤ 1048576) :
    Calls Try.prog 17 #[.slice a' es.length cap] w fun en w' => ∃ g, en = .returned (.slice (some ⟨g, 0, none⟩) es.length es.length) ∧ SlIs BlkIs 5 w' w.heap.size (some ⟨g, 0, none⟩) es ∧ Below w.heap.size w w' := by
  have hl0 := h.1
  have hl : es.length ≤ 1048576 := by unfold slSz at hs; omega
  have hmk := make_n (P := Try.prog) Try.underlying27 infoBlock es.length hl (by decide)
  have H := hideP h
  have HS := hideP hs
  clear h hs
  go_enter Try.func17, Try.ntmps17
  go_wp2
  clear hmk
  go_loopw [4] (fun i wr => ∃ j : Nat, j ≤ es.length ∧ i = .int .i64 j ∧ Built BlkIs 5 40 wr w.heap.size es j ∧ Below w.heap.size w wr) (fun i _ => es.length - (intOf i).toNat)
  case atStart => exact ⟨0, Nat.zero_le _, rfl, built_start BlkIs w _ 5 _ es, (Below.refl _ _).alloc (Nat.le_refl _) _⟩
  case round =>
    obtain ⟨j, hj, rfl, hbt, bel⟩ := hrel
    by_cases hlt : j < es.length
    · obtain ⟨b', o', code, jump, a, to, els, ucode, ccode, rfl, _, hb, he, k0, k1, k2, k3, k4, hx⟩ := Blk_get (H.out.stays BlkKeeps bel) j hlt
      have HE := hideP he
      have HX := hideP hx
      have HB := hideP bel
      have HT := hideP hbt
      have hg := hbt.lt
      have hsz := bel.size
      clear he hx bel hbt
      go_wp2_with fail
      refine (toBlock_any es[j] _ B _ (by rw [HE.out]; exact HX.out) (by have h1 := slSum_mem Blk.sz (List.getElem_mem hlt); have h2 := HS.out; unfold slSz at h2; omega)).mono ?_
      rintro e1 w1 ⟨v', rfl, hx1, bel1⟩
      have hx2 := hx1
      rw [HE.out] at hx2
      obtain ⟨ucode', ccode', rfl, _, _⟩ := hx2
      simp only at hx1
      have hb1 := HT.out.on BlkKeeps bel1
      obtain ⟨hce, hfz⟩ := hb1.cells
      obtain ⟨d0, hd0⟩ := hce (j * 5) (by omega)
      obtain ⟨d1, hd1⟩ := hce (j * 5 + 1) (by omega)
      obtain ⟨d2, hd2⟩ := hce (j * 5 + 2) (by omega)
      obtain ⟨d3, hd3⟩ := hce (j * 5 + 3) (by omega)
      obtain ⟨d4, hd4⟩ := hce (j * 5 + 4) (by omega)
      have HB1 := hideP hb1
      have HX1 := hideP (BlkKeeps.mono hx1 (show w.heap.size + 1 ≤ wr.heap.size by omega))
      have hw1 : Hid (Below w.heap.size w w1) := HB.out.trans (bel1.mono hsz)
      clear bel1 k0 k1 k2 k3 k4 hb1 hx1 hce
      go_wp2
      go_roundw
      case rel => exact ⟨j + 1, by omega, by go_num, HB1.out.step BlkKeeps hlt (l := [.slice ucode' code.length ccode', .int .i64 jump, .int .i64 a, .int .i64 to, .int .i64 els]) rfl HX1.out, sets_below (Nat.le_refl _) [.slice ucode' code.length ccode', .int .i64 jump, .int .i64 a, .int .i64 to, .int .i64 els] _ _ hw1.out⟩
      case measure => simp [intOf]; omega
    · have hjn : j = es.length := by omega
      subst hjn
      go_wp2
      go_ret
      exact ⟨_, rfl, hbt.is BlkKeeps hl0 (Nat.le_refl _), bel⟩
end Go.Proofs.Ytobpcfelgobedab
namespace Go.Proofs.Ytobpcfelgobedab
open Go.ChangeShapes Go.WideShapes Go.ChangeAt Go.RowKit
set_option maxHeartbeats 1000000 in
theorem toGraph_any (x : Gr) (w : World) (B : Nat) (v : Array Value) (h : GrIs w B v x) (hs : x.sz ≤ 1048576) :
    Calls Try.prog 6 #[.agg v] w fun en w' => ∃ v', en = .returned (.agg v') ∧ GrIs w' w.heap.size v' x ∧ Below w.heap.size w w' := by
  obtain ⟨sizes, params, vars, slots, blocks⟩ := x
  obtain ⟨usizes, csizes, ublocks, cblocks, rfl, ok, hsizes, hblocks⟩ := h
  simp only [Gr.sz, slSz] at *
  have Hsizes := hideP hsizes
  have Hblocks := hideP hblocks
  clear hsizes hblocks
  go_enter Try.func6, Try.ntmps6
  go_wp2_with fail
  refine (toIntS_any sizes _ B usizes csizes (Hsizes.out.stays (below3 w _ _ _)) (by omega)).mono ?_
  rintro y1 w1 ⟨gsizes, rfl, hx1, bel1⟩
  obtain ⟨q1, q2, q3, hz, hw⟩ := three bel1
  have hB3 : (((w.alloc (.cells #[.slice usizes sizes.length csizes, .int .i64 params, .int .i64 vars, .int .i64 slots, .slice ublocks blocks.length cblocks] 25)).alloc (.cells #[.slice none 0 0, .int .i64 0, .int .i64 0, .int .i64 0, .slice none 0 0] 29)).alloc (.cells #[.slice none 0 0, .int .i64 0, .int .i64 0, .int .i64 0, .slice none 0 0] 29)).heap.size = w.heap.size + 3 := by simp
  rw [hB3] at hx1
  have HXsizes := hideP hx1
  have HW1 := hideP hw
  have Q1 := hideP q1
  have Q2 := hideP q2
  have Q3 := hideP q3
  clear bel1 q1 q2 q3 hx1 hw hB3
  have r1 := (cells_of Q1.out).1 1
  have r2 := (cells_of Q1.out).1 2
  have r3 := (cells_of Q1.out).1 3
  have r4 := (cells_of Q1.out).1 4
  have s0 := (cells_of Q3.out).1 0
  have s1 := (cells_of Q3.out).1 1
  have s2 := (cells_of Q3.out).1 2
  have s3 := (cells_of Q3.out).1 3
  have f3 := (cells_of Q3.out).2
  simp at r1 r2 r3 r4 s0 s1 s2 s3
  go_wp2_with fail
  have hw' : Below w.heap.size w ((((w1.setCell ⟨w.heap.size + 1 + 1, 0, none⟩ (.slice (some ⟨gsizes, 0, none⟩) sizes.length sizes.length)).setCell ⟨w.heap.size + 1 + 1, 1, none⟩ (.int .i64 params)).setCell ⟨w.heap.size + 1 + 1, 2, none⟩ (.int .i64 vars)).setCell ⟨w.heap.size + 1 + 1, 3, none⟩ (.int .i64 slots)) := ((((HW1.out.setCell (p := ⟨w.heap.size + 1 + 1, 0, none⟩) (show w.heap.size ≤ w.heap.size + 1 + 1 by omega) _).setCell (p := ⟨w.heap.size + 1 + 1, 1, none⟩) (show w.heap.size ≤ w.heap.size + 1 + 1 by omega) _).setCell (p := ⟨w.heap.size + 1 + 1, 2, none⟩) (show w.heap.size ≤ w.heap.size + 1 + 1 by omega) _).setCell (p := ⟨w.heap.size + 1 + 1, 3, none⟩) (show w.heap.size ≤ w.heap.size + 1 + 1 by omega) _)
  refine (toBlockS_any blocks _ B ublocks cblocks (Hblocks.out.stays BlkKeeps hw') (by unfold slSz; omega)).mono ?_
  rintro y2 w2 ⟨gblocks, rfl, hx, bel⟩
  rw [size_set, size_set, size_set, size_set] at hx
  have q1 := (bel.block _ (by have h0 := (Array.getElem?_eq_some_iff.1 Q1.out).1; simpa [size_set] using h0)).trans ((Below.heap_setCell _ ⟨w.heap.size + 1 + 1, 3, none⟩ _ _ (by show _ ≠ w.heap.size + 1 + 1; omega)).trans ((Below.heap_setCell _ ⟨w.heap.size + 1 + 1, 2, none⟩ _ _ (by show _ ≠ w.heap.size + 1 + 1; omega)).trans ((Below.heap_setCell _ ⟨w.heap.size + 1 + 1, 1, none⟩ _ _ (by show _ ≠ w.heap.size + 1 + 1; omega)).trans ((Below.heap_setCell _ ⟨w.heap.size + 1 + 1, 0, none⟩ _ _ (by show _ ≠ w.heap.size + 1 + 1; omega)).trans Q1.out))))
  have q2 := (bel.block _ (by have h0 := (Array.getElem?_eq_some_iff.1 Q2.out).1; simpa [size_set] using h0)).trans ((Below.heap_setCell _ ⟨w.heap.size + 1 + 1, 3, none⟩ _ _ (by show _ ≠ w.heap.size + 1 + 1; omega)).trans ((Below.heap_setCell _ ⟨w.heap.size + 1 + 1, 2, none⟩ _ _ (by show _ ≠ w.heap.size + 1 + 1; omega)).trans ((Below.heap_setCell _ ⟨w.heap.size + 1 + 1, 1, none⟩ _ _ (by show _ ≠ w.heap.size + 1 + 1; omega)).trans ((Below.heap_setCell _ ⟨w.heap.size + 1 + 1, 0, none⟩ _ _ (by show _ ≠ w.heap.size + 1 + 1; omega)).trans Q2.out))))
  have q3 := (bel.block _ (by have h0 := (Array.getElem?_eq_some_iff.1 Q3.out).1; simpa [size_set] using h0)).trans (heap_setCell_same _ _ _ _ _ _ (heap_setCell_same _ _ _ _ _ _ (heap_setCell_same _ _ _ _ _ _ (heap_setCell_same _ _ _ _ _ _ Q3.out))))
  simp at q3
  have hsizes := ((HXsizes.out.but (g := w.heap.size + 1 + 1) (by omega) (((((But.refl _ _).set _ _).set _ _).set _ _).set _ _)).stays bel)
  have hw2 : Below w.heap.size w w2 := hw'.trans (bel.mono (by simp; omega))
  have hz2 : w1.heap.size ≤ w2.heap.size := by have := bel.size; simpa [size_set] using this
  have HXblocks := hideP (hx.mono BlkKeeps (show w.heap.size + 3 ≤ w1.heap.size by omega))
  replace HXsizes := hideP hsizes
  have HW2 := hideP hw2
  replace Q1 := hideP q1
  replace Q2 := hideP q2
  replace Q3 := hideP q3
  clear bel q1 q2 q3 hx hw2 hw' f3 r1 r2 r3 r4 s0 s1 s2 s3 hsizes
  obtain ⟨c1, _⟩ := cells_of Q1.out
  obtain ⟨c2, f2⟩ := cells_of Q2.out
  obtain ⟨c3, f3⟩ := cells_of Q3.out
  have a0' := c2 0
  have b0' := c3 0
  have a1' := c2 1
  have b1' := c3 1
  have a2' := c2 2
  have b2' := c3 2
  have a3' := c2 3
  have b3' := c3 3
  have a4' := c2 4
  have b4' := c3 4
  simp at a0' b0' a1' b1' a2' b2' a3' b3' a4' b4'
  clear Q1 Q2 Q3 c1 c2 c3
  go_wp2
  try simp only [Exit.inBlock, Exit.then]
  refine bodyPost_ret (v := .agg #[.slice (some ⟨gsizes, 0, none⟩) sizes.length sizes.length, .int .i64 params, .int .i64 vars, .int .i64 slots, .slice (some ⟨gblocks, 0, none⟩) blocks.length blocks.length]) (by simp [results, Try.results6, go_sem, a0', a1', a2', a3', a4']) rfl ⟨_, rfl, ⟨_, _, _, _, rfl, ok, ?_, ?_⟩, ?_⟩
  · exact (((HXsizes.out.but (g := w.heap.size + 1 + 1) (by omega) ((But.refl _ _).set _ _)).but (g := w.heap.size + 1) (by omega) ((((((But.refl _ _).set _ _).set _ _).set _ _).set _ _).set _ _)).mono (by omega))
  · exact (((HXblocks.out.but BlkKeeps (g := w.heap.size + 1 + 1) (by omega) ((But.refl _ _).set _ _)).but BlkKeeps (g := w.heap.size + 1) (by omega) ((((((But.refl _ _).set _ _).set _ _).set _ _).set _ _).set _ _)).mono BlkKeeps (by omega))
  · exact ((((((HW2.out.setCell (show w.heap.size ≤ w.heap.size + 1 + 1 by omega) _).setCell (show w.heap.size ≤ w.heap.size + 1 by omega) _).setCell (show w.heap.size ≤ w.heap.size + 1 by omega) _).setCell (show w.heap.size ≤ w.heap.size + 1 by omega) _).setCell (show w.heap.size ≤ w.heap.size + 1 by omega) _).setCell (show w.heap.size ≤ w.heap.size + 1 by omega) _)
/-- The copy, its cells named. -/
theorem toGraph_in {sizes : List Int} {params : Int} {vars : Int} {slots : Int} {blocks : List Blk} (w : World) (B : Nat) (v : Array Value) (h : GrIs w B v ⟨sizes, params, vars, slots, blocks⟩) (hs : (⟨sizes, params, vars, slots, blocks⟩ : Gr).sz ≤ 1048576) (W : World) (bel : Below w.heap.size w W) :
    Calls Try.prog 6 #[.agg v] W fun en w' => ∃ usizes_ csizes_ ublocks_ cblocks_, en = .returned (.agg #[.slice usizes_ sizes.length csizes_, .int .i64 params, .int .i64 vars, .int .i64 slots, .slice ublocks_ blocks.length cblocks_]) ∧ GrIs w' W.heap.size #[.slice usizes_ sizes.length csizes_, .int .i64 params, .int .i64 vars, .int .i64 slots, .slice ublocks_ blocks.length cblocks_] ⟨sizes, params, vars, slots, blocks⟩ ∧ Below W.heap.size W w' :=
  (toGraph_any ⟨sizes, params, vars, slots, blocks⟩ W B v (GrKeeps.stays h bel) hs).mono fun en w' ⟨v', he, hp, hb⟩ => by
    have h1 := hp
    obtain ⟨usizes_, csizes_, ublocks_, cblocks_, rfl, _⟩ := h1
    exact ⟨usizes_, csizes_, ublocks_, cblocks_, he, hp, hb⟩
end Go.Proofs.Ytobpcfelgobedab
namespace Go.Proofs.Ytobpcfelgobedab
open Go.ChangeShapes Go.WideShapes Go.ChangeAt Go.RowKit
set_option maxHeartbeats 1000000 in
theorem eqInstr_same (x : Ins) (w : World) (B1 B2 : Nat) (v1 v2 : Array Value) (h1 : InsIs w B1 v1 x) (h2 : InsIs w B2 v2 x) :
    Calls Try.prog 64 #[.agg v1, .agg v2] w fun en w' => en = .returned (.bool true) ∧ Below w.heap.size w w' := by
  obtain ⟨op, d, a, b, c, n, t⟩ := x
  obtain ⟨rfl, _, _⟩ := h1
  obtain ⟨rfl, _, _⟩ := h2
  simp only at *
  go_enter Try.func64, Try.ntmps64
  go_wp2
  go_ret
  exact ⟨rfl, below2 w _ _⟩
set_option maxHeartbeats 1000000 in
theorem eqInstrS_same (es : List Ins) (w : World) (B1 B2 : Nat) (a1 a2 : Option Addr) (z1 z2 : Nat) (h1 : SlIs InsIs 7 w B1 a1 es) (h2 : SlIs InsIs 7 w B2 a2 es) :
    Calls Try.prog 57 #[.slice a1 es.length z1, .slice a2 es.length z2] w fun en w' => en = .returned (.bool true) ∧ Below w.heap.size w w' := by
  have hm := maxLen_lt
  have hl := h1.1
  have H1 := hideP h1
  have H2 := hideP h2
  clear h1 h2
  go_enter Try.func57, Try.ntmps57
  go_wp2
  go_loopw [5] (fun i wr => ∃ j : Nat, j ≤ es.length ∧ i = .int .i64 j ∧ Below w.heap.size w wr) (fun i _ => es.length - (intOf i).toNat)
  case atStart => exact ⟨0, Nat.zero_le _, rfl, Below.refl _ _⟩
  case round =>
    obtain ⟨j, hj, rfl, bel⟩ := hrel
    by_cases hlt : j < es.length
    · obtain ⟨b', o', op, d, a, b, c, n, t, rfl, _, hb, he, k0, k1, k2, k3, k4, k5, k6, hx⟩ := Ins_get (H1.out.stays InsKeeps bel) j hlt
      obtain ⟨b2, o2, op', d', a', b', c', n', t', rfl, _, hb2, he2, m0, m1, m2, m3, m4, m5, m6, hx2⟩ := Ins_get (H2.out.stays InsKeeps bel) j hlt
      have heq := he.symm.trans he2
      simp only [Ins.mk.injEq] at heq
      obtain ⟨rfl, rfl, rfl, rfl, rfl, rfl, rfl⟩ := heq
      have IHj : Hid (∀ (W : World), Below wr.heap.size wr W → Calls Try.prog 64 #[.agg #[.int .i64 op, .int .i64 d, .int .i64 a, .int .i64 b, .int .i64 c, .int .i64 n, .string t], .agg #[.int .i64 op, .int .i64 d, .int .i64 a, .int .i64 b, .int .i64 c, .int .i64 n, .string t]] W fun en w' => en = .returned (.bool true) ∧ Below W.heap.size W w') :=
        fun W hW => eqInstr_same _ W B1 B2 _ _ (InsKeeps.stays hx hW) (InsKeeps.stays hx2 hW)
      have HB := hideP bel
      have hsz := bel.size
      clear he he2 hx hx2 bel
      go_wp2
      go_region_with (go_at_call 64; refine (IHj.out _ (by first | exact Below.refl _ _ | exact (Below.refl _ _).drew | exact (Below.refl _ _).drew.drew)).mono ?_; rintro e1 w1 ⟨rfl, bel1⟩)
      all_goals
        have hw1 : Below w.heap.size w w1 := by first | exact HB.out.trans (bel1.mono hsz) | exact HB.out.drew.trans (bel1.mono hsz) | exact HB.out.drew.drew.trans (bel1.mono hsz)
        clear bel1 k0 k1 k2 k3 k4 k5 k6 m0 m1 m2 m3 m4 m5 m6
        go_wp2
        go_roundw
        case rel => exact ⟨j + 1, by omega, by go_num, hw1⟩
        case measure => simp [intOf]; omega
    · go_wp2
      go_ret
      exact ⟨rfl, bel⟩
end Go.Proofs.Ytobpcfelgobedab
namespace Go.Proofs.Ytobpcfelgobedab
open Go.ChangeShapes Go.WideShapes Go.ChangeAt Go.RowKit
set_option maxHeartbeats 1000000 in
theorem eqBlock_same (x : Blk) (w : World) (B1 B2 : Nat) (v1 v2 : Array Value) (h1 : BlkIs w B1 v1 x) (h2 : BlkIs w B2 v2 x) :
    Calls Try.prog 42 #[.agg v1, .agg v2] w fun en w' => en = .returned (.bool true) ∧ Below w.heap.size w w' := by
  obtain ⟨code, jump, a, to, els⟩ := x
  obtain ⟨ucode1, ccode1, rfl, _, hcode1⟩ := h1
  obtain ⟨ucode2, ccode2, rfl, _, hcode2⟩ := h2
  simp only at *
  have Hcode1 := hideP hcode1
  have Hcode2 := hideP hcode2
  clear hcode1 hcode2
  go_enter Try.func42, Try.ntmps42
  go_wp2_with fail
  refine (eqInstrS_same code _ B1 B2 ucode1 ucode2 ccode1 ccode2 (Hcode1.out.stays InsKeeps (below2 w _ _)) (Hcode2.out.stays InsKeeps (below2 w _ _))).mono ?_
  rintro y1 w1 ⟨rfl, bel1⟩
  obtain ⟨q1, q2, hz, hw⟩ := two bel1
  have HW1 := hideP hw
  have Q1 := hideP q1
  have Q2 := hideP q2
  clear bel1 q1 q2 hw
  have p1 := (cells_of Q1.out).1 1
  have r1 := (cells_of Q2.out).1 1
  have p2 := (cells_of Q1.out).1 2
  have r2 := (cells_of Q2.out).1 2
  have p3 := (cells_of Q1.out).1 3
  have r3 := (cells_of Q2.out).1 3
  have p4 := (cells_of Q1.out).1 4
  have r4 := (cells_of Q2.out).1 4
  simp at p1 r1 p2 r2 p3 r3 p4 r4
  go_wp2
  go_ret
  exact ⟨rfl, HW1.out⟩
set_option maxHeartbeats 1000000 in
theorem eqBlockS_same (es : List Blk) (w : World) (B1 B2 : Nat) (a1 a2 : Option Addr) (z1 z2 : Nat) (h1 : SlIs BlkIs 5 w B1 a1 es) (h2 : SlIs BlkIs 5 w B2 a2 es) :
    Calls Try.prog 24 #[.slice a1 es.length z1, .slice a2 es.length z2] w fun en w' => en = .returned (.bool true) ∧ Below w.heap.size w w' := by
  have hm := maxLen_lt
  have hl := h1.1
  have H1 := hideP h1
  have H2 := hideP h2
  clear h1 h2
  go_enter Try.func24, Try.ntmps24
  go_wp2
  go_loopw [5] (fun i wr => ∃ j : Nat, j ≤ es.length ∧ i = .int .i64 j ∧ Below w.heap.size w wr) (fun i _ => es.length - (intOf i).toNat)
  case atStart => exact ⟨0, Nat.zero_le _, rfl, Below.refl _ _⟩
  case round =>
    obtain ⟨j, hj, rfl, bel⟩ := hrel
    by_cases hlt : j < es.length
    · obtain ⟨b', o', code, jump, a, to, els, ucode1, ccode1, rfl, _, hb, he, k0, k1, k2, k3, k4, hx⟩ := Blk_get (H1.out.stays BlkKeeps bel) j hlt
      obtain ⟨b2, o2, code', jump', a', to', els', ucode2, ccode2, rfl, _, hb2, he2, m0, m1, m2, m3, m4, hx2⟩ := Blk_get (H2.out.stays BlkKeeps bel) j hlt
      have heq := he.symm.trans he2
      simp only [Blk.mk.injEq] at heq
      obtain ⟨rfl, rfl, rfl, rfl, rfl⟩ := heq
      have IHj : Hid (∀ (W : World), Below wr.heap.size wr W → Calls Try.prog 42 #[.agg #[.slice ucode1 code.length ccode1, .int .i64 jump, .int .i64 a, .int .i64 to, .int .i64 els], .agg #[.slice ucode2 code.length ccode2, .int .i64 jump, .int .i64 a, .int .i64 to, .int .i64 els]] W fun en w' => en = .returned (.bool true) ∧ Below W.heap.size W w') :=
        fun W hW => eqBlock_same _ W B1 B2 _ _ (BlkKeeps.stays hx hW) (BlkKeeps.stays hx2 hW)
      have HB := hideP bel
      have hsz := bel.size
      clear he he2 hx hx2 bel
      go_wp2
      go_region_with (go_at_call 42; refine (IHj.out _ (by first | exact Below.refl _ _ | exact (Below.refl _ _).drew | exact (Below.refl _ _).drew.drew)).mono ?_; rintro e1 w1 ⟨rfl, bel1⟩)
      all_goals
        have hw1 : Below w.heap.size w w1 := by first | exact HB.out.trans (bel1.mono hsz) | exact HB.out.drew.trans (bel1.mono hsz) | exact HB.out.drew.drew.trans (bel1.mono hsz)
        clear bel1 k0 k1 k2 k3 k4 m0 m1 m2 m3 m4
        go_wp2
        go_roundw
        case rel => exact ⟨j + 1, by omega, by go_num, hw1⟩
        case measure => simp [intOf]; omega
    · go_wp2
      go_ret
      exact ⟨rfl, bel⟩
end Go.Proofs.Ytobpcfelgobedab
namespace Go.Proofs.Ytobpcfelgobedab
open Go.ChangeShapes Go.WideShapes Go.ChangeAt Go.RowKit
set_option maxHeartbeats 1000000 in
theorem eqGraph_same (x : Gr) (w : World) (B1 B2 : Nat) (v1 v2 : Array Value) (h1 : GrIs w B1 v1 x) (h2 : GrIs w B2 v2 x) :
    Calls Try.prog 8 #[.agg v1, .agg v2] w fun en w' => en = .returned (.bool true) ∧ Below w.heap.size w w' := by
  obtain ⟨sizes, params, vars, slots, blocks⟩ := x
  obtain ⟨usizes1, csizes1, ublocks1, cblocks1, rfl, _, hsizes1, hblocks1⟩ := h1
  obtain ⟨usizes2, csizes2, ublocks2, cblocks2, rfl, _, hsizes2, hblocks2⟩ := h2
  simp only at *
  have Hsizes1 := hideP hsizes1
  have Hsizes2 := hideP hsizes2
  have Hblocks1 := hideP hblocks1
  have Hblocks2 := hideP hblocks2
  clear hsizes1 hsizes2 hblocks1 hblocks2
  go_enter Try.func8, Try.ntmps8
  go_wp2_with fail
  refine (eqIntS_same sizes _ B1 B2 usizes1 usizes2 csizes1 csizes2 (Hsizes1.out.stays (below2 w _ _)) (Hsizes2.out.stays (below2 w _ _))).mono ?_
  rintro y1 w1 ⟨rfl, bel1⟩
  obtain ⟨q1, q2, hz, hw⟩ := two bel1
  have HW1 := hideP hw
  have Q1 := hideP q1
  have Q2 := hideP q2
  clear bel1 q1 q2 hw
  have p1 := (cells_of Q1.out).1 1
  have r1 := (cells_of Q2.out).1 1
  have p2 := (cells_of Q1.out).1 2
  have r2 := (cells_of Q2.out).1 2
  have p3 := (cells_of Q1.out).1 3
  have r3 := (cells_of Q2.out).1 3
  have p4 := (cells_of Q1.out).1 4
  have r4 := (cells_of Q2.out).1 4
  simp at p1 r1 p2 r2 p3 r3 p4 r4
  go_wp2_with fail
  refine (eqBlockS_same blocks _ B1 B2 ublocks1 ublocks2 cblocks1 cblocks2 (Hblocks1.out.stays BlkKeeps HW1.out) (Hblocks2.out.stays BlkKeeps HW1.out)).mono ?_
  rintro y2 w2 ⟨rfl, bel2⟩
  have HW2 := hideP (below_trans HW1.out bel2)
  have Q1 := hideP ((bel2.block _ (Array.getElem?_eq_some_iff.1 Q1.out).1).trans Q1.out)
  have Q2 := hideP ((bel2.block _ (Array.getElem?_eq_some_iff.1 Q2.out).1).trans Q2.out)
  clear bel2 p1 r1 p2 r2 p3 r3 p4 r4
  go_wp2
  go_ret
  exact ⟨rfl, HW2.out⟩
end Go.Proofs.Ytobpcfelgobedab
