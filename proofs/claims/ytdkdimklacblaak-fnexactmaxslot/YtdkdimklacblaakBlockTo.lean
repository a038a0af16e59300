/- The contracts of toBlock and toBlockS: a copy in new memory (written by wip/mkshape.py). -/
import Derived.Test.YtdkdimklacblaakBlockD
import Derived.Test.YtdkdimklacblaakInstrTo
namespace Go.Proofs.Ytdkdimklacblaak
open Go.ChangeShapes Go.WideShapes Go.ChangeAt Go.RowKit
set_option maxHeartbeats 1000000 in
theorem toBlock_any (x : Blk) (w : World) (B : Nat) (v : Array Value) (h : BlkIs w B v x) (hs : x.sz ≤ 1048576) :
    Calls Try.prog 43 #[.agg v] w fun en w' => ∃ v', en = .returned (.agg v') ∧ BlkIs w' w.heap.size v' x ∧ Below w.heap.size w w' := by
  obtain ⟨code, jump, a, to, els⟩ := x
  obtain ⟨ucode, ccode, rfl, ok, hcode⟩ := h
  simp only [Blk.sz, slSz] at *
  have Hcode := hideP hcode
  clear hcode
  go_enter Try.func43, Try.ntmps43
  go_wp2_with fail
  refine (toInstrS_any code _ B ucode ccode (Hcode.out.stays InsKeeps (below3 w _ _ _)) (by unfold slSz; omega)).mono ?_
  rintro y1 w1 ⟨gcode, rfl, hx1, bel1⟩
  obtain ⟨q1, q2, q3, hz, hw⟩ := three bel1
  have hB3 : (((w.alloc (.cells #[.slice ucode code.length ccode, .int .i64 jump, .int .i64 a, .int .i64 to, .int .i64 els] 62)).alloc (.cells #[.slice none 0 0, .int .i64 0, .int .i64 0, .int .i64 0, .int .i64 0] 42)).alloc (.cells #[.slice none 0 0, .int .i64 0, .int .i64 0, .int .i64 0, .int .i64 0] 42)).heap.size = w.heap.size + 3 := by simp
  rw [hB3] at hx1
  have HXcode := hideP hx1
  have HW1 := hideP hw
  have Q1 := hideP q1
  have Q2 := hideP q2
  have Q3 := hideP q3
  clear bel1 q1 q2 q3 hx1 hw hB3
  obtain ⟨c1, _⟩ := cells_of Q1.out
  obtain ⟨c2, f2⟩ := cells_of Q2.out
  obtain ⟨c3, f3⟩ := cells_of Q3.out
  have r1 := c1 1
  have r2 := c1 2
  have r3 := c1 3
  have r4 := c1 4
  have a0' := c2 0
  have b0' := c3 0
  have a1' := c2 1
  have b1' := c3 1
  have a2' := c2 2
  have b2' := c3 2
  have a3' := c2 3
  have b3' := c3 3
  have a4' := c2 4
  have b4' := c3 4
  simp at r1 r2 r3 r4 a0' b0' a1' b1' a2' b2' a3' b3' a4' b4'
  clear Q1 Q2 Q3 c1 c2 c3
  go_wp2
  try simp only [Exit.inBlock, Exit.then]
  refine bodyPost_ret (v := .agg #[.slice (some ⟨gcode, 0, none⟩) code.length code.length, .int .i64 jump, .int .i64 a, .int .i64 to, .int .i64 els]) (by simp [results, Try.results43, go_sem, a0', a1', a2', a3', a4']) rfl ⟨_, rfl, ⟨_, _, rfl, ok, ?_⟩, ?_⟩
  · exact (((HXcode.out.but InsKeeps (g := w.heap.size + 1 + 1) (by omega) ((((((But.refl _ _).set _ _).set _ _).set _ _).set _ _).set _ _)).but InsKeeps (g := w.heap.size + 1) (by omega) ((((((But.refl _ _).set _ _).set _ _).set _ _).set _ _).set _ _)).mono InsKeeps (by omega))
  · exact ((((((((((HW1.out.setCell (show w.heap.size ≤ w.heap.size + 1 + 1 by omega) _).setCell (show w.heap.size ≤ w.heap.size + 1 + 1 by omega) _).setCell (show w.heap.size ≤ w.heap.size + 1 + 1 by omega) _).setCell (show w.heap.size ≤ w.heap.size + 1 + 1 by omega) _).setCell (show w.heap.size ≤ w.heap.size + 1 + 1 by omega) _).setCell (show w.heap.size ≤ w.heap.size + 1 by omega) _).setCell (show w.heap.size ≤ w.heap.size + 1 by omega) _).setCell (show w.heap.size ≤ w.heap.size + 1 by omega) _).setCell (show w.heap.size ≤ w.heap.size + 1 by omega) _).setCell (show w.heap.size ≤ w.heap.size + 1 by omega) _)
/-- The copy, its cells named. -/
theorem toBlock_in {code : List Ins} {jump : Int} {a : Int} {to : Int} {els : Int} (w : World) (B : Nat) (v : Array Value) (h : BlkIs w B v ⟨code, jump, a, to, els⟩) (hs : (⟨code, jump, a, to, els⟩ : Blk).sz ≤ 1048576) (W : World) (bel : Below w.heap.size w W) :
    Calls Try.prog 43 #[.agg v] W fun en w' => ∃ ucode_ ccode_, en = .returned (.agg #[.slice ucode_ code.length ccode_, .int .i64 jump, .int .i64 a, .int .i64 to, .int .i64 els]) ∧ BlkIs w' W.heap.size #[.slice ucode_ code.length ccode_, .int .i64 jump, .int .i64 a, .int .i64 to, .int .i64 els] ⟨code, jump, a, to, els⟩ ∧ Below W.heap.size W w' :=
  (toBlock_any ⟨code, jump, a, to, els⟩ W B v (BlkKeeps.stays h bel) hs).mono fun en w' ⟨v', he, hp, hb⟩ => by
    have h1 := hp
    obtain ⟨ucode_, ccode_, rfl, _⟩ := h1
    exact ⟨ucode_, ccode_, he, hp, hb⟩
theorem infoBlock : (Try.prog.info? 42).map (fun i => (i.zero, i.size, i.bytes)) = some (some (.agg #[.slice none 0 0, .int .i64 0, .int .i64 0, .int .i64 0, .int .i64 0]), 5, 56) := by kernel_rfl
set_option maxHeartbeats 1000000 in
theorem toBlockS_any (es : List Blk) (w : World) (B : Nat) (a' : Option Addr) (cap : Nat) (h : SlIs BlkIs 5 w B a' es) (hs : slSz Blk.sz es ≤ 1048576) :
    Calls Try.prog 23 #[.slice a' es.length cap] w fun en w' => ∃ g, en = .returned (.slice (some ⟨g, 0, none⟩) es.length es.length) ∧ SlIs BlkIs 5 w' w.heap.size (some ⟨g, 0, none⟩) es ∧ Below w.heap.size w w' := by
  have hl0 := h.1
  have hl : es.length ≤ 1048576 := by unfold slSz at hs; omega
  have hmk := make_n (P := Try.prog) Try.underlying28 infoBlock es.length hl (by decide)
  have H := hideP h
  have HS := hideP hs
  clear h hs
  go_enter Try.func23, Try.ntmps23
  go_wp2
  clear hmk
  go_loopw [4] (fun i wr => ∃ j : Nat, j ≤ es.length ∧ i = .int .i64 j ∧ Built BlkIs 5 42 wr w.heap.size es j ∧ Below w.heap.size w wr) (fun i _ => es.length - (intOf i).toNat)
  case atStart => exact ⟨0, Nat.zero_le _, rfl, built_start BlkIs w _ 5 _ es, (Below.refl _ _).alloc (Nat.le_refl _) _⟩
  case round =>
    obtain ⟨j, hj, rfl, hbt, bel⟩ := hrel
    by_cases hlt : j < es.length
    · obtain ⟨b', o', code, jump, a, to, els, ucode, ccode, rfl, _, hb, he, k0, k1, k2, k3, k4, hx⟩ := Blk_get (H.out.stays BlkKeeps bel) j hlt
      have HE := hideP he
      have HX := hideP hx
      have HB := hideP bel
      have HT := hideP hbt
      have hg := hbt.lt
      have hsz := bel.size
      clear he hx bel hbt
      go_wp2_with fail
      refine (toBlock_any es[j] _ B _ (by rw [HE.out]; exact HX.out) (by have h1 := slSum_mem Blk.sz (List.getElem_mem hlt); have h2 := HS.out; unfold slSz at h2; omega)).mono ?_
      rintro e1 w1 ⟨v', rfl, hx1, bel1⟩
      have hx2 := hx1
      rw [HE.out] at hx2
      obtain ⟨ucode', ccode', rfl, _, _⟩ := hx2
      simp only at hx1
      have hb1 := HT.out.on BlkKeeps bel1
      obtain ⟨hce, hfz⟩ := hb1.cells
      obtain ⟨d0, hd0⟩ := hce (j * 5) (by omega)
      obtain ⟨d1, hd1⟩ := hce (j * 5 + 1) (by omega)
      obtain ⟨d2, hd2⟩ := hce (j * 5 + 2) (by omega)
      obtain ⟨d3, hd3⟩ := hce (j * 5 + 3) (by omega)
      obtain ⟨d4, hd4⟩ := hce (j * 5 + 4) (by omega)
      have HB1 := hideP hb1
      have HX1 := hideP (BlkKeeps.mono hx1 (show w.heap.size + 1 ≤ wr.heap.size by omega))
      have hw1 : Hid (Below w.heap.size w w1) := HB.out.trans (bel1.mono hsz)
      clear bel1 k0 k1 k2 k3 k4 hb1 hx1 hce
      go_wp2
      go_roundw
      case rel => exact ⟨j + 1, by omega, by go_num, HB1.out.step BlkKeeps hlt (l := [.slice ucode' code.length ccode', .int .i64 jump, .int .i64 a, .int .i64 to, .int .i64 els]) rfl HX1.out, sets_below (Nat.le_refl _) [.slice ucode' code.length ccode', .int .i64 jump, .int .i64 a, .int .i64 to, .int .i64 els] _ _ hw1.out⟩
      case measure => simp [intOf]; omega
    · have hjn : j = es.length := by omega
      subst hjn
      go_wp2
      go_ret
      exact ⟨_, rfl, hbt.is BlkKeeps hl0 (Nat.le_refl _), bel⟩
end Go.Proofs.Ytdkdimklacblaak
