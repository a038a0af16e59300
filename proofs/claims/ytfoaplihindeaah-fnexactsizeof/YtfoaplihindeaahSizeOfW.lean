/- The walk of the law FnExactSizeOf (written by wip/mklaw1.py). -/
import Derived.Test.YtfoaplihindeaahSizeOf
import Derived.Test.YtfoaplihindeaahToIn
import Derived.Deep.CutRange
namespace Go.Proofs.Ytfoaplihindeaah
open Go.ChangeShapes Go.WideShapes Go.ChangeAt Go.RowKit
theorem keep {W W' : World} {b : Nat} {o : Obj} (h : W.heap[b]? = some o) (bel : Below W.heap.size W W') : W'.heap[b]? = some o := (bel.block b (Array.getElem?_eq_some_iff.1 h).1).trans h
theorem blk_new (w : World) (o : Obj) : (w.alloc o).heap[w.heap.size]? = some o := by show (w.heap.push o)[w.heap.size]? = _; exact Array.getElem?_push_size
namespace SizeOfLaw
set_option maxRecDepth 100000 in
set_option maxHeartbeats 16000000 in
theorem walk (p : Pr) (v1 : Array Value) (w : World) (h1 : PrIs w 0 v1 p) :
    Calls Try.prog 3 #[.agg v1] w fun en w' => en = .returned (.bool true) ∧ Below w.heap.size w w' := by
  obtain ⟨sizes, params, vars, body⟩ := p
  have g1 := h1
  obtain ⟨a1, c1, b1, d1, rfl, hzl, _⟩ := g1
  simp only at *
  have SP : Hid (∀ W, Below w.heap.size w W → _) := fun W hW => szProgram_any ⟨sizes, params, vars, body⟩ W 0 _ 1048576 (h1.stays hW) (by omega)
  by_cases hp : (⟨sizes, params, vars, body⟩ : Pr).sz ≤ 1048576
  · have TP := hideP (toProgram_in ⟨sizes, params, vars, body⟩ w 0 _ h1 hp)
    obtain ⟨r, hr⟩ : ∃ r : Nat, (stsVis body).length = r := ⟨_, rfl⟩
    have SO : Hid (∀ W A1 x1, PrIs W A1 x1 ⟨sizes, params, vars, body⟩ → Calls Try.prog 9 #[.agg x1] W fun en w' => en = .returned (.int .i64 (r : Nat)) ∧ Below W.heap.size W w') := fun W A1 x1 y1 => by rw [← hr]; exact spec_sizeOf _ W A1 x1 y1 hp
    have IO : Hid (∀ W A1 x1, PrIs W A1 x1 ⟨sizes, params, vars, body⟩ → 0 < A1 → Calls Try.prog 11 #[.agg x1] W fun en w' => en = .returned (.int .i64 (r : Nat)) ∧ Below W.heap.size W w') := fun W A1 x1 y1 hA => by rw [← hr]; exact impl_sizeOf _ W A1 x1 y1 hA hp
    simp only at TP
    have E1 := hideP (szR_pos hp)
    clear hr hp h1 hzl
    go_enter Try.func3, Try.ntmps3
    go_wp2_with fail
    refine (SP.out _ ((Below.refl _ _).alloc (Nat.le_refl _) _)).mono ?_
    rintro e1 w1 ⟨rfl, bel1⟩
    rw [E1.out]
    have P1 := hideP (keep (blk_new w _) bel1)
    have HW1 := hideP (below_new bel1)
    have hpos : Hid (0 < w1.heap.size) := by have := (Array.getElem?_eq_some_iff.1 P1.out).1; exact Nat.lt_of_le_of_lt (Nat.zero_le _) this
    clear bel1 SP E1
    have p0 := (cells_of P1.out).1 0
    have p1 := (cells_of P1.out).1 1
    have p2 := (cells_of P1.out).1 2
    have p3 := (cells_of P1.out).1 3
    simp at p0 p1 p2 p3
    go_wp2_with fail
    refine (TP.out _ HW1.out).mono ?_
    rintro y3 w3 ⟨a3, c3, b3, d3, rfl, hp3, bel3⟩
    have HP3 := hideP hp3
    have HW3 := hideP (below_trans HW1.out bel3)
    have P3 := hideP (keep P1.out bel3)
    clear hp3 bel3 p0 p1 p2 p3 P1 HW1
    go_wp2_with fail
    refine (SO.out _ _ _ HP3.out).mono ?_
    rintro y5 w5 ⟨rfl, bel5⟩
    have HW5 := hideP (below_trans HW3.out bel5)
    have P5 := hideP (keep P3.out bel5)
    have hpos5 : Hid (0 < w5.heap.size) := by have := (Array.getElem?_eq_some_iff.1 P5.out).1; exact Nat.lt_of_le_of_lt (Nat.zero_le _) this
    clear bel5 HP3 HW3 P3 SO hpos
    have p0 := (cells_of P5.out).1 0
    have p1 := (cells_of P5.out).1 1
    have p2 := (cells_of P5.out).1 2
    have p3 := (cells_of P5.out).1 3
    simp at p0 p1 p2 p3
    go_wp2_with fail
    refine (TP.out _ HW5.out).mono ?_
    rintro y6 w6 ⟨a6, c6, b6, d6, rfl, hp6, bel6⟩
    have al := (Below.refl w6.heap.size w6).alloc (Nat.le_refl _) (.cells #[.slice a6 sizes.length c6, .int .i64 params, .int .i64 vars, .slice b6 body.length d6] 30)
    have G6 := hideP (blk_new w6 (.cells #[.slice a6 sizes.length c6, .int .i64 params, .int .i64 vars, .slice b6 body.length d6] 30))
    have HP6 := hideP (hp6.stays al)
    have HW6 := hideP ((below_trans HW5.out bel6).trans (al.mono (below_trans HW5.out bel6).size))
    have P6 := hideP (keep (keep P5.out bel6) al)
    clear p0 p1 p2 p3 hp6 bel6 P5 HW5 al
    have g0 := (cells_of G6.out).1 0
    have g1 := (cells_of G6.out).1 1
    have g2 := (cells_of G6.out).1 2
    have g3 := (cells_of G6.out).1 3
    simp at g0 g1 g2 g3
    go_wp2_with fail
    refine (IO.out _ _ _ HP6.out hpos5.out).mono ?_
    rintro y8 w8 ⟨rfl, bel8⟩
    have G8 := hideP (keep G6.out bel8)
    have HP8 := hideP (HP6.out.stays bel8)
    have HW8 := hideP (below_trans HW6.out bel8)
    have P8 := hideP (keep P6.out bel8)
    clear g0 g1 g2 g3 bel8 P6 HW6 HP6 G6 IO
    go_upto_region 10 with fail
    go_cut [26] from 22 to 26 (fun sx wx => sx = .bool false ∧ Hid (Below w8.heap.size w8 wx))
    case first =>
      have e0 := (cells_of G8.out).1
      have l0 : w6.heap.size < w8.heap.size := (Array.getElem?_eq_some_iff.1 G8.out).1
      have e1 := (cells_of P8.out).1
      have l1 : w.heap.size < w8.heap.size := (Array.getElem?_eq_some_iff.1 P8.out).1
      have SK : Hid (∀ W', Below w8.heap.size w8 W' → W'.cell? ⟨w6.heap.size, 0, none⟩ = some (.slice a6 sizes.length c6) ∧ W'.cell? ⟨w6.heap.size, 1, none⟩ = some (.int .i64 params) ∧ W'.cell? ⟨w6.heap.size, 2, none⟩ = some (.int .i64 vars) ∧ W'.cell? ⟨w6.heap.size, 3, none⟩ = some (.slice b6 body.length d6) ∧ W'.cell? ⟨w.heap.size, 0, none⟩ = some (.slice a1 sizes.length c1) ∧ W'.cell? ⟨w.heap.size, 1, none⟩ = some (.int .i64 params) ∧ W'.cell? ⟨w.heap.size, 2, none⟩ = some (.int .i64 vars) ∧ W'.cell? ⟨w.heap.size, 3, none⟩ = some (.slice b1 body.length d1)) := fun W' h => ⟨(h.cell (p := ⟨w6.heap.size, 0, none⟩) l0).trans (e0 0), (h.cell (p := ⟨w6.heap.size, 1, none⟩) l0).trans (e0 1), (h.cell (p := ⟨w6.heap.size, 2, none⟩) l0).trans (e0 2), (h.cell (p := ⟨w6.heap.size, 3, none⟩) l0).trans (e0 3), (h.cell (p := ⟨w.heap.size, 0, none⟩) l1).trans (e1 0), (h.cell (p := ⟨w.heap.size, 1, none⟩) l1).trans (e1 1), (h.cell (p := ⟨w.heap.size, 2, none⟩) l1).trans (e1 2), (h.cell (p := ⟨w.heap.size, 3, none⟩) l1).trans (e1 3)⟩
      clear e0 l0 e1 l1
      go_region_held3 (fun W' => W'.cell? ⟨w6.heap.size, 0, none⟩ = some (.slice a6 sizes.length c6) ∧ W'.cell? ⟨w6.heap.size, 1, none⟩ = some (.int .i64 params) ∧ W'.cell? ⟨w6.heap.size, 2, none⟩ = some (.int .i64 vars) ∧ W'.cell? ⟨w6.heap.size, 3, none⟩ = some (.slice b6 body.length d6) ∧ W'.cell? ⟨w.heap.size, 0, none⟩ = some (.slice a1 sizes.length c1) ∧ W'.cell? ⟨w.heap.size, 1, none⟩ = some (.int .i64 params) ∧ W'.cell? ⟨w.heap.size, 2, none⟩ = some (.int .i64 vars) ∧ W'.cell? ⟨w.heap.size, 3, none⟩ = some (.slice b1 body.length d1)) (first | exact SK.out _ (Below.refl _ _).drew | exact SK.out _ HB10.out | exact SK.out _ HB9.out) (first
        | (go_at_call 10; refine (TP.out _ HW8.out.drew).mono ?_; rintro y9 w9 ⟨a9, c9, b9, d9, rfl, hp9, bel9⟩; have HP9 := hideP hp9; have HB9 := hideP ((Below.refl w8.heap.size w8).drew.trans (bel9.mono (Nat.le_refl _))); clear bel9 hp9)
        | (go_at_call 12; refine (eqProgram_any ⟨sizes, params, vars, body⟩ _ _ _ _ _ (HP8.out.stays HB9.out) HP9.out).mono ?_; rintro y10 w10 ⟨rfl, bel10⟩; have HB10 := hideP (HB9.out.trans (bel10.mono HB9.out.size)); clear bel10))
      all_goals (go_wp2_with fail; go_meet; exact ⟨rfl, HB10⟩)
    case rest =>
    obtain ⟨rfl, hc⟩ := hcut
    have HW10 := hideP (HW8.out.trans (hc.out.mono HW8.out.size))
    clear hc
    go_wp2
    go_ret
    exact ⟨rfl, HW10.out⟩
  · have E1 := hideP (szR_neg (Nat.lt_of_not_le hp))
    clear h1 hp hzl
    go_enter Try.func3, Try.ntmps3
    go_wp2_with fail
    refine (SP.out _ ((Below.refl _ _).alloc (Nat.le_refl _) _)).mono ?_
    rintro e1 w1 ⟨rfl, bel1⟩
    rw [E1.out]
    have HW := hideP (below_new bel1)
    clear bel1 SP E1
    go_wp2
    go_ret
    exact ⟨rfl, HW.out⟩
end SizeOfLaw
end Go.Proofs.Ytfoaplihindeaah
