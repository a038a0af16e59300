/- The contract of spec.Exec. -/
import Derived.Test.YtpkfbabgcinhhaaDoorCkN
namespace Go.Proofs.YtpkfbabgcinhhaaDoor
open Go.ChangeShapes Go.WideShapes Go.ChangeAt Go.RowKit
set_option maxHeartbeats 8000000 in
set_option maxRecDepth 100000 in
theorem sexec_yes {m : Img} {B : Nat} {us : Option Addr} {cs : Nat} {ub : Option Addr} {cb : Nat} (w : World) (hI : ImgIs w B #[.slice us m.sizes.length cs, .int .i64 m.params, .int .i64 m.slots, .slice ub m.code.length cb] m) {args input : List Int} {f : Int} (ua : Option Addr) (ca : Nat) (ui : Option Addr) (ci : Nat) (hok : runOk m args input f = true) (ha : IntsIs w 0 ua args) (hi : IntsIs w 0 ui input) (hci : input.length ≤ ci ∧ ci ≤ maxLen) :
    Calls Tryd.prog 6 #[.agg #[.slice us m.sizes.length cs, .int .i64 m.params, .int .i64 m.slots, .slice ub m.code.length cb], .slice ua args.length ca, .slice ui input.length ci, .int .i64 f] w fun en w' => ∃ go c, en = .returned (.agg #[.int .i64 (execM m args input f).code, .int .i64 (if (execM m args input f).code = 0 then (execM m args input f).val else 0), .slice (some ⟨go, 0, none⟩) (execM m args input f).out.length c]) ∧ OwnI w' w.heap.size (.slice (some ⟨go, 0, none⟩) (execM m args input f).out.length c) (execM m args input f).out ∧ Below w.heap.size w w' := by
  obtain ⟨W, hW, bW, B1, B2, hsz⟩ := twoNewS w (.cells #[.slice us m.sizes.length cs, .int .i64 m.params, .int .i64 m.slots, .slice ub m.code.length cb] 32) (.cells zE 28)
  have EX := hideP (l14_yes (f := f) W (ImgKeeps.stays hI bW) ua ca ui ci hok (IntsIs.stays ha bW) (IntsIs.stays hi bW) hci)
  generalize execM m args input f = R at EX ⊢
  obtain ⟨ev, hev⟩ : ∃ ev, (if R.code = 0 then R.val else 0) = ev := ⟨_, rfl⟩
  rw [hev] at EX ⊢
  have d0 := (cells_of B1).1 0
  have d1 := (cells_of B1).1 1
  have d2 := (cells_of B1).1 2
  have d3 := (cells_of B1).1 3
  simp at d0 d1 d2 d3
  have HB2 := hideP B2
  have HW := hideP hW
  have HBW := hideP bW
  have HS := hideP hsz
  clear hW bW B1 B2 hsz hI ha hi hok hci hev
  go_enter Tryd.func6, Tryd.ntmps6
  unfold zE at HW
  go_upto_region 1 with fail
  rw [HW.out]
  obtain ⟨lb, hlb⟩ : ∃ lb, w.heap.size = lb := ⟨_, rfl⟩
  rw [hlb] at d0 d1 d2 d3 ⊢
  have HLB := hideP hlb
  clear hlb
  go_wp2_with fail
  refine EX.out.mono ?_
  rintro e1 w1 ⟨go, c, rfl, oo, b1⟩
  have OO := hideP oo
  clear oo
  have hl1 := HLB.out
  have hl2 := HS.out
  have hl3 := b1.size
  have Z3 : w1.heap[lb + 1]? = some (.cells zE 28 (0, 0)) := (b1.block (lb + 1) (by omega)).trans (hl1 ▸ HB2.out)
  have al := (Below.refl w1.heap.size w1).alloc (Nat.le_refl _) (.cells #[.int .i64 R.code, .int .i64 ev, .slice (some ⟨go, 0, none⟩) R.out.length c] 28)
  have Z4 := (al.block (lb + 1) (by omega)).trans Z3
  unfold zE at Z4
  have z0 := (cells_of Z4).1 0
  have z1 := (cells_of Z4).1 1
  have z2 := (cells_of Z4).1 2
  have zf := (cells_of Z4).2
  simp at z0 z1 z2
  have P3 := hideP (put3 Z4 (.int .i64 R.code) (.int .i64 ev) (.slice (some ⟨go, 0, none⟩) R.out.length c))
  have KZ := hideP ((((But.refl (lb + 1) _).set 0 (.int .i64 R.code)).set 1 (.int .i64 ev)).set 2 (.slice (some ⟨go, 0, none⟩) R.out.length c) : But (lb + 1) (w1.alloc (.cells #[.int .i64 R.code, .int .i64 ev, .slice (some ⟨go, 0, none⟩) R.out.length c] 28)) _)
  have HB := hideP (HBW.out.trans (b1.mono HBW.out.size))
  have HAL := hideP al
  have HL3 := hideP hl3
  clear d0 d1 d2 d3 b1 Z3 Z4 al hl1 hl2 hl3
  go_wp2_with fail
  refine bodyPost_ret (results_cell_row rfl _ _ (lb + 1) 28 _ (0, 0) _ rfl P3.out Tryd.underlying28 rfl (by kernel_rfl)) rfl ?_
  have hl1 := HLB.out
  have hl2 := HS.out
  have hl3 := HL3.out
  have q4 := ((HB.out.trans (HAL.out.mono HB.out.size))).trans (KZ.out.below (B := w.heap.size) (by omega) (by have := HB.out.size; have := HAL.out.size; omega))
  have h5 := OO.out.low go rfl
  have o2 := (OO.out.stays HAL.out).butG KZ.out (fun e => by have := own_blk e; omega)
  exact ⟨go, c, rfl, o2.mono (by omega), q4⟩
set_option maxHeartbeats 8000000 in
set_option maxRecDepth 100000 in
theorem sexec_no {m : Img} {B : Nat} {us : Option Addr} {cs : Nat} {ub : Option Addr} {cb : Nat} (w : World) (hI : ImgIs w B #[.slice us m.sizes.length cs, .int .i64 m.params, .int .i64 m.slots, .slice ub m.code.length cb] m) {args input : List Int} {f : Int} (ua : Option Addr) (ca : Nat) (ui : Option Addr) (ci : Nat) (hok : runOk m args input f = false) :
    Calls Tryd.prog 6 #[.agg #[.slice us m.sizes.length cs, .int .i64 m.params, .int .i64 m.slots, .slice ub m.code.length cb], .slice ua args.length ca, .slice ui input.length ci, .int .i64 f] w fun en w' => en = .returned (.agg #[.int .i64 3, .int .i64 0, .slice none 0 0]) ∧ Below w.heap.size w w' := by
  obtain ⟨W, hW, bW, B1, B2, hsz⟩ := twoNewS w (.cells #[.slice us m.sizes.length cs, .int .i64 m.params, .int .i64 m.slots, .slice ub m.code.length cb] 32) (.cells zE 28)
  have EX := hideP (l14_no (f := f) W (ImgKeeps.stays hI bW) ua ca ui ci hok)
  have d0 := (cells_of B1).1 0
  have d1 := (cells_of B1).1 1
  have d2 := (cells_of B1).1 2
  have d3 := (cells_of B1).1 3
  simp at d0 d1 d2 d3
  have HB2 := hideP B2
  have HW := hideP hW
  have HBW := hideP bW
  have HS := hideP hsz
  clear hW bW B1 B2 hsz hI hok
  go_enter Tryd.func6, Tryd.ntmps6
  unfold zE at HW
  go_upto_region 1 with fail
  rw [HW.out]
  obtain ⟨lb, hlb⟩ : ∃ lb, w.heap.size = lb := ⟨_, rfl⟩
  rw [hlb] at d0 d1 d2 d3 ⊢
  have HLB := hideP hlb
  clear hlb
  go_wp2_with fail
  refine EX.out.mono ?_
  rintro e1 w1 ⟨rfl, b1⟩
  have hl1 := HLB.out
  have hl2 := HS.out
  have hl3 := b1.size
  have Z3 : w1.heap[lb + 1]? = some (.cells zE 28 (0, 0)) := (b1.block (lb + 1) (by omega)).trans (hl1 ▸ HB2.out)
  have al := (Below.refl w1.heap.size w1).alloc (Nat.le_refl _) (.cells #[.int .i64 3, .int .i64 0, .slice none 0 0] 28)
  have Z4 := (al.block (lb + 1) (by omega)).trans Z3
  unfold zE at Z4
  have z0 := (cells_of Z4).1 0
  have z1 := (cells_of Z4).1 1
  have z2 := (cells_of Z4).1 2
  have zf := (cells_of Z4).2
  simp at z0 z1 z2
  have P3 := hideP (put3 Z4 (.int .i64 3) (.int .i64 0) (.slice none 0 0))
  have KZ := hideP ((((But.refl (lb + 1) _).set 0 (.int .i64 3)).set 1 (.int .i64 0)).set 2 (.slice none 0 0) : But (lb + 1) (w1.alloc (.cells #[.int .i64 3, .int .i64 0, .slice none 0 0] 28)) _)
  have HB := hideP (HBW.out.trans (b1.mono HBW.out.size))
  have HAL := hideP al
  have HL3 := hideP hl3
  clear d0 d1 d2 d3 b1 Z3 Z4 al hl1 hl2 hl3
  go_wp2_with fail
  refine bodyPost_ret (results_cell_row rfl _ _ (lb + 1) 28 _ (0, 0) _ rfl P3.out Tryd.underlying28 rfl (by kernel_rfl)) rfl ?_
  have hl1 := HLB.out
  have hl2 := HS.out
  have hl3 := HL3.out
  have q4 := ((HB.out.trans (HAL.out.mono HB.out.size))).trans (KZ.out.below (B := w.heap.size) (by omega) (by have := HB.out.size; have := HAL.out.size; omega))
  exact ⟨rfl, q4⟩
end Go.Proofs.YtpkfbabgcinhhaaDoor
