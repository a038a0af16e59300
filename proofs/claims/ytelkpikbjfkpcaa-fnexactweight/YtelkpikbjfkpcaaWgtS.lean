/- The contract of spec.Weight. -/
import Derived.Test.YtelkpikbjfkpcaaCntP
import Derived.Test.YtelkpikbjfkpcaaRowFG
import Derived.Deep.LoopGhost
import Derived.Deep.CutRange
import Derived.Deep.RegionHeld3
namespace Go.Proofs.Ytelkpikbjfkpcaa
open Go.ChangeShapes Go.WideShapes Go.ChangeAt Go.RowKit
def wgtP (g : Gr) : Nat := g.blocks.length + (codeAll g.blocks).length
set_option maxRecDepth 100000 in
set_option maxHeartbeats 4000000 in
theorem spec_weight (g : Gr) (w : World) (B : Nat) (v : Array Value) (h : GrIs w B v g) (hn : (codeAll g.blocks).length ≤ 1048576) (hb : g.blocks.length ≤ 1048576) :
    Calls Try.prog 15 #[.agg v] w fun en w' => en = .returned (.int .i64 (wgtP g : Nat)) ∧ Below w.heap.size w w' := by
  obtain ⟨sizes, p, q, r, blocks⟩ := g
  obtain ⟨us, cs, ub, cb, rfl, _, _, hbb⟩ := h
  simp only [wgtP] at *
  have HBB := hideP hbb
  have al := (Below.refl w.heap.size w).alloc (Nat.le_refl _) (.cells #[.slice us sizes.length cs, .int .i64 p, .int .i64 q, .int .i64 r, .slice ub blocks.length cb] 29)
  have bx : (w.alloc (.cells #[.slice us sizes.length cs, .int .i64 p, .int .i64 q, .int .i64 r, .slice ub blocks.length cb] 29)).heap[w.heap.size]? = some (.cells #[.slice us sizes.length cs, .int .i64 p, .int .i64 q, .int .i64 r, .slice ub blocks.length cb] 29 (0, 0)) := by show (w.heap.push _)[w.heap.size]? = _; exact Array.getElem?_push_size
  obtain ⟨W1, hW1⟩ : ∃ W1, w.alloc (.cells #[.slice us sizes.length cs, .int .i64 p, .int .i64 q, .int .i64 r, .slice ub blocks.length cb] 29) = W1 := ⟨_, rfl⟩
  rw [hW1] at al bx
  have HW := hideP hW1
  have AL := hideP al
  have g4 := (cells_of bx).1 4
  simp at g4
  clear hW1 bx al hbb
  go_enter Try.func15, Try.ntmps15
  go_upto_region 1 with fail
  rw [HW.out]
  clear HW
  go_wp2
  go_loopg [3, 4] blocks.length (fun gk n i wr => ∃ j : Nat, gk + j = blocks.length ∧ i = .int .i64 j ∧ n = .int .i64 ((blocks.length + (codeAll (blocks.take j)).length : Nat) : Int) ∧ wr = W1)
  case atStart => exact ⟨0, by simp, rfl, by simp [codeAll], rfl⟩
  case round =>
    obtain ⟨j, hj, rfl, rfl, rfl⟩ := hrel
    by_cases hlt : j < blocks.length
    · obtain ⟨bb, oo, code, jump, a, t0, els, uc, kc, hub, _, hbl, he, q0, _⟩ := Blk_get HBB.out j hlt
      subst hub
      have q0 := (AL.out.cell (p := ⟨bb, _, none⟩) hbl).trans q0
      have E1 := codeAll_take blocks j hlt
      rw [he] at E1
      have hle := code_leC hlt
      rw [he] at hle
      have E2 : Hid ((blocks.length + (codeAll (blocks.take (j + 1))).length : Nat) = (blocks.length + (codeAll (blocks.take j)).length : Nat) + code.length) := by show _ = _; rw [E1, List.length_append]; simp only; omega
      obtain ⟨M, hM⟩ : ∃ M, blocks.length + (codeAll (blocks.take j)).length = M := ⟨_, rfl⟩
      simp only at hle
      have hM2 : M + code.length ≤ 2097152 := by omega
      rw [hM] at E2 ⊢
      clear E1 hle hM he
      go_wp2
      go_roundg (blocks.length - (j + 1))
      case rel => exact ⟨j + 1, by omega, by go_num, by rw [E2.out]; go_num, rfl⟩
      case measure => omega
    · have hjn : j = blocks.length := by omega
      subst hjn
      rw [List.take_length]
      go_wp2
      go_ret
      exact ⟨rfl, AL.out⟩
end Go.Proofs.Ytelkpikbjfkpcaa
