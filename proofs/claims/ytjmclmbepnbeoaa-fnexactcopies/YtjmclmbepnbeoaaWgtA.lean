/- How many steps of one Op there are: plain. -/
import Derived.Test.YtjmclmbepnbeoaaGrOkP
import Derived.Test.YtjmclmbepnbeoaaRowA
import Derived.Deep.LoopGhost
import Derived.Deep.CutRange
import Derived.Deep.RegionHeld3
namespace Go.Proofs.Ytjmclmbepnbeoaa
open Go.ChangeShapes Go.WideShapes Go.ChangeAt Go.RowKit
def cntP (op : Int) (l : List Ins) : Nat := l.countP fun x => decide (x.op = op)
theorem cntP_nil (op : Int) : cntP op [] = 0 := rfl
theorem cntP_append (op : Int) (a b : List Ins) : cntP op (a ++ b) = cntP op a + cntP op b := List.countP_append
theorem cntP_one (op : Int) (x : Ins) : cntP op [x] = if x.op = op then 1 else 0 := by simp [cntP, List.countP_cons]
theorem cntP_le (op : Int) (l : List Ins) : cntP op l ≤ l.length := List.countP_le_length
theorem cntP_snoc (op : Int) (l : List Ins) (x : Ins) : cntP op (l ++ [x]) = cntP op l + (if x.op = op then 1 else 0) := by rw [cntP_append, cntP_one]
theorem codeAll_take (bs : List Blk) (j : Nat) (h : j < bs.length) : codeAll (bs.take (j + 1)) = codeAll (bs.take j) ++ bs[j].code := by
  unfold codeAll
  rw [List.take_succ_eq_append_getElem h, List.flatMap_append, List.flatMap_cons, List.flatMap_nil, List.append_nil]
theorem codeAll_few : ∀ (bs : List Blk), (codeAll bs).length ≤ slSum Blk.sz bs
  | [] => by simp [codeAll]
  | b :: l => by
    have h1 := codeAll_few l
    have h2 : b.code.length ≤ b.sz := by simp only [Blk.sz, slSz]; omega
    unfold codeAll at h1 ⊢
    rw [List.flatMap_cons, List.length_append, slSum]
    omega
theorem codeAll_sz {g : Gr} (h : g.sz ≤ 1048576) : (codeAll g.blocks).length ≤ 1048576 := by
  have h1 := codeAll_few g.blocks
  simp only [Gr.sz, slSz] at h
  omega
theorem code_leC {bs : List Blk} {j : Nat} (h : j < bs.length) : (codeAll (bs.take j)).length + bs[j].code.length ≤ (codeAll bs).length := by
  have e : codeAll bs = codeAll (bs.take j) ++ (bs[j].code ++ codeAll (bs.drop (j + 1))) := by
    unfold codeAll
    conv => lhs; rw [← List.take_append_drop j bs, List.flatMap_append, List.drop_eq_getElem_cons h, List.flatMap_cons]
  rw [e, List.length_append, List.length_append]
  omega
end Go.Proofs.Ytjmclmbepnbeoaa

/- The contract of spec.Weight. -/
namespace Go.Proofs.Ytjmclmbepnbeoaa
open Go.ChangeShapes Go.WideShapes Go.ChangeAt Go.RowKit
def wgtP (g : Gr) : Nat := g.blocks.length + (codeAll g.blocks).length
end Go.Proofs.Ytjmclmbepnbeoaa

/- The contracts of impl.stepCount and impl.Weight. -/
namespace Go.Proofs.Ytjmclmbepnbeoaa
open Go.ChangeShapes Go.WideShapes Go.ChangeAt Go.RowKit
theorem newGx (w : World) (o : Obj) : (w.alloc o).heap[w.heap.size]? = some o := by show (w.heap.push o)[w.heap.size]? = _; exact Array.getElem?_push_size
theorem blocks_sz {g : Gr} (h : g.sz ≤ 1048576) : g.blocks.length ≤ 1048576 := by unfold Gr.sz slSz at h; omega
set_option maxRecDepth 100000 in
set_option maxHeartbeats 4000000 in
theorem impl_stepCount (g : Gr) (w : World) (B : Nat) (v : Array Value) (h : GrIs w B v g) (hn : (codeAll g.blocks).length ≤ 1048576) (hb : g.blocks.length ≤ 1048576) :
    Calls Try.prog 62 #[.agg v] w fun en w' => en = .returned (.int .i64 ((codeAll g.blocks).length : Nat)) ∧ Below w.heap.size w w' := by
  obtain ⟨sizes, p, q, r, blocks⟩ := g
  obtain ⟨us, cs, ub, cb, rfl, _, _, hbb⟩ := h
  simp only at *
  have HBB := hideP hbb
  have al := (Below.refl w.heap.size w).alloc (Nat.le_refl _) (.cells #[.slice us sizes.length cs, .int .i64 p, .int .i64 q, .int .i64 r, .slice ub blocks.length cb] 29)
  have bx := newGx w (.cells #[.slice us sizes.length cs, .int .i64 p, .int .i64 q, .int .i64 r, .slice ub blocks.length cb] 29)
  obtain ⟨W1, hW1⟩ : ∃ W1, w.alloc (.cells #[.slice us sizes.length cs, .int .i64 p, .int .i64 q, .int .i64 r, .slice ub blocks.length cb] 29) = W1 := ⟨_, rfl⟩
  rw [hW1] at al bx
  have HW := hideP hW1
  have AL := hideP al
  have g4 := (cells_of bx).1 4
  simp at g4
  clear hW1 bx al hbb
  go_enter Try.func62, Try.ntmps62
  go_upto_region 1 with fail
  rw [HW.out]
  clear HW
  go_wp2
  go_loopg [3, 9] blocks.length (fun gk n i wr => ∃ j : Nat, gk + j = blocks.length ∧ i = .int .i64 j ∧ n = .int .i64 (((codeAll (blocks.take j)).length : Nat) : Int) ∧ Hid (Below w.heap.size w wr))
  case atStart => exact ⟨0, by simp, rfl, by simp [codeAll], AL.out⟩
  case round =>
    obtain ⟨j, hj, rfl, rfl, hB⟩ := hrel
    by_cases hlt : j < blocks.length
    · obtain ⟨bb, oo, code, jump, a, t0, els, uc, kc, hub, _, hbl, he, q0, q1, q2, q3, q4, _⟩ := Blk_get HBB.out j hlt
      subst hub
      have q0 := (hB.out.cell (p := ⟨bb, _, none⟩) hbl).trans q0
      have q1 := (hB.out.cell (p := ⟨bb, _, none⟩) hbl).trans q1
      have q2 := (hB.out.cell (p := ⟨bb, _, none⟩) hbl).trans q2
      have q3 := (hB.out.cell (p := ⟨bb, _, none⟩) hbl).trans q3
      have q4 := (hB.out.cell (p := ⟨bb, _, none⟩) hbl).trans q4
      have E1 := codeAll_take blocks j hlt
      rw [he] at E1
      have hle := code_leC hlt
      rw [he] at hle
      have E2 : Hid ((codeAll (blocks.take (j + 1))).length = (codeAll (blocks.take j)).length + code.length) := by show _ = _; rw [E1, List.length_append]
      obtain ⟨M, hM⟩ : ∃ M, (codeAll (blocks.take j)).length = M := ⟨_, rfl⟩
      simp only at hle
      have hM2 : M + code.length ≤ 2097152 := by omega
      rw [hM] at E2 ⊢
      have B2 := hideP (hB.out.alloc hB.out.size (.cells #[.slice uc code.length kc, .int .i64 jump, .int .i64 a, .int .i64 t0, .int .i64 els] 44))
      clear E1 hle hM he hB
      go_wp2
      go_roundg (blocks.length - (j + 1))
      case rel => exact ⟨j + 1, by omega, by go_num, by rw [E2.out]; go_num, B2.out⟩
      case measure => omega
    · have hjn : j = blocks.length := by omega
      subst hjn
      rw [List.take_length]
      go_wp2
      go_ret
      exact ⟨rfl, hB.out⟩
end Go.Proofs.Ytjmclmbepnbeoaa
