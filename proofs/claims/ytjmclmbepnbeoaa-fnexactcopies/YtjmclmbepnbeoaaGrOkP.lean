/- When a graph is right, as a function; the contracts of impl.frameOk, impl.blockThere and impl.jumpOk. -/
import Derived.Test.YtjmclmbepnbeoaaInsA
namespace Go.Proofs.Ytjmclmbepnbeoaa
open Go.ChangeShapes Go.WideShapes Go.ChangeAt Go.RowKit
def sizeOk (z : Int) : Bool := decide (1 ≤ z ∧ z ≤ 16)
/-- Whether Sizes, Params and Vars are as a program's. -/
def frOk (sizes : List Int) (params vars : Int) : Bool := decide (1 ≤ sizes.length ∧ sizes.length ≤ 4) && sizes.all sizeOk && decide (0 ≤ params ∧ params ≤ 6 ∧ params ≤ vars ∧ vars ≤ 20)
/-- Whether a block's Jump is right, of V slots and m blocks. -/
def jmpOk (V : Int) (m : Nat) (b : Blk) : Bool :=
  if b.jump = 0 then decide (b.a = 0) && decide (b.els = 0) && vOk (m : Nat) b.to
  else if b.jump = 1 then vOk V b.a && vOk (m : Nat) b.to && vOk (m : Nat) b.els
  else if b.jump = 2 then vOk V b.a && decide (b.to = 0) && decide (b.els = 0) else false
def codeAll (bs : List Blk) : List Ins := bs.flatMap (·.code)
def grOk (g : Gr) : Bool :=
  frOk g.sizes g.params g.vars && decide (g.vars ≤ g.slots ∧ g.slots ≤ 1000) && decide (1 ≤ g.blocks.length ∧ g.blocks.length ≤ 300) &&
    decide ((codeAll g.blocks).length ≤ 1000) && (codeAll g.blocks).all (insOk (g.sizes.length : Nat) g.slots) && g.blocks.all (jmpOk g.slots g.blocks.length)

theorem all_take {α : Type} (f : α → Bool) (l : List α) (j : Nat) (h : j < l.length) : (l.take (j + 1)).all f = ((l.take j).all f && f l[j]) := by
  rw [List.take_succ_eq_append_getElem h, List.all_append]; simp
theorem all_no {α : Type} (f : α → Bool) (l : List α) (j : Nat) (h : j < l.length) (hn : f l[j] = false) : l.all f = false := by
  rw [List.all_eq_false]; exact ⟨l[j], List.getElem_mem h, by simp [hn]⟩
set_option maxHeartbeats 2000000 in
theorem frameOk_any (zs : List Int) (params vars : Int) (w : World) (B : Nat) (a : Option Addr) (cap : Nat) (h : IntsIs w B a zs) :
    Calls Try.prog 102 #[.slice a zs.length cap, .int .i64 params, .int .i64 vars] w fun e w' => e = .returned (.bool (frOk zs params vars)) ∧ w' = w := by
  have hm := maxLen_lt
  have hl := h.1
  by_cases h0 : 1 ≤ zs.length ∧ zs.length ≤ 4
  · have H := hideP h
    have n1 : ¬ (zs.length : Int) < 1 := by omega
    have n2 : ¬ (4 : Int) < (zs.length : Int) := by omega
    clear h
    go_enter Try.func102, Try.ntmps102
    go_wp2
    go_loop [19] (fun i => ∃ j : Nat, j ≤ zs.length ∧ i = .int .i64 j ∧ Hid ((zs.take j).all sizeOk = true)) (fun i => zs.length - (intOf i).toNat)
    case atStart => exact ⟨0, Nat.zero_le _, rfl, show _ = _ by simp⟩
    case round =>
      obtain ⟨j, hj, rfl, hok⟩ := hrel
      by_cases hlt : j < zs.length
      · obtain ⟨b, o, rfl, _, hb, p0⟩ := H.out.get j hlt
        have tk := all_take sizeOk zs j hlt
        have no := all_no sizeOk zs j hlt
        obtain ⟨z, hz⟩ : ∃ z, zs[j] = z := ⟨_, rfl⟩
        rw [hz] at p0 tk no
        rw [hok.out, Bool.true_and] at tk
        by_cases hs : 1 ≤ z ∧ z ≤ 16
        · have T : Hid ((zs.take (j + 1)).all sizeOk = true) := tk.trans (by simp [sizeOk, hs])
          obtain ⟨s1, s2⟩ := hs
          clear hz tk no
          go_wp2
          go_round
          case rel => exact ⟨j + 1, by omega, by go_num, T⟩
          case measure => simp [intOf]; omega
        · have E : Hid (frOk zs params vars = false) := by show _ = _; unfold frOk; rw [no (by simp [sizeOk]; omega)]; simp
          clear hz tk no
          go_wp2
          all_goals first | omega | skip
          all_goals go_ret
          all_goals exact ⟨ret_bool E.out.symm, rfl⟩
      · have hjn : j = zs.length := by omega
        subst hjn
        have h1 := hok.out
        rw [List.take_length] at h1
        have E : Hid (frOk zs params vars = decide (0 ≤ params ∧ params ≤ 6 ∧ params ≤ vars ∧ vars ≤ 20)) := by show _ = _; unfold frOk; rw [h1]; simp [h0]
        clear h1 hok
        go_wp2
        all_goals go_ret
        all_goals refine ⟨ret_bool ?_, rfl⟩
        all_goals rw [E.out]
        all_goals clear E
        all_goals first | (simp [*]; done) | (simp; omega) | (rw [Bool.eq_iff_iff]; simp; omega)
  · have E : Hid (frOk zs params vars = false) := by show _ = _; unfold frOk; simp [h0]
    clear h
    go_enter Try.func102, Try.ntmps102
    go_wp2
    all_goals first | omega | skip
    all_goals go_ret
    all_goals exact ⟨ret_bool E.out.symm, rfl⟩
theorem blockThere_any (g : Gr) (n : Int) (w : World) (B : Nat) (v : Array Value) (h : GrIs w B v g) :
    Calls Try.prog 131 #[.agg v, .int .i64 n] w fun e w' => e = .returned (.bool (vOk (g.blocks.length : Nat) n)) ∧ Below w.heap.size w w' := by
  obtain ⟨us, cs, ub, cb, rfl, _, _, hb⟩ := h
  have hm := maxLen_lt
  have hl := hb.1
  clear hb
  go_enter Try.func131, Try.ntmps131
  go_wp2
  all_goals go_ret
  all_goals exact ⟨ret_bool (by simp [vOk]; omega), (Below.refl _ _).alloc (Nat.le_refl _) _⟩
end Go.Proofs.Ytjmclmbepnbeoaa
