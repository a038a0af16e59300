/- What regions and parameters have to be, as functions; the contracts of impl.regionsOk and impl.paramsOk. -/
import Derived.Test.YtheholgdfmipbaaDoorSl
import Derived.Test.YtheholgdfmipbaaDoorHas
import Derived.Deep.LoopGhost
namespace Go.Proofs.YtheholgdfmipbaaDoor
open Go.ChangeShapes Go.WideShapes Go.ChangeAt Go.RowKit
def szOk (z : Int) : Bool := decide (1 ≤ z ∧ z ≤ 16)
def regOk (sizes : List Int) : Bool := decide (1 ≤ sizes.length ∧ sizes.length ≤ 4) && sizes.all szOk
def parOk (params vars : Int) : Bool := decide (0 ≤ params ∧ params ≤ 6 ∧ params ≤ vars)
theorem paramsOk_any (p v : Int) (w : World) :
    Calls Tryd.prog 42 #[.int .i64 p, .int .i64 v] w fun e w' => e = .returned (.bool (parOk p v)) ∧ w' = w := by
  go_enter Tryd.func42, Tryd.ntmps42
  go_wp2
  all_goals go_ret
  all_goals exact ⟨ret_bool (by unfold parOk; first | (apply decide_eq_decide.2; omega) | (symm; simp; omega)), rfl⟩
theorem allW_take {α : Type} (f : α → Bool) (l : List α) (i : Nat) (h : i < l.length) : (l.take (i + 1)).all f = ((l.take i).all f && f l[i]) := by
  rw [List.take_succ_eq_append_getElem h, List.all_append]; simp
theorem allW_no {α : Type} (f : α → Bool) (l : List α) (i : Nat) (h : i < l.length) (hn : f l[i] = false) : l.all f = false := by
  rw [List.all_eq_false]; exact ⟨_, List.getElem_mem h, by simp [hn]⟩
set_option maxHeartbeats 1000000 in
theorem regionsOk_any (sizes : List Int) (w : World) (B : Nat) (a : Option Addr) (c : Nat) (h : IntsIs w B a sizes) :
    Calls Tryd.prog 41 #[.slice a sizes.length c] w fun e w' => e = .returned (.bool (regOk sizes)) ∧ w' = w := by
  have hm := maxLen_lt
  have hl := h.1
  have H := hideP h
  clear h
  by_cases hb : 1 ≤ sizes.length ∧ sizes.length ≤ 4
  · have E : Hid (regOk sizes = sizes.all szOk) := by show _ = _; unfold regOk; rw [decide_eq_true hb]; rfl
    obtain ⟨h1, h2⟩ := hb
    have n1 : ¬ (sizes.length : Int) < 1 := by omega
    have n2 : ¬ (4 : Int) < (sizes.length : Int) := by omega
    rw [E.out]
    go_enter Tryd.func41, Tryd.ntmps41
    go_wp2
    go_loopg [15] sizes.length (fun gk i wr => ∃ j : Nat, gk + j = sizes.length ∧ i = .int .i64 j ∧ Hid ((sizes.take j).all szOk = true) ∧ wr = w)
    case atStart => exact ⟨0, by simp, rfl, show _ = _ by simp, rfl⟩
    case round =>
      obtain ⟨j, hj, rfl, hok, rfl⟩ := hrel
      by_cases hlt : j < sizes.length
      · obtain ⟨b, o, rfl, _, hbb, c0⟩ := H.out.get j hlt
        have tk := hideP (allW_take szOk sizes j hlt)
        have no := hideP (allW_no szOk sizes j hlt)
        obtain ⟨z, hz⟩ : ∃ z, sizes[j] = z := ⟨_, rfl⟩
        rw [hz] at c0 tk no
        clear hz
        by_cases hz1 : z < 1
        · have e1 : Hid (szOk z = false) := by show _ = _; simp [szOk]; omega
          go_wp2
          go_ret
          exact ⟨ret_bool (no.out e1.out).symm, rfl⟩
        · by_cases hz2 : 16 < z
          · have e1 : Hid (szOk z = false) := by show _ = _; simp [szOk]; omega
            go_wp2
            go_ret
            exact ⟨ret_bool (no.out e1.out).symm, rfl⟩
          · have e1 : Hid (szOk z = true) := by show _ = _; simp [szOk]; omega
            go_wp2
            go_roundg (sizes.length - (j + 1))
            case rel => exact ⟨j + 1, by omega, by go_num, show _ = _ by rw [tk.out, hok.out, e1.out]; rfl, rfl⟩
            case measure => omega
      · have hjn : j = sizes.length := by omega
        subst hjn
        rw [List.take_length] at hok
        go_wp2
        go_ret
        exact ⟨ret_bool hok.out.symm, rfl⟩
  · have E : Hid (regOk sizes = false) := by show _ = _; unfold regOk; rw [decide_eq_false hb]; rfl
    rw [E.out]
    go_enter Tryd.func41, Tryd.ntmps41
    by_cases h1 : sizes.length < 1
    · have n1 : (sizes.length : Int) < 1 := by omega
      go_wp2
      go_ret
      exact ⟨rfl, rfl⟩
    · have n1 : ¬ (sizes.length : Int) < 1 := by omega
      have n2 : (4 : Int) < (sizes.length : Int) := by omega
      go_wp2
      go_ret
      exact ⟨rfl, rfl⟩
end Go.Proofs.YtheholgdfmipbaaDoor
