/- When an image is right, as a function; the contracts of impl.isBelow, impl.regionsOk and impl.paramsOk. -/
import Derived.Test.YtpbmnajlkgjkfaaImageD
import Derived.Test.YtpbmnajlkgjkfaaHas
import Derived.Deep.CutRange
import Derived.Deep.RegionHeld3
import Derived.Deep.LoopGhost
import Derived.Laws.StructEq
namespace Go.Proofs.Ytpbmnajlkgjkfaa
open Go.ChangeShapes Go.WideShapes Go.ChangeAt Go.RowKit
/-- The number of one of so many. -/
def belI (n c : Int) : Bool := decide (0 ≤ n ∧ n < c)
/-- A word of an image with so many regions, slots and words. -/
def wrdOk (ns sl nc : Int) (x : Wrd) : Bool :=
  belI x.r 16 && belI x.a 16 && belI x.b 16 &&
  (if x.op = 0 then x.a == 0 && x.b == 0
   else if x.op = 1 ∨ x.op = 2 then (x.a == 0 && x.b == 0) && belI x.n sl
   else if x.op = 3 then belI x.n 6
   else if x.op = 4 ∨ x.op = 5 then (x.b == 0) && belI x.n ns
   else if x.op = 6 ∨ x.op = 7 ∨ x.op = 10 then (x.a == 0 && x.b == 0) && (x.n == 0)
   else if x.op = 8 then (x.r == 0 && (x.a == 0 && x.b == 0)) && belI x.n nc
   else if x.op = 9 then (x.a == 0 && x.b == 0) && belI x.n nc
   else if x.op = 11 then x.b == 0 && x.n == 0
   else false)
def szOk (z : Int) : Bool := decide (1 ≤ z ∧ z ≤ 16)
def regOk (sizes : List Int) : Bool := decide (1 ≤ sizes.length ∧ sizes.length ≤ 4) && sizes.all szOk
def parOk (params vars : Int) : Bool := decide (0 ≤ params ∧ params ≤ 6 ∧ params ≤ vars)
def lastOk (l : List Wrd) : Bool := match l.getLast? with | some x => x.op == 10 || x.op == 8 | none => false
def imgOk (m : Img) : Bool :=
  regOk m.sizes && parOk m.params m.slots && decide (m.slots ≤ 1000) && decide (1 ≤ m.code.length ∧ m.code.length ≤ 6000) &&
  m.code.all (wrdOk (m.sizes.length : Nat) m.slots (m.code.length : Nat)) && lastOk m.code
theorem isBelow_any (n c : Int) (w : World) :
    Calls Try.prog 21 #[.int .i64 n, .int .i64 c] w fun e w' => e = .returned (.bool (belI n c)) ∧ w' = w := by
  go_enter Try.func21, Try.ntmps21
  go_wp2
  all_goals go_ret
  all_goals exact ⟨ret_bool (by simp [belI]; omega), rfl⟩
theorem paramsOk_any (p v : Int) (w : World) :
    Calls Try.prog 30 #[.int .i64 p, .int .i64 v] w fun e w' => e = .returned (.bool (parOk p v)) ∧ w' = w := by
  go_enter Try.func30, Try.ntmps30
  go_wp2
  all_goals go_ret
  all_goals exact ⟨ret_bool (by unfold parOk; first | (apply decide_eq_decide.2; omega) | (symm; simp; omega)), rfl⟩
theorem allW_take {α : Type} (f : α → Bool) (l : List α) (i : Nat) (h : i < l.length) : (l.take (i + 1)).all f = ((l.take i).all f && f l[i]) := by
  rw [List.take_succ_eq_append_getElem h, List.all_append]; simp
theorem allW_no {α : Type} (f : α → Bool) (l : List α) (i : Nat) (h : i < l.length) (hn : f l[i] = false) : l.all f = false := by
  rw [List.all_eq_false]; exact ⟨_, List.getElem_mem h, by simp [hn]⟩
set_option maxHeartbeats 1000000 in
theorem regionsOk_any (sizes : List Int) (w : World) (B : Nat) (a : Option Addr) (c : Nat) (h : IntsIs w B a sizes) :
    Calls Try.prog 29 #[.slice a sizes.length c] w fun e w' => e = .returned (.bool (regOk sizes)) ∧ w' = w := by
  have hm := maxLen_lt
  have hl := h.1
  have H := hideP h
  clear h
  by_cases hb : 1 ≤ sizes.length ∧ sizes.length ≤ 4
  · have E : Hid (regOk sizes = sizes.all szOk) := by show _ = _; unfold regOk; rw [decide_eq_true hb]; rfl
    obtain ⟨h1, h2⟩ := hb
    have n1 : ¬ (sizes.length : Int) < 1 := by omega
    have n2 : ¬ (4 : Int) < (sizes.length : Int) := by omega
    rw [E.out]
    go_enter Try.func29, Try.ntmps29
    go_wp2
    go_loopg [15] sizes.length (fun gk i wr => ∃ j : Nat, gk + j = sizes.length ∧ i = .int .i64 j ∧ Hid ((sizes.take j).all szOk = true) ∧ wr = w)
    case atStart => exact ⟨0, by simp, rfl, show _ = _ by simp, rfl⟩
    case round =>
      obtain ⟨j, hj, rfl, hok, rfl⟩ := hrel
      by_cases hlt : j < sizes.length
      · obtain ⟨b, o, rfl, _, hbb, c0⟩ := H.out.get j hlt
        have tk := hideP (allW_take szOk sizes j hlt)
        have no := hideP (allW_no szOk sizes j hlt)
        obtain ⟨z, hz⟩ : ∃ z, sizes[j] = z := ⟨_, rfl⟩
        rw [hz] at c0 tk no
        clear hz
        by_cases hz1 : z < 1
        · have e1 : Hid (szOk z = false) := by show _ = _; simp [szOk]; omega
          go_wp2
          go_ret
          exact ⟨ret_bool (no.out e1.out).symm, rfl⟩
        · by_cases hz2 : 16 < z
          · have e1 : Hid (szOk z = false) := by show _ = _; simp [szOk]; omega
            go_wp2
            go_ret
            exact ⟨ret_bool (no.out e1.out).symm, rfl⟩
          · have e1 : Hid (szOk z = true) := by show _ = _; simp [szOk]; omega
            go_wp2
            go_roundg (sizes.length - (j + 1))
            case rel => exact ⟨j + 1, by omega, by go_num, show _ = _ by rw [tk.out, hok.out, e1.out]; rfl, rfl⟩
            case measure => omega
      · have hjn : j = sizes.length := by omega
        subst hjn
        rw [List.take_length] at hok
        go_wp2
        go_ret
        exact ⟨ret_bool hok.out.symm, rfl⟩
  · have E : Hid (regOk sizes = false) := by show _ = _; unfold regOk; rw [decide_eq_false hb]; rfl
    rw [E.out]
    go_enter Try.func29, Try.ntmps29
    by_cases h1 : sizes.length < 1
    · have n1 : (sizes.length : Int) < 1 := by omega
      go_wp2
      go_ret
      exact ⟨rfl, rfl⟩
    · have n1 : ¬ (sizes.length : Int) < 1 := by omega
      have n2 : (4 : Int) < (sizes.length : Int) := by omega
      go_wp2
      go_ret
      exact ⟨rfl, rfl⟩
end Go.Proofs.Ytpbmnajlkgjkfaa
