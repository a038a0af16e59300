/- The slots that a step uses: both functions. -/
import Derived.Test.YtjmclmbepnbeoaaShD
import Derived.Test.YtjmclmbepnbeoaaOwnA
import Derived.Test.YtjmclmbepnbeoaaInsA
import Derived.Test.YtjmclmbepnbeoaaAliB
namespace Go.Proofs.Ytjmclmbepnbeoaa
open Go.ChangeShapes Go.WideShapes Go.ChangeAt Go.RowKit
def cellP (a b : Int) : List Int := if a < 0 then [b] else [b, a]
def usesP (x : Ins) : List Int :=
  if x.op = 1 ∨ x.op = 6 then [x.a] else if x.op = 2 then [x.a, x.b] else if x.op = 3 then cellP x.a x.b else if x.op = 4 then cellP x.a x.b ++ [x.c] else []
theorem cellP_neg {a b : Int} (h : a < 0) : cellP a b = [b] := if_pos h
theorem cellP_pos {a b : Int} (h : ¬ a < 0) : cellP a b = [b, a] := if_neg h
theorem usesP_none {x : Ins} (h1 : ¬ x.op = 1) (h2 : ¬ x.op = 2) (h3 : ¬ x.op = 3) (h4 : ¬ x.op = 4) (h6 : ¬ x.op = 6) : usesP x = [] := by simp [usesP, *]
theorem lit2 (w : World) (o : Obj) (l : List Int) (cs : Array Value) (n m : Nat) (hn : n = w.heap.size + 1) (hm : m = l.length) (hcs : cs = (l.map (Value.int .i64)).toArray) (hl : l.length ≤ 1000) : OwnI ((w.alloc o).alloc (.cells cs 3)) (w.heap.size + 1) (.slice (some ⟨n, 0, none⟩) m m) l := by
  have := own_lit (w.alloc o) l cs n m (by simpa using hn) hm hcs hl
  simpa using this
theorem sz3 (w : World) (o p q : Obj) : w.heap.size + 1 ≤ (((w.alloc o).alloc p).alloc q).heap.size := by simp
theorem ob {g n c b : Nat} (h : (Value.slice (some ⟨g, 0, none⟩) n c).ownBlock = some b) : g = b := by simpa [Value.ownBlock] using h
theorem box3 (w : World) (o p q : Obj) : (((w.alloc o).alloc p).alloc q).heap[w.heap.size]? = some o := by
  show (((w.heap.push o).push p).push q)[w.heap.size]? = _
  rw [Array.getElem?_push, Array.getElem?_push, Array.getElem?_push]; simp; intro h; omega
theorem bel2 (w : World) (o p : Obj) : Below w.heap.size w ((w.alloc o).alloc p) := below2 w o p
theorem belS {w w1 : World} {o : Obj} (h : Below w.heap.size w w1) : Below w.heap.size w (w1.alloc o) := h.alloc h.size o
end Go.Proofs.Ytjmclmbepnbeoaa

/- What a right step uses and makes. -/
namespace Go.Proofs.Ytjmclmbepnbeoaa
open Go.ChangeShapes Go.WideShapes Go.ChangeAt Go.RowKit
theorem ins_uses {R V : Int} {x : Ins} (h : insOk R V x = true) : (∀ s ∈ usesP x, 0 ≤ s ∧ s < V) ∧ (makesP x = -1 ∧ (x.op = 4 ∨ x.op = 6) ∨ 0 ≤ makesP x ∧ makesP x < V ∧ makesP x = x.d ∧ ¬ (x.op = 4 ∨ x.op = 6)) := by
  unfold insOk plOk vOk at h
  by_cases e0 : x.op = 0
  · simp [e0] at h
    simp [usesP, makesP, e0]; omega
  by_cases e1 : x.op = 1
  · simp [e1] at h
    simp [usesP, makesP, e1]; omega
  by_cases e2 : x.op = 2
  · simp [e2] at h
    simp [usesP, makesP, e2]; omega
  by_cases e3 : x.op = 3
  · simp [e3] at h
    by_cases ha : x.a < 0
    · simp [usesP, makesP, cellP, e3, ha]; omega
    · simp [usesP, makesP, cellP, e3, ha]; omega
  by_cases e4 : x.op = 4
  · simp [e4] at h
    by_cases ha : x.a < 0
    · simp [usesP, makesP, cellP, e4, ha]; omega
    · simp [usesP, makesP, cellP, e4, ha]; omega
  by_cases e5 : x.op = 5
  · simp [e5] at h
    simp [usesP, makesP, e5]; omega
  by_cases e6 : x.op = 6
  · simp [e6] at h
    simp [usesP, makesP, e6]; omega
  simp [e0, e1, e2, e3, e4, e5, e6] at h
end Go.Proofs.Ytjmclmbepnbeoaa

/- The blocks that a block goes to: plain. -/
namespace Go.Proofs.Ytjmclmbepnbeoaa
open Go.ChangeShapes Go.WideShapes Go.ChangeAt Go.RowKit
def nextP (x : Blk) : List Int := if x.jump = 0 then [x.to] else if x.jump = 1 then [x.to, x.els] else []
theorem nextP_go {code : List Ins} {a to els : Int} : nextP ⟨code, 0, a, to, els⟩ = [to] := rfl
theorem nextP_if {code : List Ins} {a to els : Int} : nextP ⟨code, 1, a, to, els⟩ = [to, els] := rfl
theorem nextP_none {code : List Ins} {jump a to els : Int} (h0 : ¬ jump = 0) (h1 : ¬ jump = 1) : nextP ⟨code, jump, a, to, els⟩ = [] := by simp [nextP, h0, h1]
theorem nextP_len (x : Blk) : (nextP x).length ≤ 2 := by unfold nextP; split; · simp
                                                         split <;> simp
end Go.Proofs.Ytjmclmbepnbeoaa
