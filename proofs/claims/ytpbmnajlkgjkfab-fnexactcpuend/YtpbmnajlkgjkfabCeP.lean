/- How a Cpu ends: the plain side, small contracts, a row as a list. -/
import Derived.Test.YtpbmnajlkgjkfabCeM
import Derived.Test.YtpbmnajlkgjkfabCpuD
import Derived.Test.YtpbmnajlkgjkfabCloneR
namespace Go.Proofs.Ytpbmnajlkgjkfab
open Go.ChangeShapes Go.WideShapes Go.ChangeAt Go.RowKit
def runsB (c : Cp) : Bool := c.code == 0 && !c.over
def endOf (c : Cp) : En := if runsB c = true then ⟨2, 0, c.out⟩ else ⟨c.code, if c.code = 0 then c.val else 0, c.out⟩
theorem RowOf.liz {w : World} {B : Nat} {v : Value} {l : List Int} (h : RowOf w B 3 1 v l.length (fun i => #[.int .i64 (l[i]?.getD 0)])) (hl : l.length ≤ maxLen) : LiZ w B w.heap.size v l := by
  obtain ⟨a, c, hv, h0 | ⟨g, cur, ha, hB, hh, hs, hx⟩⟩ := h
  · exact ⟨a, c, hv, hl, Or.inl h0⟩
  · refine ⟨a, c, hv, hl, Or.inr ⟨g, cur, ha, hB, (Array.getElem?_eq_some_iff.1 hh).1, hh, fun i hi => ?_⟩⟩
    have k := hx i hi 0 (by decide)
    rw [Nat.mul_one, Nat.add_zero] at k
    rw [k]
    show some (Value.int .i64 (l[i]?.getD 0)) = _
    rw [List.getElem?_eq_getElem hi]; rfl
theorem intsRow {w : World} {B : Nat} {a : Option Addr} {zs : List Int} (h : IntsIs w B a zs) : RowAt w B a zs.length 1 (fun i => #[.int .i64 (zs[i]?.getD 0)]) := by
  rcases h.2 with h0 | ⟨b, o, ha, hB, hb, hp, hc⟩
  · exact Or.inl h0
  · refine Or.inr ⟨b, o, ha, hB, hb, hp, fun i hi => ⟨rfl, fun j hj => ?_⟩⟩
    obtain rfl : j = 0 := by omega
    rw [Nat.mul_one, Nat.add_zero, hc i hi]
    show _ = some (Value.int .i64 (zs[i]?.getD 0))
    rw [List.getElem?_eq_getElem hi]; rfl
/-- slices.Clone of a list of numbers. -/
theorem cloneInts (l : List Int) (w : World) (B : Nat) (a : Option Addr) (cap : Nat) (h : IntsIs w B a l) (hl : l.length ≤ 8000000) :
    Calls Try.prog 18 #[.slice a l.length cap] w fun en w' => ∃ v', en = .returned v' ∧ LiZ w' w.heap.size w'.heap.size v' l ∧ Below w.heap.size w w' :=
  (cloneI l.length w B a cap (fun i => #[Value.int .i64 (l[i]?.getD 0)]) (intsRow h) (fun i _ u hu => (by simpa using hu : u = Value.int .i64 (l[i]?.getD 0)) ▸ rfl) hl).mono fun en w' ⟨v', he, hr, hb⟩ => ⟨v', he, hr.liz h.1, hb⟩
end Go.Proofs.Ytpbmnajlkgjkfab
