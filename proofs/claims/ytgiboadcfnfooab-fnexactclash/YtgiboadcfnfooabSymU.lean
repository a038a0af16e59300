/- The contract of the specification's l06Step, for any step that is right. -/
import Derived.Test.YtgiboadcfnfooabSymT
namespace Go.Proofs.Ytgiboadcfnfooab
open Go.ChangeShapes Go.WideShapes Go.ChangeAt Go.RowKit
theorem l06Step_any (x : Ins) (l : Led) (R : Int) (w : World) (B g m cap : Nat) (h : OwnE SyE w B (.slice (some ⟨g, 0, none⟩) m cap) l.slots) (hn : l.slots.length + l.fresh ≤ 1000000) (hx : insOk R (l.slots.length : Nat) x = true) :
    Calls Try.prog 46 #[.agg (insW x), .slice (some ⟨g, 0, none⟩) m cap, .int .i64 ((l.slots.length + l.fresh : Nat) : Int)] w fun e w' => e = .returned (.int .i64 ((l.slots.length + (stepP l x).fresh : Nat) : Int)) ∧ But g w w' ∧ OwnE SyE w' B (.slice (some ⟨g, 0, none⟩) m cap) (stepP l x).slots := by
  have hm : m = l.slots.length := by obtain ⟨_, _, _, hv, _⟩ := h.parts SyOk; cases hv; rfl
  have hs := insOk_slots hx
  obtain ⟨op, d, a, b, c, n, t⟩ := x
  simp only at hs
  rcases hs with ⟨rfl, hd⟩ | ⟨rfl, hd, ha⟩ | ⟨rfl, hd, ha, hb⟩ | ⟨rfl, hd, _⟩ | ⟨rfl, _⟩ | ⟨rfl, hd⟩ | rfl
  · obtain ⟨nd, rfl, hnd⟩ := vOk_natS hd
    have := l06Step_const l.slots (l.slots.length + l.fresh) nd a b c n t w B g m cap h hm hnd
    simpa [stepP, insW, Led.put] using this
  · obtain ⟨nd, rfl, hnd⟩ := vOk_natS hd
    obtain ⟨na, rfl, hna⟩ := vOk_natS ha
    have := l06Step_move l.slots (l.slots.length + l.fresh) nd na b c n t w B g m cap h hm hnd hna
    simpa [stepP, insW, Led.put, Led.get_atS hna] using this
  · obtain ⟨nd, rfl, hnd⟩ := vOk_natS hd
    obtain ⟨na, rfl, hna⟩ := vOk_natS ha
    obtain ⟨nb, rfl, hnb⟩ := vOk_natS hb
    have := l06Step_bin l.slots (l.slots.length + l.fresh) nd na nb c n t w B g m cap h hm hnd hna hnb (by omega)
    simp only [stepP, insW, Led.get_atS hna, Led.get_atS hnb]
    rw [if_neg (by omega), if_neg (by omega)]
    simp only [if_true]
    cases hsy : symBin t.toList l.slots[na] l.slots[nb] with
    | some s => rw [hsy] at this; simpa [Led.putO, Led.put] using this
    | none => rw [hsy] at this; simpa [Led.putO, Led.new, Int.add_assoc, Nat.add_assoc] using this
  · obtain ⟨nd, rfl, hnd⟩ := vOk_natS hd
    have := l06Step_load l.slots (l.slots.length + l.fresh) nd a b c n t w B g m cap h hm hnd (by omega)
    simpa [stepP, insW, Led.new, Int.add_assoc, Nat.add_assoc] using this
  · have := l06Step_none l.slots (l.slots.length + l.fresh) 4 d a b c n t w B g m cap h hm (Or.inl rfl)
    simpa [stepP, insW] using this
  · obtain ⟨nd, rfl, hnd⟩ := vOk_natS hd
    have := l06Step_get l.slots (l.slots.length + l.fresh) nd a b c n t w B g m cap h hm hnd (by omega)
    simpa [stepP, insW, Led.new, Int.add_assoc, Nat.add_assoc] using this
  · have := l06Step_none l.slots (l.slots.length + l.fresh) 6 d a b c n t w B g m cap h hm (Or.inr rfl)
    simpa [stepP, insW] using this
end Go.Proofs.Ytgiboadcfnfooab
