/- One cell of a list that a call owns is written. -/
import Derived.Test.YtdidgpjcagiaeaaOwnG
namespace Go.Proofs.Ytdidgpjcagiaeaa
open Go.ChangeShapes Go.WideShapes Go.ChangeAt Go.RowKit
theorem OwnE.setR {α : Type} {E : Elem α} (O : E.Ok) {w : World} {B g n cap : Nat} {l : List α} (h : OwnE E w B (.slice (some ⟨g, 0, none⟩) n cap) l) {j r : Nat} (hj : j < l.length) (hr : r < E.sz) {u : Value} {x' : α} (hx : E.cs x' = (E.cs l[j]).set r u) :
    OwnE E (w.setCell ⟨g, j * E.sz + r, none⟩ u) B (.slice (some ⟨g, 0, none⟩) n cap) (l.set j x') := by
  obtain ⟨g', cap', cur, hv, hB, hh, hc, hm, hs, hcell⟩ := h.parts O
  injection hv with e1 e2 e3
  injection e1 with e1
  injection e1 with e1
  subst e1 e2 e3
  have hlen : (l.set j x').length = l.length := List.length_set
  have hlt : j * E.sz + r < cur.size := by
    have := mul_stepE j l.length E.sz hj
    have := Nat.mul_le_mul_right E.sz hc
    omega
  have := OwnE.of_parts O (l := l.set j x') hB (heap_setCell_same w g (j * E.sz + r) cur E.T u hh) (by rw [hlen]; exact hc) hm (by simpa using hs) (fun i hi q hq => by
    rw [hlen] at hi
    rw [Array.getElem?_setIfInBounds, List.getElem_set]
    by_cases hij : j = i
    · subst hij
      rw [if_pos rfl, hx]
      by_cases hqr : r = q
      · subst hqr
        rw [if_pos rfl, if_pos hlt, List.getElem?_set_self (by rw [O.len]; exact hr)]
      · rw [if_neg (by omega), List.getElem?_set_ne hqr]
        exact hcell j hj q hq
    · have hne : ¬ j * E.sz + r = i * E.sz + q := fun e => by
        have hd : (j * E.sz + r) / E.sz = (i * E.sz + q) / E.sz := by rw [e]
        rw [Nat.mul_comm j, Nat.mul_comm i, Nat.mul_add_div O.pos, Nat.mul_add_div O.pos, Nat.div_eq_of_lt hr, Nat.div_eq_of_lt hq] at hd
        omega
      rw [if_neg hne, if_neg hij]
      exact hcell i hi q hq)
  rw [hlen] at this
  exact this
end Go.Proofs.Ytdidgpjcagiaeaa
