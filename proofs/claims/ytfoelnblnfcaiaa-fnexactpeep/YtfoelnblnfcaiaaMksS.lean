/- Marks into cells that stand one behind another. -/
import Derived.Test.YtfoelnblnfcaiaaMksB
import Derived.Test.YtfoelnblnfcaiaaSl
namespace Go.Proofs.Ytfoelnblnfcaiaa
open Go.ChangeShapes Go.WideShapes Go.ChangeAt Go.RowKit
def celL (b : Nat) : Nat → List Bool → List Cel
  | _, [] => []
  | p, t :: ts => (b, p, t) :: celL b (p + 1) ts
theorem celL_mem {b b' o' : Nat} {t' : Bool} : ∀ {p : Nat} {ts : List Bool}, (b', o', t') ∈ celL b p ts → b' = b ∧ p ≤ o' ∧ o' < p + ts.length
  | _, [], h => by simp [celL] at h
  | p, t :: ts, h => by
    rcases List.mem_cons.1 h with h | h
    · simp at h; simp; omega
    · have := celL_mem h; simp; omega
theorem Mks.sets {w : World} {b k : Nat} {c : Array Value} {T : TypeId} (hh : w.heap[b]? = some (.cells c T (0, 0))) : ∀ (ts : List Bool) (vs : List Value) (L : List Cel) (w1 : World) (p : Nat), Mks w w1 L k → (∀ c ∈ L, c.1 < w.heap.size) → ts.length = vs.length → (∀ r (h : r < vs.length) (h' : r < ts.length), vs[r] = mkV (k + L.length + r) ts[r]) → (∀ r t', r < ts.length → (b, p + r, t') ∉ L) → p + ts.length ≤ c.size → Mks w (Go.Proofs.Ytfoelnblnfcaiaa.sets b w1 p vs) (L ++ celL b p ts) k
  | [], [], L, w1, p, h, _, _, _, _, _ => by simpa [Go.Proofs.Ytfoelnblnfcaiaa.sets, celL] using h
  | [], v :: vs, _, _, _, _, _, hl, _, _, _ => by simp at hl
  | t :: ts, [], _, _, _, _, _, hl, _, _, _ => by simp at hl
  | t :: ts, v :: vs, L, w1, p, h, hL, hl, hv, hn, hs => by
    have hb : b < w.heap.size := (Array.getElem?_eq_some_iff.1 hh).1
    have h1 := h.pushV (o := p) (t := t) (v := v) hL hh (by simp at hs; omega) (fun t' => by have := hn 0 t' (by simp); simpa using this) (by have := hv 0 (by simp) (by simp); simpa using this)
    have := Mks.sets hh ts vs (L ++ [(b, p, t)]) _ (p + 1) h1 (fun c hc => by
      rcases List.mem_append.1 hc with hc | hc
      · exact hL c hc
      · rw [List.mem_singleton.1 hc]; exact hb) (by simpa using hl) (fun r hr hr' => by
        have := hv (r + 1) (by simpa using hr) (by simpa using hr')
        rw [List.length_append]
        simp only [List.getElem_cons_succ] at this
        rw [this]
        congr 1
        simp; omega) (fun r t' hr hm => by
        rcases List.mem_append.1 hm with hm | hm
        · exact hn (r + 1) t' (by simpa using hr) (by rw [show p + (r + 1) = p + 1 + r by omega]; exact hm)
        · simp at hm; omega) (by simp at hs; omega)
    rw [List.append_assoc] at this
    exact this
end Go.Proofs.Ytfoelnblnfcaiaa
