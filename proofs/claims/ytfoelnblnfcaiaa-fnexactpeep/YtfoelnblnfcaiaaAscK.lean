/- The contract of impl.ascending: the list sorted, each number once, in its own block. -/
import Derived.Test.YtfoelnblnfcaiaaShelfK
import Derived.Test.YtfoelnblnfcaiaaAddPlain
import Derived.Test.YtfoelnblnfcaiaaOwnIntL
namespace Go.Proofs.Ytfoelnblnfcaiaa
open Go.ChangeShapes Go.WideShapes Go.ChangeAt Go.RowKit
theorem compact_le (zs : List Int) : (Lib.compact zs).length ≤ zs.length := by
  unfold Lib.compact Lib.compactUpTo
  rw [List.length_map]
  exact Nat.le_trans (List.length_filter_le _ _) (by simp)
theorem But.trans_same {b : Nat} {w w1 w2 : World} (h : But b w w1) (k : But b w1 w2) : But b w w2 :=
  ⟨k.os.trans h.os, k.tape.trans h.tape, k.output.trans h.output, Nat.le_trans h.size k.size, fun i hi hne => (k.block i (Nat.lt_of_lt_of_le hi h.size) hne).trans (h.block i hi hne)⟩
theorem own_put {w : World} {B g cap : Nat} {l d : List Int} (h : OwnI w B (.slice (some ⟨g, 0, none⟩) l.length cap) l) (hd : d.length = l.length) (n : Nat) (os : Array Obj) :
    OwnI (Sort.grow (Sort.putRow (Value.int .i64) (Sort.ahead w n) g 0 d.toArray) os) B (.slice (some ⟨g, 0, none⟩) d.length cap) d ∧ But g w (Sort.grow (Sort.putRow (Value.int .i64) (Sort.ahead w n) g 0 d.toArray) os) := by
  obtain ⟨g', cap', cur, hv, hB, hh, hc, hm, hs, hx⟩ := h.parts
  cases hv
  have hlt : g < w.heap.size := (Array.getElem?_eq_some_iff.1 hh).1
  have h0 : (Sort.putRow (Value.int .i64) (Sort.ahead w n) g 0 d.toArray).heap[g]? = some (.cells (Sort.putCells (Value.int .i64) 0 d.toArray cur) 3 (0, 0)) := by
    show (w.heap.modify g _)[g]? = _
    rw [Array.getElem?_modify, if_pos rfl, hh]
    rfl
  have h1 : (Sort.grow (Sort.putRow (Value.int .i64) (Sort.ahead w n) g 0 d.toArray) os).heap[g]? = some (.cells (Sort.putCells (Value.int .i64) 0 d.toArray cur) 3 (0, 0)) := (Sort.heap_grow_old _ os (by simpa using hlt)).trans h0
  constructor
  · refine OwnI.of_parts hB h1 (by omega) hm (by simpa [Sort.putCells] using hs) (fun j hj => ?_)
    have hj2 : j < cur.size := by omega
    simp [Sort.putCells, hj, hj2]
  · refine ⟨rfl, rfl, rfl, by simp, fun k hk hne => ?_⟩
    rw [Sort.heap_grow_old _ os (by simpa using hk)]
    show (w.heap.modify g _)[k]? = _
    rw [Array.getElem?_modify, if_neg (fun e => hne e.symm)]
theorem own_holds {w : World} {B g cap : Nat} {l : List Int} (h : OwnI w B (.slice (some ⟨g, 0, none⟩) l.length cap) l) : Sort.Holds (Value.int .i64) w g 0 l.toArray := by
  obtain ⟨g', cap', cur, hv, hB, hh, hc, hm, hs, hx⟩ := h.parts
  cases hv
  intro j hj
  have hj' : j < l.length := by simpa using hj
  rw [Nat.zero_add, (cells_of hh).1, hx j hj']
  exact ⟨by simp [hj'], (cells_of hh).2 j⟩
theorem OwnI.pre {w : World} {A g n cap : Nat} {l l2 : List Int} (h : OwnI w A (.slice (some ⟨g, 0, none⟩) n cap) (l ++ l2)) : OwnI w A (.slice (some ⟨g, 0, none⟩) l.length cap) l := by
  obtain ⟨g', cap', cur, hv, hB, hh, hc, hm, hs, hx⟩ := h.parts
  cases hv
  rw [List.length_append] at hc
  refine OwnI.of_parts hB hh (by omega) hm hs (fun j hj => ?_)
  have := hx j (by rw [List.length_append]; omega)
  rw [List.getElem_append_left hj] at this
  exact this
def ascP (l : List Int) : List Int := Lib.compact (l.mergeSort fun x y => decide (x ≤ y))
theorem ascP_eq (xs ys : List Int) (h : ∀ y, y ∈ xs ↔ y ∈ ys) : ascP xs = addAll ys := asc_eq xs ys h
set_option maxHeartbeats 1000000 in
theorem ascending_any (l : List Int) (w : World) (B : Nat) (v : Value) (h : OwnI w B v l) (hn : l.length ≤ 100000000) :
    Calls Try.prog 47 #[v] w fun e w' => ∃ v', e = .returned v' ∧ OwnI w' B v' (ascP l) ∧ ∃ g, v.ownBlock = some g ∧ v'.ownBlock = some g ∧ But g w w' := by
  obtain ⟨g, cap, cur, rfl, hB, hh, hc, hm, hs, hx⟩ := h.parts
  have hlt : g < w.heap.size := (Array.getElem?_eq_some_iff.1 hh).1
  have HO := hideP h
  clear h hh hx hs
  go_enter Try.func47, Try.ntmps47
  go_wp2_with fail
  refine (Try.slices_Sort_int g 0 cap l _ (own_holds HO.out) hlt (by omega)).mono ?_
  rintro e1 w1 ⟨rfl, n, os, rfl⟩
  obtain ⟨s, hsrt⟩ : ∃ s, (l.mergeSort fun x y => decide (x ≤ y)) = s := ⟨_, rfl⟩
  have hsl : s.length = l.length := by rw [← hsrt]; exact List.length_mergeSort l
  have hasc : ascP l = Lib.compact s := by rw [← hsrt]; rfl
  rw [hsrt]
  have P1 := hideP (own_put HO.out hsl n os)
  obtain ⟨w1, hw1⟩ : ∃ w1, Sort.grow (Sort.putRow (Value.int .i64) (Sort.ahead w n) g 0 s.toArray) os = w1 := ⟨_, rfl⟩
  rw [hw1] at P1 ⊢
  have HA := hideP hasc
  have HSL := hideP hsl
  clear hsrt hasc hw1
  go_wp2_with fail
  rw [← hsl]
  refine (Try.slices_Compact_int g 0 cap s _ (own_holds P1.out.1) (by omega) (by omega)).mono ?_
  rintro e2 w2 ⟨rfl, q, rfl⟩
  have hcl := compact_le s
  have hq := own_put (d := Lib.compact s ++ List.replicate (s.length - (Lib.compact s).length) 0) P1.out.1 (by rw [List.length_append, List.length_replicate]; omega) q #[]
  rw [Sort.grow_empty] at hq
  have O2 := hideP hq.1.pre
  have B2 := hideP (But.trans_same P1.out.2 hq.2)
  clear hq hsl
  go_wp2
  go_ret
  exact ⟨_, rfl, by rw [HA.out]; exact O2.out, g, rfl, rfl, B2.out⟩
end Go.Proofs.Ytfoelnblnfcaiaa
