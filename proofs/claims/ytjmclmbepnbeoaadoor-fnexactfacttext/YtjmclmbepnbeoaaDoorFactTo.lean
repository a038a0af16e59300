/- The contracts of toFact and toFactS: a copy in new memory (written by wip/mkshape.py). -/
import Derived.Test.YtjmclmbepnbeoaaDoorFactD
namespace Go.Proofs.YtjmclmbepnbeoaaDoor
open Go.ChangeShapes Go.WideShapes Go.ChangeAt Go.RowKit
set_option maxHeartbeats 1000000 in
theorem toFact_any (x : Fct) (w : World) (B : Nat) (v : Array Value) (h : FctIs w B v x) :
    Calls Tryd.prog 10 #[.agg v] w fun en w' => ∃ v', en = .returned (.agg v') ∧ FctIs w' w.heap.size v' x ∧ Below w.heap.size w w' := by
  obtain ⟨slot, val⟩ := x
  obtain ⟨rfl, ok⟩ := h
  simp only at *
  go_enter Tryd.func10, Tryd.ntmps10
  go_wp2
  try simp only [Exit.inBlock, Exit.then]
  refine bodyPost_ret (v := .agg #[.int .i64 slot, .int .i64 val]) (by simp [results, Tryd.results10, go_sem]) rfl ⟨_, rfl, ⟨rfl, ok⟩, ?_⟩
  first | exact below3 w _ _ _ | exact below2 w _ _ | exact (Below.refl _ _).alloc (Nat.le_refl _) _
/-- The copy, its cells named. -/
theorem toFact_in {slot : Int} {val : Int} (w : World) (B : Nat) (v : Array Value) (h : FctIs w B v ⟨slot, val⟩) (W : World) (bel : Below w.heap.size w W) :
    Calls Tryd.prog 10 #[.agg v] W fun en w' => en = .returned (.agg #[.int .i64 slot, .int .i64 val]) ∧ FctIs w' W.heap.size #[.int .i64 slot, .int .i64 val] ⟨slot, val⟩ ∧ Below W.heap.size W w' :=
  (toFact_any ⟨slot, val⟩ W B v (FctKeeps.stays h bel)).mono fun en w' ⟨v', he, hp, hb⟩ => by
    have h1 := hp
    obtain ⟨rfl, _⟩ := h1
    exact ⟨he, hp, hb⟩
theorem infoFact : (Tryd.prog.info? 31).map (fun i => (i.zero, i.size, i.bytes)) = some (some (.agg #[.int .i64 0, .int .i64 0]), 2, 16) := by kernel_rfl
set_option maxHeartbeats 1000000 in
theorem toFactS_any (es : List Fct) (w : World) (B : Nat) (a' : Option Addr) (cap : Nat) (h : SlIs FctIs 2 w B a' es) (hs : es.length ≤ 1048576) :
    Calls Tryd.prog 6 #[.slice a' es.length cap] w fun en w' => ∃ g, en = .returned (.slice (some ⟨g, 0, none⟩) es.length es.length) ∧ SlIs FctIs 2 w' w.heap.size (some ⟨g, 0, none⟩) es ∧ Below w.heap.size w w' := by
  have hl0 := h.1
  have hl : es.length ≤ 1048576 := hs
  have hmk := make_n (P := Tryd.prog) Tryd.underlying25 infoFact es.length hl (by decide)
  have H := hideP h
  have HS := hideP hs
  clear h hs
  go_enter Tryd.func6, Tryd.ntmps6
  go_wp2
  clear hmk
  go_loopw [4] (fun i wr => ∃ j : Nat, j ≤ es.length ∧ i = .int .i64 j ∧ Built FctIs 2 31 wr w.heap.size es j ∧ Below w.heap.size w wr) (fun i _ => es.length - (intOf i).toNat)
  case atStart => exact ⟨0, Nat.zero_le _, rfl, built_start FctIs w _ 2 _ es, (Below.refl _ _).alloc (Nat.le_refl _) _⟩
  case round =>
    obtain ⟨j, hj, rfl, hbt, bel⟩ := hrel
    by_cases hlt : j < es.length
    · obtain ⟨b', o', slot, val, rfl, _, hb, he, k0, k1, hx⟩ := Fct_get (H.out.stays FctKeeps bel) j hlt
      have HE := hideP he
      have HX := hideP hx
      have HB := hideP bel
      have HT := hideP hbt
      have hg := hbt.lt
      have hsz := bel.size
      clear he hx bel hbt
      go_wp2_with fail
      refine (toFact_any es[j] _ B _ (by rw [HE.out]; exact HX.out)).mono ?_
      rintro e1 w1 ⟨v', rfl, hx1, bel1⟩
      have hx2 := hx1
      rw [HE.out] at hx2
      obtain ⟨rfl, _⟩ := hx2
      simp only at hx1
      have hb1 := HT.out.on FctKeeps bel1
      obtain ⟨hce, hfz⟩ := hb1.cells
      obtain ⟨d0, hd0⟩ := hce (j * 2) (by omega)
      obtain ⟨d1, hd1⟩ := hce (j * 2 + 1) (by omega)
      have HB1 := hideP hb1
      have HX1 := hideP (FctKeeps.mono hx1 (show w.heap.size + 1 ≤ wr.heap.size by omega))
      have hw1 : Hid (Below w.heap.size w w1) := HB.out.trans (bel1.mono hsz)
      clear bel1 k0 k1 hb1 hx1 hce
      go_wp2
      go_roundw
      case rel => exact ⟨j + 1, by omega, by go_num, HB1.out.step FctKeeps hlt (l := [.int .i64 slot, .int .i64 val]) rfl HX1.out, sets_below (Nat.le_refl _) [.int .i64 slot, .int .i64 val] _ _ hw1.out⟩
      case measure => simp [intOf]; omega
    · have hjn : j = es.length := by omega
      subst hjn
      go_wp2
      go_ret
      exact ⟨_, rfl, hbt.is FctKeeps hl0 (Nat.le_refl _), bel⟩
end Go.Proofs.YtjmclmbepnbeoaaDoor
