/- The contract of slices.Reverse over lists of at most two numbers. -/
import Derived.Test.YtooaoankloocmabOwnA
import Derived.TacticsIn
namespace Go.Proofs.Ytooaoankloocmab
open Go.ChangeShapes Go.WideShapes Go.ChangeAt Go.RowKit
theorem own_swap {w : World} {B g cap : Nat} {x y : Int} (h : OwnI w B (.slice (some ⟨g, 0, none⟩) 2 cap) [x, y]) : OwnI ((w.setCell ⟨g, 0, none⟩ (.int .i64 y)).setCell ⟨g, 1, none⟩ (.int .i64 x)) B (.slice (some ⟨g, 0, none⟩) 2 cap) [y, x] := by
  obtain ⟨g', cap', cur, hv, hB, hh, hc, hm, hs, hx⟩ := h.parts
  cases hv
  have h2 := heap_setCell_same _ g 1 _ _ (.int .i64 x) (heap_setCell_same w g 0 cur _ (.int .i64 y) hh)
  have hc' : 2 ≤ cap := hc
  refine OwnI.of_parts (l := [y, x]) hB h2 hc hm (by simpa using hs) (fun j hj => ?_)
  rw [Array.getElem?_setIfInBounds, Array.getElem?_setIfInBounds]
  match j, hj with
  | 0, _ => rw [if_neg (by omega), if_pos rfl, if_pos (by omega)]; rfl
  | 1, _ => rw [if_pos rfl, if_pos (by rw [Array.size_setIfInBounds]; omega)]; rfl
set_option maxHeartbeats 2000000 in
theorem reverse_any (L : List Int) (hL : L.length ≤ 2) (w : World) (B : Nat) (v : Value) (h : OwnI w B v L) :
    Calls Try.prog 73 #[v] w fun e w' => (∃ r, e = .returned r) ∧ OwnI w' B v L.reverse ∧ ∃ g, v.ownBlock = some g ∧ But g w w' := by
  obtain ⟨g, cap, rfl, _⟩ := id h
  match L, hL, h with
  | [], _, h =>
    have H := hideP h
    clear h
    go_enter Try.func73, Try.ntmps73
    go_wp2
    go_loopw [2, 3] (fun i j wr => i = .int .i64 0 ∧ j = .int .i64 (-1) ∧ wr = w) (fun _ _ _ => 0)
    case atStart => exact ⟨rfl, rfl, rfl⟩
    case round =>
      obtain ⟨rfl, rfl, hw⟩ := hrel
      have hw2 := hw.symm
      subst hw2
      go_wp2
      first | go_end0 | refine bodyPost_ret (results_none rfl _ _ _) rfl ?_
      exact ⟨⟨_, rfl⟩, H.out, g, rfl, But.refl _ _⟩
  | [x], _, h =>
    have H := hideP h
    clear h
    go_enter Try.func73, Try.ntmps73
    go_wp2
    go_loopw [2, 3] (fun i j wr => i = .int .i64 0 ∧ j = .int .i64 0 ∧ wr = w) (fun _ _ _ => 0)
    case atStart => exact ⟨rfl, rfl, rfl⟩
    case round =>
      obtain ⟨rfl, rfl, hw⟩ := hrel
      have hw2 := hw.symm
      subst hw2
      go_wp2
      first | go_end0 | refine bodyPost_ret (results_none rfl _ _ _) rfl ?_
      exact ⟨⟨_, rfl⟩, H.out, g, rfl, But.refl _ _⟩
  | [x, y], _, h =>
    have c0 := h.at 0 (by simp)
    have c1 := h.at 1 (by simp)
    simp at c0 c1
    obtain ⟨g', cap', cur, hv, hB, hh, hc, hm, hs, hx⟩ := h.parts
    cases hv
    have f0 := (cells_of hh).2
    have H := hideP h
    clear h hh hs hx hm hc hB
    go_enter Try.func73, Try.ntmps73
    go_wp2
    go_loopw [2, 3] (fun i j wr => (i = .int .i64 0 ∧ j = .int .i64 1 ∧ wr = w) ∨ (i = .int .i64 1 ∧ j = .int .i64 0 ∧ Hid (OwnI wr B (.slice (some ⟨g, 0, none⟩) 2 cap) [y, x]) ∧ Hid (But g w wr))) (fun i _ _ => 1 - (intOf i).toNat)
    case atStart => exact Or.inl ⟨rfl, rfl, rfl⟩
    case round =>
      rcases hrel with ⟨rfl, rfl, hw⟩ | ⟨rfl, rfl, ho, hb⟩
      · have hw2 := hw.symm
        subst hw2
        clear hw
        go_wp2
        go_region
        all_goals
          go_wp2
          go_roundw
          case rel =>
            refine Or.inr ⟨by go_num, by go_num, ?_, ?_⟩
            · exact own_swap H.out
            · first | exact ((But.refl _ _).set _ _).set _ _ | exact (((But.refl _ _).set _ _).set _ _).on (Below.refl _ _).drew | exact (((But.refl _ _).set _ _).set _ _).on (Below.refl _ _).drew.drew
          case measure => simp [intOf]
      · go_wp2
        first | go_end0 | refine bodyPost_ret (results_none rfl _ _ _) rfl ?_
        exact ⟨⟨_, rfl⟩, ho.out, g, rfl, hb.out⟩
end Go.Proofs.Ytooaoankloocmab
