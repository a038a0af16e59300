/- The contracts of the laws' markIntS and heldIntS. -/
import Derived.Test.YtpbmnajlkgjkfabOwnInt
namespace Go.Proofs.Ytpbmnajlkgjkfab
open Go.ChangeShapes Go.WideShapes Go.ChangeAt Go.RowKit
/-- The numbers from k on. -/
def marksI (k n : Nat) : List Int := (List.range n).map fun i => ((k + i : Nat) : Int)
theorem marksI_len (k n : Nat) : (marksI k n).length = n := by simp [marksI]
theorem marksI_at (k n i : Nat) (h : i < (marksI k n).length) : (marksI k n)[i] = ((k + i : Nat) : Int) := by simp [marksI]
set_option maxHeartbeats 1000000 in
theorem markIntS_any (l : List Int) (w : World) (B k : Nat) (v : Value) (h : OwnI w B v l) (hk : k ≤ 1000000000) (hl : l.length ≤ 10000000) :
    Calls Try.prog 22 #[v, .int .i64 k] w fun en w' => en = .returned (.int .i64 ((k + l.length : Nat) : Int)) ∧ OwnI w' B v (marksI k l.length) ∧ ∃ g, v.ownBlock = some g ∧ But g w w' := by
  obtain ⟨g, cap, cur, rfl, hB, hh, hc, hm, hs, hx⟩ := h.parts
  have hM := maxLen_lt
  clear h hx
  obtain ⟨N, hN⟩ : ∃ N, l.length = N := ⟨_, rfl⟩
  rw [hN] at hc hl ⊢
  clear hN
  go_enter Try.func22, Try.ntmps22
  go_wp2
  go_loopw [1, 5] (fun q i wr => ∃ j : Nat, j ≤ N ∧ i = .int .i64 j ∧ q = .int .i64 ((k + j : Nat) : Int) ∧ Hid (But g w wr ∧ ∃ cu : Array Value, wr.heap[g]? = some (.cells cu 3 (0, 0)) ∧ cu.size = cap ∧ ∀ r, r < j → cu[r]? = some (.int .i64 ((k + r : Nat) : Int)))) (fun _ i _ => N - (intOf i).toNat)
  case atStart => exact ⟨0, Nat.zero_le _, rfl, rfl, But.refl _ _, cur, hh, hs, fun r hr => absurd hr (Nat.not_lt_zero _)⟩
  case round =>
    obtain ⟨j, hj, rfl, rfl, hb⟩ := hrel
    by_cases hlt : j < N
    · obtain ⟨cu, c1, c2, c3⟩ := hb.out.2
      have hd : ∃ u, wr.cell? ⟨g, j, none⟩ = some u := ⟨cu[j], by simp [World.cell?, c1, show j < cu.size by omega]⟩
      obtain ⟨u, hu⟩ := hd
      have hf : wr.frozen? ⟨g, j, none⟩ = false := by simp [World.frozen?, c1]
      have C : Hid (wr.heap[g]? = some (.cells cu 3 (0, 0)) ∧ cu.size = cap ∧ ∀ r, r < j → cu[r]? = some (.int .i64 ((k + r : Nat) : Int))) := ⟨c1, c2, c3⟩
      clear c1 c2 c3 hh hs
      go_wp2
      go_roundw
      case rel =>
        refine ⟨j + 1, by omega, by go_num, by go_num, hb.out.1.set _ _, _, heap_setCell_same _ g _ _ _ _ C.out.1, by simpa using C.out.2.1, fun r hr => ?_⟩
        rw [Array.getElem?_setIfInBounds]
        by_cases he : j = r
        · subst he; rw [if_pos rfl, if_pos (by have := C.out.2.1; omega)]; simp
        · rw [if_neg he]; exact C.out.2.2 r (by omega)
      case measure => simp [intOf]; omega
    · have hjn : j = N := by omega
      subst hjn
      go_wp2
      go_ret
      obtain ⟨hb1, cu, c1, c2, c3⟩ := hb.out
      refine ⟨rfl, ?_, g, rfl, hb1⟩
      have := OwnI.of_parts (l := marksI k j) (cap := cap) hB c1 (by rw [marksI_len]; exact hc) hm c2 (fun i hi => by rw [marksI_at]; exact c3 i (by rw [marksI_len] at hi; exact hi))
      rw [marksI_len] at this
      exact this
set_option maxHeartbeats 1000000 in
theorem heldIntS_any (N : Nat) (w : World) (B k : Nat) (v : Value) (h : OwnI w B v (marksI k N)) (hk : k ≤ 1000000000) (hl : N ≤ 10000000) :
    Calls Try.prog 24 #[v, .int .i64 k] w fun en w' => en = .returned (.int .i64 ((k + N : Nat) : Int)) ∧ w' = w := by
  obtain ⟨g, cap, cur, rfl, hB, hh, hc, hm, hs, hx⟩ := h.parts
  have hM := maxLen_lt
  rw [marksI_len] at hc ⊢
  have HX : Hid (∀ r, r < N → w.cell? ⟨g, r, none⟩ = some (.int .i64 ((k + r : Nat) : Int))) := fun r hr => by
    have h1 := hx r (by rw [marksI_len]; exact hr)
    rw [marksI_at] at h1
    simpa [World.cell?, hh] using h1
  clear h hx hh hs
  go_enter Try.func24, Try.ntmps24
  go_wp2
  go_loop [1, 5] (fun q i => ∃ j : Nat, j ≤ N ∧ i = .int .i64 j ∧ q = .int .i64 ((k + j : Nat) : Int)) (fun _ i => N - (intOf i).toNat)
  case atStart => exact ⟨0, Nat.zero_le _, rfl, rfl⟩
  case round =>
    obtain ⟨j, hj, rfl, rfl⟩ := hrel
    by_cases hlt : j < N
    · have hu := HX.out j hlt
      go_wp2
      go_round
      case rel => exact ⟨j + 1, by omega, by go_num, by go_num⟩
      case measure => simp [intOf]; omega
    · have hjn : j = N := by omega
      subst hjn
      go_wp2
      go_ret
      exact ⟨rfl, rfl⟩
end Go.Proofs.Ytpbmnajlkgjkfab
