/- The contract of slices.Max over numbers; of impl.jumpUses. -/
import Derived.Test.YtdkdimklacblaakMaxP
import Derived.Test.YtdkdimklacblaakOwnIntL
import Derived.Test.YtdkdimklacblaakBlockD
namespace Go.Proofs.Ytdkdimklacblaak
open Go.ChangeShapes Go.WideShapes Go.ChangeAt Go.RowKit
theorem top_take {l : List Int} {o : Int} {j : Nat} (h : j < l.length) : topFrom o (l.take (j + 1)) = if l[j] > topFrom o (l.take j) then l[j] else topFrom o (l.take j) := by
  rw [List.take_succ_eq_append_getElem h, topFrom_append]; rfl
theorem slicesMax_any (z : Int) (xs : List Int) (w : World) (b o cap : Nat) (hx : IntsGet w (some ⟨b, o, none⟩) (z :: xs)) :
    Calls Try.prog 36 #[.slice (some ⟨b, o, none⟩) (z :: xs).length cap] w fun e w' => e = .returned (.int .i64 (topFrom z xs)) ∧ w' = w := by
  have hm := maxLen_lt
  have hl := hx.1
  obtain ⟨L, hL⟩ : ∃ L, z :: xs = L := ⟨_, rfl⟩
  have T : Hid (topFrom z xs = topFrom z (L.take L.length)) := by
    show _ = _
    rw [List.take_length, ← hL]
    show _ = topFrom (if z < z then z else z) xs
    simp
  have T1 : Hid (topFrom z (L.take 1) = z) := by
    show _ = _
    rw [← hL]
    show topFrom (if z < z then z else z) [] = z
    simp [topFrom]
  have h0 : 0 < L.length := by rw [← hL]; simp
  have hz : L[0] = z := by subst hL; rfl
  rw [hL] at hx hl ⊢
  rw [T.out]
  have HX := hideP hx
  clear hx T
  have c0 : w.cell? ⟨b, o, none⟩ = some (.int .i64 z) := by
    obtain ⟨b', o', he, hc⟩ := HX.out.get 0 h0
    cases he
    rw [hz] at hc
    simpa using hc
  clear hL hz
  go_enter Try.func36, Try.ntmps36
  have n1 : ¬ (L.length : Int) < 1 := by omega
  go_wp2
  clear c0
  go_loop [3, 4] (fun m i => ∃ j : Nat, 1 ≤ j ∧ j ≤ L.length ∧ i = .int .i64 j ∧ m = .int .i64 (topFrom z (L.take j))) (fun _ i => L.length - (intOf i).toNat)
  case atStart => exact ⟨1, Nat.le_refl _, by omega, rfl, by rw [T1.out]⟩
  case round =>
    obtain ⟨j, hj1, hj, rfl, rfl⟩ := hrel
    by_cases hlt : j < L.length
    · obtain ⟨b', o', he, hc⟩ := HX.out.get j hlt
      cases he
      have TT := hideP (top_take (o := z) hlt)
      obtain ⟨x, hxj⟩ : ∃ x, L[j] = x := ⟨_, rfl⟩
      obtain ⟨y, hy⟩ : ∃ y, topFrom z (L.take j) = y := ⟨_, rfl⟩
      rw [hxj, hy] at TT
      rw [hxj] at hc
      rw [hy]
      clear hxj hy
      by_cases hgt : x > y
      · have E : (if x > y then x else y) = x := if_pos hgt
        rw [E] at TT
        go_wp2
        go_round
        case rel => exact ⟨j + 1, by omega, by omega, by go_num, by rw [TT.out]⟩
        case measure => simp [intOf]; omega
      · have E : (if x > y then x else y) = y := if_neg hgt
        rw [E] at TT
        go_wp2
        go_round
        case rel => exact ⟨j + 1, by omega, by omega, by go_num, by rw [TT.out]⟩
        case measure => simp [intOf]; omega
    · have hjn : j = L.length := by omega
      subst hjn
      go_wp2
      go_ret
      exact ⟨rfl, rfl⟩
set_option maxHeartbeats 2000000 in
theorem jumpUses_any (x : Blk) (w : World) (B : Nat) (v : Array Value) (h : BlkIs w B v x) :
    Calls Try.prog 35 #[.agg v] w fun en w' => ∃ v', en = .returned v' ∧ OwnI w' w.heap.size v' (metJ x) ∧ Below w.heap.size w w' := by
  obtain ⟨code, jump, a, to, els⟩ := x
  obtain ⟨ux, kx, rfl, _⟩ := h
  by_cases h1 : jump = 1 ∨ jump = 2
  · have e : metJ ⟨code, jump, a, to, els⟩ = [a] := if_pos h1
    rw [e]
    rcases h1 with rfl | rfl
    all_goals
      go_enter Try.func35, Try.ntmps35
      go_wp2
      go_ret
      exact ⟨_, rfl, own_lit2 w _ [a] _ _ _ rfl rfl rfl (by simp), below2 w _ _⟩
  · have e : metJ ⟨code, jump, a, to, els⟩ = [] := if_neg h1
    rw [e]
    have n1 : ¬ jump = 1 := fun h => h1 (Or.inl h)
    have n2 : ¬ jump = 2 := fun h => h1 (Or.inr h)
    clear h1
    go_enter Try.func35, Try.ntmps35
    go_wp2
    all_goals first
      | (exfalso; simp_all; done)
      | (go_ret; exact ⟨_, rfl, own_lit2 w _ [] _ _ _ rfl rfl rfl (by simp), below2 w _ _⟩)
end Go.Proofs.Ytdkdimklacblaak
