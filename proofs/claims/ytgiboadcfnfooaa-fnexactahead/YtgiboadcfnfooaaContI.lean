/- The contract of slices.Contains over numbers. -/
import Derived.Test.YtgiboadcfnfooaaOwnInt
namespace Go.Proofs.Ytgiboadcfnfooaa
open Go.ChangeShapes Go.WideShapes Go.ChangeAt Go.RowKit
theorem index_any (xs : List Int) (n : Int) (w : World) (b o cap : Nat) (hx : IntsGet w (some ⟨b, o, none⟩) xs) :
    Calls Try.prog 46 #[.slice (some ⟨b, o, none⟩) xs.length cap, .int .i64 n] w fun e w' => (∃ k : Int, e = .returned (.int .i64 k) ∧ (0 ≤ k ↔ n ∈ xs)) ∧ w' = w := by
  have hm := maxLen_lt
  have hl := hx.1
  have HX := hideP hx
  clear hx
  go_enter Try.func46, Try.ntmps46
  go_wp2
  go_loop [8] (fun i => ∃ j : Nat, j ≤ xs.length ∧ i = .int .i64 j ∧ Hid (n ∉ xs.take j)) (fun i => xs.length - (intOf i).toNat)
  case atStart => exact ⟨0, Nat.zero_le _, rfl, by show _ ∉ _; simp⟩
  case round =>
    obtain ⟨j, hj, rfl, hn⟩ := hrel
    by_cases hlt : j < xs.length
    · obtain ⟨b', o', he, hc⟩ := HX.out.get j hlt
      cases he
      obtain ⟨x, hxj⟩ : ∃ x, xs[j] = x := ⟨_, rfl⟩
      rw [hxj] at hc
      by_cases h1 : n = x
      · subst h1
        have M : Hid (n ∈ xs) := by rw [← hxj]; exact List.getElem_mem hlt
        clear hxj
        go_wp2
        go_ret
        exact ⟨⟨_, rfl, ⟨fun _ => M.out, fun _ => by omega⟩⟩, rfl⟩
      · have T : Hid (n ∉ xs.take (j + 1)) := by
          show _ ∉ _
          rw [List.take_succ_eq_append_getElem hlt, hxj]
          simp only [List.mem_append, List.mem_singleton, not_or]
          exact ⟨hn.out, h1⟩
        clear hxj
        go_wp2
        go_round
        case rel => exact ⟨j + 1, by omega, by go_num, T⟩
        case measure => simp [intOf]; omega
    · have hjn : j = xs.length := by omega
      subst hjn
      go_wp2
      go_ret
      have h1 := hn.out
      rw [List.take_length] at h1
      exact ⟨⟨_, rfl, ⟨fun h => absurd h (by decide), fun h => absurd h h1⟩⟩, rfl⟩
theorem contains_any (xs : List Int) (n : Int) (w : World) (b o cap : Nat) (hx : IntsGet w (some ⟨b, o, none⟩) xs) :
    Calls Try.prog 32 #[.slice (some ⟨b, o, none⟩) xs.length cap, .int .i64 n] w fun e w' => e = .returned (.bool (decide (n ∈ xs))) ∧ w' = w := by
  by_cases h : n ∈ xs
  · have E : decide (n ∈ xs) = true := by simpa using h
    rw [E]
    clear E
    go_enter Try.func32, Try.ntmps32
    go_wp2_with fail
    refine (index_any xs n _ b o cap hx).mono ?_
    rintro e1 w1 ⟨⟨k, rfl, hk⟩, hw⟩
    have hw2 := hw.symm
    subst hw2
    have h0 := hk.2 h
    clear hk hw
    go_wp2
    go_ret
    exact ⟨rfl, rfl⟩
  · have E : decide (n ∈ xs) = false := by simpa using h
    rw [E]
    clear E
    go_enter Try.func32, Try.ntmps32
    go_wp2_with fail
    refine (index_any xs n _ b o cap hx).mono ?_
    rintro e1 w1 ⟨⟨k, rfl, hk⟩, hw⟩
    have hw2 := hw.symm
    subst hw2
    have h0 : ¬ 0 ≤ k := fun hh => h (hk.1 hh)
    clear hk hw
    go_wp2
    go_ret
    exact ⟨ret_bool (by simpa using h0), rfl⟩
end Go.Proofs.Ytgiboadcfnfooaa
