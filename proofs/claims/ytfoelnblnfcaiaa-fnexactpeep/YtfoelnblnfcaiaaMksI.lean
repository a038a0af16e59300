/- The laws' marks on rows of numbers and of steps that a call owns: what they write, and that they find it again. -/
import Derived.Test.YtfoelnblnfcaiaaMksS
import Derived.Deep.LoopGhost
import Derived.Deep.RegionHeld3
namespace Go.Proofs.Ytfoelnblnfcaiaa
open Go.ChangeShapes Go.WideShapes Go.ChangeAt Go.RowKit
/-- The cells of a row of n numbers. -/
def intL (b o n : Nat) : List Cel := (List.range n).map fun i => (b, o + i, false)
theorem intL_len (b o n : Nat) : (intL b o n).length = n := by simp [intL]
theorem intL_mem {b o n b' o' : Nat} {t : Bool} (h : (b', o', t) ∈ intL b o n) : b' = b ∧ o ≤ o' ∧ o' < o + n := by
  simp only [intL, List.mem_map, List.mem_range, Prod.mk.injEq] at h
  obtain ⟨i, hi, rfl, rfl, _⟩ := h
  exact ⟨rfl, by omega, by omega⟩
theorem intL_succ (b o n : Nat) : intL b o (n + 1) = intL b o n ++ [(b, o + n, false)] := by simp [intL, List.range_succ]
/-- The cells of a row of n steps. -/
def ins1 (b p : Nat) : List Cel := celL b p [false, false, false, false, false, false] ++ [(b, p + 6, true)]
def insL (b o n : Nat) : List Cel := (List.range n).flatMap fun i => ins1 b (o + i * 7)
theorem insL_succ (b o n : Nat) : insL b o (n + 1) = insL b o n ++ ins1 b (o + n * 7) := by simp [insL, List.range_succ]
theorem insL_len (b o : Nat) : ∀ n, (insL b o n).length = n * 7
  | 0 => rfl
  | n + 1 => by rw [insL_succ, List.length_append, insL_len b o n]; simp [ins1, celL]; omega
theorem insL_mem {b o b' o' : Nat} {t : Bool} : ∀ {n : Nat}, (b', o', t) ∈ insL b o n → b' = b ∧ o ≤ o' ∧ o' < o + n * 7
  | 0, h => by simp [insL] at h
  | n + 1, h => by
    rw [insL_succ] at h
    rcases List.mem_append.1 h with h | h
    · obtain ⟨h1, h2, h3⟩ := insL_mem h
      exact ⟨h1, h2, by omega⟩
    · rcases List.mem_append.1 h with h | h
      · have := celL_mem h; simp at this; omega
      · simp at h; omega
set_option maxHeartbeats 1000000 in
theorem markIntS_mks (n : Nat) (w : World) (k b o cap : Nat) (c : Array Value) (T : TypeId) (hh : w.heap[b]? = some (.cells c T (0, 0))) (hs : o + n ≤ c.size) (hk : k + n ≤ 100000000) :
    Calls Try.prog 22 #[.slice (some ⟨b, o, none⟩) n cap, .int .i64 k] w fun en w' => en = .returned (.int .i64 ((k + n : Nat) : Int)) ∧ Mks w w' (intL b o n) k := by
  have hb : b < w.heap.size := (Array.getElem?_eq_some_iff.1 hh).1
  have HH := hideP hh
  clear hh
  go_enter Try.func22, Try.ntmps22
  go_wp2
  go_loopg [1, 5] n (fun gk q i wr => ∃ j m : Nat, gk + j = n ∧ i = .int .i64 j ∧ q = .int .i64 m ∧ Hid (m = k + j) ∧ Hid (Mks w wr (intL b o j) k))
  case atStart => exact ⟨0, k, by simp, rfl, rfl, rfl, Mks.nil w k⟩
  case round =>
    obtain ⟨j, m, hgk, rfl, rfl, hmk, hm⟩ := hrel
    by_cases hlt : j < n
    · obtain ⟨c1, h1, s1⟩ := hm.out.plain b c T HH.out
      have c0 : wr.cell? ⟨b, o + j, none⟩ = some c1[o + j] := by rw [(cells_of h1).1]; exact Array.getElem?_eq_getElem (by omega)
      have f0 := (cells_of h1).2 (o + j)
      have hmk' := hmk.out
      have hm1 : m + 1 ≤ 100000001 := by omega
      have M1 : Hid (Mks w (wr.setCell ⟨b, o + j, none⟩ (.int .i64 (m : Int))) (intL b o (j + 1)) k) := by
        rw [intL_succ]
        exact hm.out.pushV (fun c hc => by obtain ⟨b', o', t⟩ := c; have := intL_mem hc; simp; omega) HH.out (by omega) (fun t' ht => by have := intL_mem ht; omega) (by rw [mkV_int, intL_len, hmk'])
      clear h1 hmk'
      go_wp2
      go_roundg (n - (j + 1))
      case rel => exact ⟨j + 1, m + 1, by omega, by go_num, by go_num, show _ = _ by rw [hmk.out]; omega, M1⟩
      case measure => omega
    · have hjn : j = n := by omega
      subst hjn
      go_wp2
      go_ret
      exact ⟨ret_int (by rw [hmk.out]), hm.out⟩
set_option maxHeartbeats 1000000 in
theorem heldIntS_mks (n : Nat) (w : World) (k b o cap : Nat) (hc : ∀ i, i < n → w.cell? ⟨b, o + i, none⟩ = some (.int .i64 ((k + i : Nat) : Int))) (hk : k + n ≤ 100000000) :
    Calls Try.prog 23 #[.slice (some ⟨b, o, none⟩) n cap, .int .i64 k] w fun en w' => en = .returned (.int .i64 ((k + n : Nat) : Int)) ∧ w' = w := by
  have HC := hideP hc
  clear hc
  go_enter Try.func23, Try.ntmps23
  go_wp2
  go_loop [1, 5] (fun q i => ∃ j : Nat, j ≤ n ∧ i = .int .i64 j ∧ q = .int .i64 ((k + j : Nat) : Int)) (fun _ i => n - (intOf i).toNat)
  case atStart => exact ⟨0, Nat.zero_le _, rfl, rfl⟩
  case round =>
    obtain ⟨j, hj, rfl, rfl⟩ := hrel
    by_cases hlt : j < n
    · have hu := HC.out j hlt
      go_wp2
      go_round
      case rel => exact ⟨j + 1, by omega, by go_num, by go_num⟩
      case measure => simp [intOf]; omega
    · have hjn : j = n := by omega
      subst hjn
      go_wp2
      go_ret
      exact ⟨rfl, rfl⟩
end Go.Proofs.Ytfoelnblnfcaiaa
