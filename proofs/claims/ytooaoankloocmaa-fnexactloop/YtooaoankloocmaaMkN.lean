/- The laws' eqIntS, markIntS and heldIntS over a list that may be nil. -/
import Derived.Test.YtooaoankloocmaaSetAll
import Derived.Test.YtooaoankloocmaaMkAll
namespace Go.Proofs.Ytooaoankloocmaa
open Go.ChangeShapes Go.WideShapes Go.ChangeAt Go.RowKit
theorem NumN.stays {w w' : World} {lo : Nat} {v : Value} {l : List Int} (h : NumN w lo v l) (b : Below w.heap.size w w') : NumN w' lo v l := h.keep (fun g _ hlt => b.block g hlt)
theorem NumN.mono {w : World} {lo lo' : Nat} {v : Value} {l : List Int} (h : NumN w lo v l) (hl : lo' ≤ lo) : NumN w lo' v l := h.elim Or.inl (fun h2 => Or.inr (h2.mono hl))
theorem NumN.kept {w w' : World} {lo : Nat} {v : Value} {l : List Int} {row : Option Nat} (h : NumN w lo v l) (hg : w.grownBy w' row) (hne : ∀ g, v.ownBlock = some g → row ≠ some g) : NumN w' lo v l := h.keep (fun g hv hlt => hg.block g hlt (fun e => hne g hv e.symm))
theorem NumN.over {w w' : World} {A B T : Nat} {v : Value} {l : List Int} (h : NumN w A v l) (ho : Over B T w w') (hne : ∀ g, v.ownBlock = some g → g < B ∨ T ≤ g) : NumN w' A v l := h.elim Or.inl (fun h2 => Or.inr (h2.over ho hne))
theorem NumN.ints {w : World} {lo : Nat} {v : Value} {l : List Int} (h : NumN w lo v l) : ∃ a c, v = .slice a l.length c ∧ IntsIs w lo a l := by
  rcases h with ⟨rfl, rfl⟩ | h
  · exact ⟨none, 0, rfl, by simp, Or.inl rfl⟩
  · obtain ⟨g, cap, rfl, _⟩ := id h
    exact ⟨_, cap, rfl, h.is.2⟩
theorem eqIntS_num (l : List Int) (w : World) (B1 B2 : Nat) (v1 v2 : Value) (h1 : NumN w B1 v1 l) (h2 : NumN w B2 v2 l) :
    Calls Try.prog 20 #[v1, v2] w fun en w' => en = .returned (.bool true) ∧ Below w.heap.size w w' := by
  obtain ⟨a1, c1, rfl, i1⟩ := h1.ints
  obtain ⟨a2, c2, rfl, i2⟩ := h2.ints
  exact eqIntS_same l w B1 B2 a1 a2 c1 c2 i1 i2
theorem markIntS_none (w : World) (k : Nat) : Calls Try.prog 21 #[.slice none 0 0, .int .i64 k] w fun en w' => en = .returned (.int .i64 (k : Int)) ∧ w' = w := by
  go_enter Try.func21, Try.ntmps21
  go_wp2
  go_loopw [1, 5] (fun q i wr => i = .int .i64 0 ∧ q = .int .i64 (k : Int) ∧ wr = w) (fun _ _ _ => 0)
  case atStart => exact ⟨rfl, rfl, rfl⟩
  case round =>
    obtain ⟨rfl, rfl, rfl⟩ := hrel
    go_wp2
    go_ret
    exact ⟨rfl, rfl⟩
theorem heldIntS_none (w : World) (k : Nat) : Calls Try.prog 22 #[.slice none 0 0, .int .i64 k] w fun en w' => en = .returned (.int .i64 (k : Int)) ∧ w' = w := by
  go_enter Try.func22, Try.ntmps22
  go_wp2
  go_loopw [1, 5] (fun q i wr => i = .int .i64 0 ∧ q = .int .i64 (k : Int) ∧ wr = w) (fun _ _ _ => 0)
  case atStart => exact ⟨rfl, rfl, rfl⟩
  case round =>
    obtain ⟨rfl, rfl, rfl⟩ := hrel
    go_wp2
    go_ret
    exact ⟨rfl, rfl⟩
theorem marksI_nil {k N : Nat} (h : marksI k N = []) : N = 0 := by have := marksI_len k N; rw [h] at this; simpa using this.symm
theorem markIntS_num (l : List Int) (w : World) (B k : Nat) (v : Value) (h : NumN w B v l) (hk : k ≤ 1000000000) (hl : l.length ≤ 10000000) :
    Calls Try.prog 21 #[v, .int .i64 k] w fun en w' => en = .returned (.int .i64 ((k + l.length : Nat) : Int)) ∧ NumN w' B v (marksI k l.length) ∧ w.grownBy w' v.ownBlock := by
  rcases h with ⟨rfl, rfl⟩ | h
  · refine (markIntS_none w k).mono ?_
    rintro en w' ⟨rfl, rfl⟩
    exact ⟨rfl, Or.inl ⟨rfl, by simp [marksI]⟩, World.grownBy.refl _ _⟩
  · refine (markIntS_any l w B k v h hk hl).mono ?_
    rintro en w' ⟨rfl, o, g, hg, hb⟩
    exact ⟨rfl, Or.inr o, by rw [hg]; exact ⟨hb.os, hb.tape, hb.output, hb.size, fun k hk hne => hb.block k hk (fun e => hne (by rw [e]))⟩⟩
theorem heldIntS_num (N : Nat) (w : World) (B k : Nat) (v : Value) (h : NumN w B v (marksI k N)) (hk : k ≤ 1000000000) (hl : N ≤ 10000000) :
    Calls Try.prog 22 #[v, .int .i64 k] w fun en w' => en = .returned (.int .i64 ((k + N : Nat) : Int)) ∧ w' = w := by
  rcases h with ⟨rfl, h0⟩ | h
  · have := marksI_nil h0
    subst this
    refine (heldIntS_none w k).mono ?_
    rintro en w' ⟨rfl, rfl⟩
    exact ⟨rfl, rfl⟩
  · exact heldIntS_any N w B k v h hk hl
end Go.Proofs.Ytooaoankloocmaa
