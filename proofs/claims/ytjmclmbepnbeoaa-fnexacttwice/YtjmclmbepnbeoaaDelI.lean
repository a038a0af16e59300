/- Steps that name a slot; the closure that slices.DeleteFunc asks; rows of steps written in place. -/
import Derived.Test.YtjmclmbepnbeoaaFndS
import Derived.Test.YtjmclmbepnbeoaaAliB
import Derived.Test.YtjmclmbepnbeoaaRowA
import Derived.Test.YtjmclmbepnbeoaaTwcQ
import Derived.Deep.RegionHeld3
import Derived.Laws.CopyRow
namespace Go.Proofs.Ytjmclmbepnbeoaa
open Go.ChangeShapes Go.WideShapes Go.ChangeAt Go.RowKit
/-- The step names the slot. -/
def NmP (y : Ins) (s : Int) : Prop := y.a = s ∨ y.b = s ∨ y.d = s
instance (y : Ins) (s : Int) : Decidable (NmP y s) := inferInstanceAs (Decidable (_ ∨ _))
theorem stand_nm {x y : Ins} (hy : 0 ≤ y.a ∧ 0 ≤ y.b ∧ 0 ≤ y.d) : StandX x y ↔ ¬ NmP y (makesP x) := by
  unfold StandX NmP makesP
  by_cases c : x.op = 4 ∨ x.op = 6
  · rw [if_pos c]
    constructor
    · intro _; omega
    · intro _; exact Or.inl c
  · rw [if_neg c]
    constructor
    · rintro (h | ⟨h1, h2, h3⟩) h4
      · exact c h
      · rcases h4 with h | h | h
        · exact h1 h
        · exact h2 h
        · exact h3 h
    · intro h
      exact Or.inr ⟨fun e => h (Or.inl e), fun e => h (Or.inr (Or.inl e)), fun e => h (Or.inr (Or.inr e))⟩
set_option maxHeartbeats 2000000 in
theorem names_any (y : Ins) (s : Int) (w : World) :
    Calls Try.prog 93 #[.agg (insV y), .int .i64 s] w fun e w' => e = .returned (.bool (decide (NmP y s))) ∧ Below w.heap.size w w' := by
  obtain ⟨op, d, a, b, c, n, t⟩ := y
  simp only [insV]
  go_enter Try.func93, Try.ntmps93
  by_cases h1 : a = s
  · subst h1
    go_wp2
    go_ret
    exact ⟨ret_bool (by simp [NmP]), (Below.refl _ _).alloc (Nat.le_refl _) _⟩
  · have h1b : (a == s) = false := by simpa using h1
    by_cases h2 : b = s
    · subst h2
      go_wp2
      go_ret
      exact ⟨ret_bool (by simp [NmP]), (Below.refl _ _).alloc (Nat.le_refl _) _⟩
    · have h2b : (b == s) = false := by simpa using h2
      go_wp2
      go_ret
      exact ⟨ret_bool (by by_cases e : d = s <;> simp [NmP, h1, h2, e]), (Below.refl _ _).alloc (Nat.le_refl _) _⟩
set_option maxRecDepth 100000 in
set_option maxHeartbeats 4000000 in
theorem del1_any (x y : Ins) (bx : Nat) (w : World) (hx : WfX x) (hb : w.heap[bx]? = some (.cells (insV x) 48 (0, 0))) :
    Calls Try.prog 92 #[.agg (insV y), .pointer (some ⟨bx, 0, none⟩)] w fun e w' => e = .returned (.bool (decide (NmP y (makesP x)))) ∧ Below w.heap.size w w' := by
  have MK := hideP (fun W => impl_makes x W 0 (insV x) ⟨rfl, hx.1, hx.2⟩)
  have NM := hideP (fun W => names_any y (makesP x) W)
  obtain ⟨r, hr⟩ : ∃ r, decide (NmP y (makesP x)) = r := ⟨_, rfl⟩
  obtain ⟨s, hs⟩ : ∃ s, makesP x = s := ⟨_, rfl⟩
  simp only [hr] at NM ⊢
  rw [hs] at MK NM
  clear hr hs hx
  obtain ⟨op, d, a, b, c, n, t⟩ := x
  obtain ⟨yo, yd, ya, yb, yc, yn, yt⟩ := y
  simp only [insV] at hb MK NM ⊢
  have AL := hideP ((Below.refl w.heap.size w).alloc (Nat.le_refl _) (.cells #[.int .i64 yo, .int .i64 yd, .int .i64 ya, .int .i64 yb, .int .i64 yc, .int .i64 yn, .string yt] 48))
  have Y8 := hideP (newI w #[.int .i64 yo, .int .i64 yd, .int .i64 ya, .int .i64 yb, .int .i64 yc, .int .i64 yn, .string yt])
  have X8 := hideP ((AL.out.block _ (hltP hb)).trans hb)
  clear hb
  go_enter Try.func92, Try.ntmps92
  go_upto_region 1 with fail
  obtain ⟨w1, hw1⟩ : ∃ w1, w.alloc (.cells #[.int .i64 yo, .int .i64 yd, .int .i64 ya, .int .i64 yb, .int .i64 yc, .int .i64 yn, .string yt] 48) = w1 := ⟨_, rfl⟩
  obtain ⟨by', hby⟩ : ∃ b, w.heap.size = b := ⟨_, rfl⟩
  rw [hw1] at AL X8 Y8 ⊢
  rw [hby] at Y8 ⊢
  have HBY := hideP hby
  clear hw1 hby
  have SK : Hid (∀ W' : World, Below w1.heap.size w1 W' → W'.cell? ⟨bx, 0, none⟩ = some (.int .i64 op) ∧ W'.cell? ⟨bx, 1, none⟩ = some (.int .i64 d) ∧ W'.cell? ⟨bx, 2, none⟩ = some (.int .i64 a) ∧ W'.cell? ⟨bx, 3, none⟩ = some (.int .i64 b) ∧ W'.cell? ⟨bx, 4, none⟩ = some (.int .i64 c) ∧ W'.cell? ⟨bx, 5, none⟩ = some (.int .i64 n) ∧ W'.cell? ⟨bx, 6, none⟩ = some (.string t) ∧ W'.cell? ⟨by', 0, none⟩ = some (.int .i64 yo) ∧ W'.cell? ⟨by', 1, none⟩ = some (.int .i64 yd) ∧ W'.cell? ⟨by', 2, none⟩ = some (.int .i64 ya) ∧ W'.cell? ⟨by', 3, none⟩ = some (.int .i64 yb) ∧ W'.cell? ⟨by', 4, none⟩ = some (.int .i64 yc) ∧ W'.cell? ⟨by', 5, none⟩ = some (.int .i64 yn) ∧ W'.cell? ⟨by', 6, none⟩ = some (.string yt)) := fun W' hb => by
    have f := (cells_of ((hb.block _ (hltP X8.out)).trans X8.out)).1
    have g := (cells_of ((hb.block _ (hltP Y8.out)).trans Y8.out)).1
    exact ⟨f 0, f 1, f 2, f 3, f 4, f 5, f 6, g 0, g 1, g 2, g 3, g 4, g 5, g 6⟩
  go_region_held3 (fun W' => W'.cell? ⟨bx, 0, none⟩ = some (.int .i64 op) ∧ W'.cell? ⟨bx, 1, none⟩ = some (.int .i64 d) ∧ W'.cell? ⟨bx, 2, none⟩ = some (.int .i64 a) ∧ W'.cell? ⟨bx, 3, none⟩ = some (.int .i64 b) ∧ W'.cell? ⟨bx, 4, none⟩ = some (.int .i64 c) ∧ W'.cell? ⟨bx, 5, none⟩ = some (.int .i64 n) ∧ W'.cell? ⟨bx, 6, none⟩ = some (.string t) ∧ W'.cell? ⟨by', 0, none⟩ = some (.int .i64 yo) ∧ W'.cell? ⟨by', 1, none⟩ = some (.int .i64 yd) ∧ W'.cell? ⟨by', 2, none⟩ = some (.int .i64 ya) ∧ W'.cell? ⟨by', 3, none⟩ = some (.int .i64 yb) ∧ W'.cell? ⟨by', 4, none⟩ = some (.int .i64 yc) ∧ W'.cell? ⟨by', 5, none⟩ = some (.int .i64 yn) ∧ W'.cell? ⟨by', 6, none⟩ = some (.string yt)) (first | with_reducible exact SK.out _ HB2.out | with_reducible exact SK.out _ HB1.out | with_reducible exact SK.out _ (Below.refl _ _).drew) (first
    | (go_at_call 94; refine (MK.out _).mono ?_; rintro e1 w2 ⟨rfl, bel1⟩; have HB1 := hideP ((Below.refl w1.heap.size w1).drew.trans (bel1.mono (Nat.le_refl _))); clear bel1)
    | (go_at_call 93; refine (NM.out _).mono ?_; rintro e2 w3 ⟨rfl, bel2⟩; have HB2 := hideP (HB1.out.trans (bel2.mono HB1.out.size)); clear bel2))
  go_wp2
  go_ret
  exact ⟨rfl, HBY.out ▸ below_trans AL.out HB2.out⟩
end Go.Proofs.Ytjmclmbepnbeoaa
