/- spec.l02Ints and slices.Equal of two lists of numbers (cut out of Ints and IntsEq, for seats that have the trees too). -/
import Derived.Test.YtfoaplihindeaagRows
import Derived.Test.YtfoaplihindeaagTree
import Derived.Test.YtfoaplihindeaagPlain
import Derived.WalkKit
import Derived.ProofKit
import Derived.WalkSpells
import Derived.WalkLawsBesides
import Derived.Deep.QuietTactic
import Derived.BigQuiet
import Derived.Deep.Draws
namespace Go.Proofs.Ytfoaplihindeaag
open Go.ChangeShapes Go.WideShapes Go.ChangeAt Go.RowKit
theorem maxLen_lt3 : maxLen ≤ 9223372036854775807 := by unfold maxLen; decide
/-- Two lists, told by their elements one by one. -/
def IntsGet (w : World) (a : Option Addr) (zs : List Int) : Prop := zs.length ≤ maxLen ∧ (zs.length = 0 ∨ ∃ b o, a = some ⟨b, o, none⟩ ∧ ∀ (i : Nat) (h : i < zs.length), w.cell? ⟨b, o + i, none⟩ = some (.int .i64 zs[i]))
theorem IntsIs.sees {w : World} {B : Nat} {a : Option Addr} {zs : List Int} (h : IntsIs w B a zs) : IntsGet w a zs := by
  refine ⟨h.1, ?_⟩
  rcases h.2 with h0 | ⟨b, o, ha, _, _, hc⟩
  · exact Or.inl h0
  · exact Or.inr ⟨b, o, ha, hc⟩
theorem IntsGet.take {w : World} {a : Option Addr} {zs : List Int} (h : IntsGet w a zs) (n : Nat) (hn : n ≤ zs.length) : IntsGet w a (zs.take n) := by
  have hl : (zs.take n).length = n := by rw [List.length_take]; omega
  refine ⟨by have := h.1; omega, ?_⟩
  rcases h.2 with h0 | ⟨b, o, ha, hc⟩
  · exact Or.inl (by omega)
  · refine Or.inr ⟨b, o, ha, fun i hi => ?_⟩
    rw [List.getElem_take]; exact hc i (by omega)
theorem IntsGet.cellsame {w w' : World} {a : Option Addr} {zs : List Int} (h : IntsGet w a zs) (hc : ∀ p, w'.cell? p = w.cell? p) : IntsGet w' a zs := by
  refine ⟨h.1, ?_⟩
  rcases h.2 with h0 | ⟨b, o, ha, hg⟩
  · exact Or.inl h0
  · exact Or.inr ⟨b, o, ha, fun i hi => (hc _).trans (hg i hi)⟩
theorem IntsGet.get {w : World} {a : Option Addr} {zs : List Int} (h : IntsGet w a zs) (i : Nat) (hi : i < zs.length) : ∃ b o, a = some ⟨b, o, none⟩ ∧ w.cell? ⟨b, o + i, none⟩ = some (.int .i64 zs[i]) := by
  rcases h.2 with h0 | ⟨b, o, ha, hc⟩
  · omega
  · exact ⟨b, o, ha, hc i hi⟩
theorem beq_at {xs ys : List Int} {j : Nat} (h : j < xs.length) (h' : j < ys.length) (hne : xs[j] ≠ ys[j]) : (xs == ys) = false := by
  rw [beq_eq_false_iff_ne]; rintro rfl; exact hne rfl
theorem beq_len {xs ys : List Int} (h : xs.length ≠ ys.length) : (xs == ys) = false := by
  rw [beq_eq_false_iff_ne]; rintro rfl; exact h rfl
theorem beq_same {xs ys : List Int} (h : xs.length = ys.length) (hs : ∀ i (hi : i < xs.length) (hi' : i < ys.length), xs[i] = ys[i]) : (xs == ys) = true := by
  rw [beq_iff_eq]; exact List.ext_getElem h hs

set_option maxHeartbeats 1000000 in
theorem l02Ints_any (xs ys : List Int) (w : World) (a1 a2 : Option Addr) (c1 c2 : Nat) (h1 : IntsGet w a1 xs) (h2 : IntsGet w a2 ys) :
    Calls Try.prog 32 #[.slice a1 xs.length c1, .slice a2 ys.length c2] w fun en w' => en = .returned (.bool (xs == ys)) ∧ ∃ q, w' = w.drewN q := by
  have hm := maxLen_lt3
  have hl1 := h1.1
  have hl2 := h2.1
  by_cases hne : xs.length = ys.length
  · have H1 := hideP h1
    have H2 := hideP h2
    clear h1 h2
    go_enter Try.func32, Try.ntmps32
    go_wp2
    go_loopw [5] (fun i wr => ∃ j q : Nat, j ≤ xs.length ∧ i = .int .i64 j ∧ wr = w.drewN q ∧ Hid (∀ k (hk : k < xs.length) (hk' : k < ys.length), k < j → xs[k] = ys[k])) (fun i _ => xs.length - (intOf i).toNat)
    case atStart => exact ⟨0, 0, Nat.zero_le _, rfl, rfl, fun _ _ _ h => absurd h (Nat.not_lt_zero _)⟩
    case round =>
      obtain ⟨j, q, hj, rfl, rfl, hs⟩ := hrel
      by_cases hlt : j < xs.length
      · have hlt2 : j < ys.length := by omega
        obtain ⟨b, o, rfl, p0⟩ := H1.out.get j hlt
        obtain ⟨b', o', rfl, q0⟩ := H2.out.get j hlt2
        obtain ⟨x, hx⟩ : ∃ x, xs[j] = x := ⟨_, rfl⟩
        obtain ⟨y, hy⟩ : ∃ y, ys[j] = y := ⟨_, rfl⟩
        rw [hx] at p0
        rw [hy] at q0
        have HX := hideP hx
        have HY := hideP hy
        clear hx hy
        by_cases hxy : x = y
        · subst hxy
          go_wp2
          go_region
          all_goals
            go_wp2
            go_roundw
            case rel =>
              refine ⟨j + 1, q + 1, by omega, by go_num, rfl, fun k hk hk' hkj => ?_⟩
              by_cases e : k = j
              · subst e; rw [HX.out, HY.out]
              · exact hs.out k hk hk' (by omega)
            case measure => simp [intOf]; omega
        · have E : Hid ((xs == ys) = false) := beq_at hlt hlt2 (by rw [HX.out, HY.out]; exact hxy)
          go_wp2
          go_region
          all_goals
            go_wp2
            go_ret
            exact ⟨ret_bool E.out.symm, q + 1, rfl⟩
      · have E : Hid ((xs == ys) = true) := beq_same hne fun i hi hi' => hs.out i hi hi' (by omega)
        go_wp2
        go_ret
        exact ⟨ret_bool E.out.symm, q, rfl⟩
  · rw [beq_len hne]
    have hne' : ¬ (xs.length : Int) = (ys.length : Int) := by omega
    clear h1 h2
    go_enter Try.func32, Try.ntmps32
    go_wp2
    go_ret
    exact ⟨rfl, 0, rfl⟩
set_option maxHeartbeats 1000000 in
theorem slicesEqual_any (xs ys : List Int) (w : World) (a1 a2 : Option Addr) (c1 c2 : Nat) (h1 : IntsGet w a1 xs) (h2 : IntsGet w a2 ys) :
    Calls Try.prog 34 #[.slice a1 xs.length c1, .slice a2 ys.length c2] w fun en w' => en = .returned (.bool (xs == ys)) ∧ ∃ q, w' = w.drewN q := by
  have hm := maxLen_lt3
  have hl1 := h1.1
  have hl2 := h2.1
  by_cases hne : xs.length = ys.length
  · have H1 := hideP h1
    have H2 := hideP h2
    clear h1 h2
    go_enter Try.func34, Try.ntmps34
    go_wp2
    go_loopw [13] (fun i wr => ∃ j q : Nat, j ≤ xs.length ∧ i = .int .i64 j ∧ wr = w.drewN q ∧ Hid (∀ k (hk : k < xs.length) (hk' : k < ys.length), k < j → xs[k] = ys[k])) (fun i _ => xs.length - (intOf i).toNat)
    case atStart => exact ⟨0, 0, Nat.zero_le _, rfl, rfl, fun _ _ _ h => absurd h (Nat.not_lt_zero _)⟩
    case round =>
      obtain ⟨j, q, hj, rfl, rfl, hs⟩ := hrel
      by_cases hlt : j < xs.length
      · have hlt2 : j < ys.length := by omega
        obtain ⟨b, o, rfl, p0⟩ := H1.out.get j hlt
        obtain ⟨b', o', rfl, q0⟩ := H2.out.get j hlt2
        obtain ⟨x, hx⟩ : ∃ x, xs[j] = x := ⟨_, rfl⟩
        obtain ⟨y, hy⟩ : ∃ y, ys[j] = y := ⟨_, rfl⟩
        rw [hx] at p0
        rw [hy] at q0
        have HX := hideP hx
        have HY := hideP hy
        clear hx hy
        by_cases hxy : x = y
        · subst hxy
          go_wp2
          go_region
          all_goals
            go_wp2
            go_roundw
            case rel =>
              refine ⟨j + 1, q + 1, by omega, by go_num, rfl, fun k hk hk' hkj => ?_⟩
              by_cases e : k = j
              · subst e; rw [HX.out, HY.out]
              · exact hs.out k hk hk' (by omega)
            case measure => simp [intOf]; omega
        · have E : Hid ((xs == ys) = false) := beq_at hlt hlt2 (by rw [HX.out, HY.out]; exact hxy)
          go_wp2
          go_region
          all_goals
            go_wp2
            go_ret
            exact ⟨ret_bool E.out.symm, q + 1, rfl⟩
      · have E : Hid ((xs == ys) = true) := beq_same hne fun i hi hi' => hs.out i hi hi' (by omega)
        go_wp2
        go_ret
        exact ⟨ret_bool E.out.symm, q, rfl⟩
  · rw [beq_len hne]
    have hne' : ¬ (xs.length : Int) = (ys.length : Int) := by omega
    clear h1 h2
    go_enter Try.func34, Try.ntmps34
    go_wp2
    go_ret
    exact ⟨rfl, 0, rfl⟩

end Go.Proofs.Ytfoaplihindeaag
