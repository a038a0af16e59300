/- The contract of spec.l11Find. -/
import Derived.Test.YtjmclmbepnbeoaaTwcP
import Derived.Test.YtjmclmbepnbeoaaOwnA
import Derived.Test.YtjmclmbepnbeoaaRowA
import Derived.BigQuiet
import Derived.Deep.LoopGhost
import Derived.Deep.CutRange
namespace Go.Proofs.Ytjmclmbepnbeoaa
open Go.ChangeShapes Go.WideShapes Go.ChangeAt Go.RowKit
theorem txt_ne {t u : ByteArray} (h : ¬ t = u) : (t.toList == u.toList) = false := by
  rw [beq_eq_false_iff_ne]
  intro e
  rw [Lib.toList_data, Lib.toList_data] at e
  exact h (ByteArray.ext (Array.ext' e))
/-- Where the last step that reckons the same stands. -/
def FindIs (L : List Ins) (x : Ins) (i : Int) : Prop := (i = -1 ∧ findL L x = none) ∨ ∃ k : Nat, ∃ hk : k < L.length, i = (k : Int) ∧ findL L x = some L[k]
/-- An element's cells, by name. -/
theorem own_ins {w : World} {B g n cap : Nat} {L : List Ins} (h : OwnE InE w B (.slice (some ⟨g, 0, none⟩) n cap) L) (k : Nat) (hk : k < L.length) : ∃ op d a b c m t, L[k] = ⟨op, d, a, b, c, m, t⟩ ∧ w.cell? ⟨g, k * 7, none⟩ = some (.int .i64 op) ∧ w.cell? ⟨g, k * 7 + 1, none⟩ = some (.int .i64 d) ∧ w.cell? ⟨g, k * 7 + 2, none⟩ = some (.int .i64 a) ∧ w.cell? ⟨g, k * 7 + 3, none⟩ = some (.int .i64 b) ∧ w.cell? ⟨g, k * 7 + 4, none⟩ = some (.int .i64 c) ∧ w.cell? ⟨g, k * 7 + 5, none⟩ = some (.int .i64 m) ∧ w.cell? ⟨g, k * 7 + 6, none⟩ = some (.string t) := by
  have hc := h.at InOk k hk
  obtain ⟨z, hz⟩ : ∃ z, L[k] = z := ⟨_, rfl⟩
  rw [hz] at hc
  obtain ⟨op, d, a, b, c, m, t⟩ := z
  have e : ∀ r, r < 7 → w.cell? ⟨g, k * 7 + r, none⟩ = (InE.cs ⟨op, d, a, b, c, m, t⟩)[r]? := fun r hr => by
    have := hc r hr
    rw [show InE.sz = 7 from rfl, Nat.zero_add] at this
    exact this
  exact ⟨op, d, a, b, c, m, t, hz, e 0 (by omega), e 1 (by omega), e 2 (by omega), e 3 (by omega), e 4 (by omega), e 5 (by omega), e 6 (by omega)⟩
set_option maxRecDepth 100000 in
set_option maxHeartbeats 4000000 in
theorem find11_any (L : List Ins) (x : Ins) (w : World) (B g cap : Nat) (h : OwnE InE w B (.slice (some ⟨g, 0, none⟩) L.length cap) L) (hl : L.length ≤ 1000) :
    Calls Try.prog 88 #[.slice (some ⟨g, 0, none⟩) L.length cap, .agg (insV x)] w fun e w' => ∃ i : Int, e = .returned (.int .i64 i) ∧ FindIs L x i ∧ Below w.heap.size w w' := by
  obtain ⟨op, d, a, b, c, m, t⟩ := x
  simp only [insV]
  have H := hideP h
  have al := (Below.refl w.heap.size w).alloc (Nat.le_refl _) (.cells #[.int .i64 op, .int .i64 d, .int .i64 a, .int .i64 b, .int .i64 c, .int .i64 m, .string t] 48)
  have X := hideP (heap_alloc_new w (.cells #[.int .i64 op, .int .i64 d, .int .i64 a, .int .i64 b, .int .i64 c, .int .i64 m, .string t] 48))
  have AL := hideP al
  clear h al
  go_enter Try.func88, Try.ntmps88
  go_wp2
  obtain ⟨w1, hw1⟩ : ∃ w1, w.alloc (.cells #[.int .i64 op, .int .i64 d, .int .i64 a, .int .i64 b, .int .i64 c, .int .i64 m, .string t] 48) = w1 := ⟨_, rfl⟩
  obtain ⟨bx, hbx⟩ : ∃ bx, w.heap.size = bx := ⟨_, rfl⟩
  rw [hw1] at X AL ⊢
  rw [hbx] at X ⊢
  have HBX := hideP hbx
  clear hw1 hbx
  go_loopg [5] (L.length + 1) (fun gk ix wr => ∃ (k : Nat) (i : Int), gk = k + 1 ∧ k ≤ L.length ∧ ix = .int .i64 i ∧ i = (k : Int) - 1 ∧ Hid (∀ j (hj : j < L.length), k ≤ j → ¬ Alike ⟨op, d, a, b, c, m, t⟩ L[j]) ∧ Hid (Below w1.heap.size w1 wr))
  case atStart => exact ⟨L.length, _, rfl, Nat.le_refl _, rfl, by go_num, fun j hj h => absurd hj (by omega), Below.refl _ _⟩
  case round =>
    obtain ⟨k, i, rfl, hk, rfl, hi, hno, hbel⟩ := hrel
    cases k with
    | zero =>
      have hi0 : i = -1 := by omega
      subst hi0
      clear hi
      go_wp2
      go_ret
      exact ⟨-1, rfl, Or.inl ⟨rfl, find_none (fun y hy => by obtain ⟨j, hj, rfl⟩ := List.getElem_of_mem hy; exact hno.out j hj (Nat.zero_le _))⟩, HBX.out ▸ (below_trans AL.out hbel.out)⟩
    | succ k =>
      have hi0 : i = (k : Int) := by omega
      subst hi0
      clear hi
      have hkl : k < L.length := hk
      obtain ⟨op1, d1, a1, b1, c1, m1, t1, hz, q0, q1, q2, q3, q4, q5, q6⟩ := own_ins (H.out.stays (below_trans AL.out hbel.out)) k hkl
      have HZ := hideP hz
      have xc := (cells_of ((hbel.out.block bx (Array.getElem?_eq_some_iff.1 X.out).1).trans X.out)).1
      have x2 := xc 2
      have x3 := xc 3
      have x6 := xc 6
      simp at x2 x3 x6
      have HBE := hideP hbel.out.drew
      have ix0 : (0 : Int) ≤ (k : Int) := by omega
      have ix1 : (k : Int) < (L.length : Int) := by omega
      clear xc hz q0 q1 q4 q5
      have DR : Hid (∀ n, Below w1.heap.size w1 (wr.drewN n)) := fun n => below_trans hbel.out ⟨rfl, rfl, rfl, Nat.le_refl _, fun _ _ => rfl⟩
      have NX : Hid ((¬ (t1 = t ∧ a1 = a ∧ b1 = b)) → ∀ j (hj : j < L.length), k ≤ j → ¬ Alike ⟨op, d, a, b, c, m, t⟩ L[j]) := fun hne j hj hkj => by
        by_cases e : j = k
        · subst e
          rw [HZ.out]
          exact hne
        · exact hno.out j hj (by omega)
      by_cases e1 : t1 = t
      · by_cases e2 : a1 = a
        · by_cases e3 : b1 = b
          · have FD := hideP (find_at hkl (fun j hj hkj => hno.out j hj (by omega)) (by rw [HZ.out]; exact ⟨e1, e2, e3⟩))
            subst e1 e2 e3
            clear NX
            go_upto_region 4 with fail
            go_quiet (fail)
            go_wp2
            go_ret
            exact ⟨k, rfl, Or.inr ⟨k, hkl, rfl, FD.out⟩, HBX.out ▸ (below_trans AL.out (DR.out nq))⟩
          · have NO := hideP (NX.out (fun h => e3 h.2.2))
            subst e1 e2
            have e3b : (b1 == b) = false := by simpa using e3
            clear NX
            go_upto_region 4 with fail
            go_quiet (fail)
            go_wp2
            go_roundg (k + 1)
            case rel => exact ⟨k, (k : Int) - 1, rfl, by omega, by go_num, rfl, NO.out, DR.out nq⟩
            case measure => omega
        · have NO := hideP (NX.out (fun h => e2 h.2.1))
          subst e1
          have e2b : (a1 == a) = false := by simpa using e2
          clear NX
          go_upto_region 4 with fail
          go_quiet (fail)
          go_wp2
          go_roundg (k + 1)
          case rel => exact ⟨k, (k : Int) - 1, rfl, by omega, by go_num, rfl, NO.out, DR.out nq⟩
          case measure => omega
      · have NO := hideP (NX.out (fun h => e1 h.1))
        have e1b := txt_ne e1
        clear NX
        go_upto_region 4 with fail
        go_quiet (fail)
        go_wp2
        go_roundg (k + 1)
        case rel => exact ⟨k, (k : Int) - 1, rfl, by omega, by go_num, rfl, NO.out, DR.out nq⟩
        case measure => omega
end Go.Proofs.Ytjmclmbepnbeoaa
