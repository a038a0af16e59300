/- The contract of impl.Falls. -/
import Derived.Test.YtobpcfelgobedaaRFalP
import Derived.Deep.LoopGhost
namespace Go.Proofs.YtobpcfelgobedaaR
open Go.ChangeShapes Go.WideShapes Go.ChangeAt Go.RowKit
set_option maxHeartbeats 4000000 in
set_option maxRecDepth 100000 in
theorem impl_falls (g : Gr) (w : World) (B : Nat) (v : Array Value) (h : GrIs w B v g) (GO : OkIs 29 g) :
    Calls Try.prog 23 #[.agg v] w fun en w' => en = .returned (.int .i64 (fallsP g)) ∧ Below w.heap.size w w' := by
  have hG := hideP h
  obtain ⟨R, hR⟩ : ∃ R, fallsP g = R := ⟨_, rfl⟩
  rw [hR]
  have HR := hideP hR
  clear hR
  obtain ⟨gok, hgok⟩ : ∃ r, grOk g = r := ⟨_, rfl⟩
  have GO1 : Hid (∀ W A v, GrIs W A v g → Calls Try.prog 29 #[.agg v] W fun en w' => en = .returned (.bool gok) ∧ Below W.heap.size W w') := fun W A v hv => hgok ▸ GO W A v hv
  have HK := hideP hgok
  clear hgok GO
  obtain ⟨sizes, params, vars, slots, blocks⟩ := g
  obtain ⟨us, cs, ub, cb, rfl, _, _, hb⟩ := h
  simp only at *
  have hm := maxLen_lt
  have hlb := hb.1
  have HB := hideP hb
  clear hb
  have BW := hideP ((Below.refl w.heap.size w).alloc (Nat.le_refl _) (.cells #[.slice us sizes.length cs, .int .i64 params, .int .i64 vars, .int .i64 slots, .slice ub blocks.length cb] 30))
  have Q1 : (w.alloc (.cells #[.slice us sizes.length cs, .int .i64 params, .int .i64 vars, .int .i64 slots, .slice ub blocks.length cb] 30)).heap[w.heap.size]? = some (.cells #[.slice us sizes.length cs, .int .i64 params, .int .i64 vars, .int .i64 slots, .slice ub blocks.length cb] 30) := by show (w.heap.push _)[w.heap.size]? = _; exact Array.getElem?_push_size
  have HQ := hideP Q1
  clear Q1
  go_enter Try.func23, Try.ntmps23
  go_wp2_with fail
  refine (GO1.out _ B _ (GrKeeps.stays hG.out BW.out)).mono ?_
  rintro e1 w1 ⟨rfl, bel1⟩
  have BB := hideP (below_trans BW.out bel1)
  have QQ := hideP ((bel1.block w.heap.size (Array.getElem?_eq_some_iff.1 HQ.out).1).trans HQ.out)
  clear bel1 HQ BW GO1
  cases gok with
  | false =>
    have E : Hid (R = -1) := by rw [← HR.out]; exact if_neg (by simp [HK.out])
    go_wp2
    go_ret
    exact ⟨by rw [E.out]; rfl, BB.out⟩
  | true =>
    have E : Hid (R = ((fallN blocks blocks.length : Nat) : Int)) := by rw [← HR.out]; exact if_pos HK.out
    have hbl := grOk_blocks HK.out
    simp only at hbl
    have p4 := (cells_of QQ.out).1 4
    simp at p4
    go_wp2
    clear p4
    go_loopg [3, 12] blocks.length (fun gk n i wr => ∃ j : Nat, gk + j = blocks.length ∧ i = .int .i64 j ∧ n = .int .i64 ((fallN blocks j : Nat) : Int) ∧ Hid (Below w.heap.size w wr))
    case atStart => exact ⟨0, by omega, rfl, rfl, BB.out⟩
    case round =>
      obtain ⟨j, hgk, rfl, rfl, bw⟩ := hrel
      have hle := fallN_le blocks j
      by_cases hlt : j < blocks.length
      · obtain ⟨b, o, x0, x1, x2, x3, x4, ux, kx, rfl, _, hbb, hx, q0, q1, q2, q3, q4, _⟩ := Blk_get (HB.out.stays BlkKeeps bw.out) j hlt
        have BA := hideP (bw.out.alloc bw.out.size (.cells #[.slice ux x0.length kx, .int .i64 x1, .int .i64 x2, .int .i64 x3, .int .i64 x4] 55))
        have YES := hideP (fun hf => fallN_yes hlt hx hf)
        have NO := hideP (fun hf => fallN_no hlt hx hf)
        obtain ⟨n, hn⟩ : ∃ n, fallN blocks j = n := ⟨_, rfl⟩
        rw [hn] at hle YES NO ⊢
        clear hn hx
        by_cases h2 : x1 = 2
        · have e := hideP (NO.out (by simp [fallB, h2]))
          subst h2
          go_wp2
          go_roundg (blocks.length - (j + 1))
          case rel => exact ⟨j + 1, by omega, by go_num, by rw [e.out], BA.out⟩
          case measure => omega
        · by_cases h3 : x3 = (j : Int) + 1
          · have e := hideP (YES.out (by simp [fallB, h2, h3]))
            have h2b : (x1 == 2) = false := by simpa using h2
            subst h3
            go_wp2
            go_roundg (blocks.length - (j + 1))
            case rel => exact ⟨j + 1, by omega, by go_num, by rw [e.out]; go_num, BA.out⟩
            case measure => omega
          · have e := hideP (NO.out (by simp [fallB, h2, h3]))
            have h2b : (x1 == 2) = false := by simpa using h2
            have h3b : (x3 == (j : Int) + 1) = false := by simpa using h3
            go_wp2
            go_roundg (blocks.length - (j + 1))
            case rel => exact ⟨j + 1, by omega, by go_num, by rw [e.out], BA.out⟩
            case measure => omega
      · have hjn : j = blocks.length := by omega
        subst hjn
        go_wp2
        go_ret
        exact ⟨by rw [E.out]; rfl, bw.out⟩
end Go.Proofs.YtobpcfelgobedaaR
