/- The contract of spec.l16Best. -/
import Derived.Test.YtobpcfelgobedaaRChaP
import Derived.Test.YtobpcfelgobedaaRTruR
import Derived.Test.YtobpcfelgobedaaRNextS
import Derived.Deep.LoopGhost
import Derived.Deep.QuietTactic
import Derived.Deep.CutRange
import Derived.BigQuiet
namespace Go.Proofs.YtobpcfelgobedaaR
open Go.ChangeShapes Go.WideShapes Go.ChangeAt Go.RowKit
theorem own_at {w : World} {B g n cap : Nat} {l : List Int} (h : OwnI w B (.slice (some ⟨g, 0, none⟩) n cap) l) (j : Nat) (hj : j < l.length) : w.cell? ⟨g, j, none⟩ = some (.int .i64 l[j]) := by
  obtain ⟨g', cap', cur, hv, _, hh, _, _, _, hx⟩ := h.parts
  injection hv with e1
  injection e1 with e1
  injection e1 with e1
  subst e1
  simp only [World.cell?, hh]
  exact hx j hj
set_option maxHeartbeats 8000000 in
set_option maxRecDepth 100000 in
theorem best_any (g : Gr) (C D : List Int) (i : Nat) (w : World) (B B2 gs : Nat) (gv : Array Value) (uc : Option Addr) (kc : Nat) (h : GrIs w B gv g) (hg : grOk g = true)
    (hT : TruIs w gs g.blocks.length (fun k => decide ((k : Int) ∈ D))) (hC : IntsIs w B2 uc C) (hl : C.length = g.blocks.length) (hi : i < g.blocks.length) :
    Calls Try.prog 38 #[.agg gv, .int .i64 (i : Int), .slice uc C.length kc, .slice (some ⟨gs, 0, none⟩) g.blocks.length g.blocks.length] w fun e w' => e = .returned (.int .i64 (nextC g.blocks C D (i : Int))) ∧ Below w.heap.size w w' := by
  have hbl := grOk_blocks hg
  have AI := hideP (allIn_of hg)
  have BOR := hideP (behC_or hg C D (i : Int))
  obtain ⟨sizes, params, vars, slots, blocks⟩ := g
  obtain ⟨us, cs, ub, cb, rfl, _, _, hb⟩ := h
  simp only at *
  have hm := maxLen_lt
  have HC := hideP hC
  have HT := hideP hT
  have HLN := hideP hl
  have BW := hideP ((Below.refl w.heap.size w).alloc (Nat.le_refl _) (.cells #[.slice us sizes.length cs, .int .i64 params, .int .i64 vars, .int .i64 slots, .slice ub blocks.length cb] 30))
  have Q1 : (w.alloc (.cells #[.slice us sizes.length cs, .int .i64 params, .int .i64 vars, .int .i64 slots, .slice ub blocks.length cb] 30)).heap[w.heap.size]? = some (.cells #[.slice us sizes.length cs, .int .i64 params, .int .i64 vars, .int .i64 slots, .slice ub blocks.length cb] 30) := by show (w.heap.push _)[w.heap.size]? = _; exact Array.getElem?_push_size
  have g4 := (cells_of Q1).1 4
  simp at g4
  obtain ⟨b, o, code, jump, a, t0, els, ucode, ccode, rfl, _, hbb, hx, q0, q1, q2, q3, q4, hbX⟩ := Blk_get (hb.stays BlkKeeps BW.out) i hi
  have NX : Hid (nxt blocks (i : Int) = nextP ⟨code, jump, a, t0, els⟩) := by
    show _ = _
    unfold nxt
    rw [Int.toNat_natCast, List.getElem?_eq_getElem hi, hx]
  have IN : Hid (∀ y ∈ nextP ⟨code, jump, a, t0, els⟩, InQ blocks.length y) := fun y hy => AI.out _ (List.getElem_mem hi) y (by rw [hx]; exact hy)
  have NI := hideP (spec_l05Next _ _ B _ hbX)
  obtain ⟨nx, hnx⟩ : ∃ nx, nextP ⟨code, jump, a, t0, els⟩ = nx := ⟨_, rfl⟩
  have hnl : nx.length ≤ 2 := by rw [← hnx]; exact nextP_len _
  rw [hnx] at NX IN NI
  obtain ⟨R, hR⟩ : ∃ R, nextC blocks C D (i : Int) = R := ⟨_, rfl⟩
  obtain ⟨V, hV⟩ : ∃ V, behC blocks C D (i : Int) = V := ⟨_, rfl⟩
  have HV : Hid (bestU C D nx nx.length = V) := by show _ = _; rw [← hV]; unfold behC; rw [NX.out]
  have HR : Hid ((if V = -1 then leastC blocks.length D else V) = R) := by show _ = _; rw [← hR, ← hV]; rfl
  rw [hV] at BOR
  rw [hR]
  clear hR hV hnx hx hbX hb hC AI NX Q1 hT hl
  go_enter Try.func38, Try.ntmps38
  go_wp2_with fail
  refine NI.out.mono ?_
  rintro e1 w1 ⟨v1, rfl, o1, bel1⟩
  obtain ⟨gn, cn, rfl, _⟩ := id o1
  have O1 := hideP o1
  have B1 := hideP (below_trans BW.out bel1)
  clear o1 bel1 NI g4 q0 q1 q2 q3 q4 BW
  go_wp2
  go_loopg [9, 11] nx.length (fun gk bs ix wr => ∃ k : Nat, gk + k = nx.length ∧ ix = .int .i64 k ∧ bs = .int .i64 (bestU C D nx k) ∧ Hid (Below w1.heap.size w1 wr))
  case atStart => exact ⟨0, by omega, rfl, rfl, Below.refl _ _⟩
  case round =>
    obtain ⟨k, hgk, rfl, rfl, hB⟩ := hrel
    have BW := hideP (below_trans B1.out hB.out)
    by_cases hlt : k < nx.length
    · have x0 := own_at (O1.out.stays hB.out) k hlt
      obtain ⟨t, ht⟩ : ∃ t, nx[k] = t := ⟨_, rfl⟩
      have HQ : Hid (InQ blocks.length t) := IN.out t (by rw [← ht]; exact List.getElem_mem hlt)
      have UP := hideP (bestU_at (C := C) (D := D) hlt ht)
      have OR := hideP (bestU_or (C := C) (D := D) IN.out k)
      rw [ht] at x0
      obtain ⟨bv, hbv⟩ : ∃ bv, bestU C D nx k = bv := ⟨_, rfl⟩
      rw [hbv] at UP OR ⊢
      obtain ⟨tn, rfl⟩ : ∃ tn : Nat, t = (tn : Int) := ⟨t.toNat, by have := HQ.out.1; omega⟩
      have htn : tn < blocks.length := by have := HQ.out.2; omega
      obtain ⟨r0, _⟩ := (HT.out.stays BW.out).at htn
      have DR : Hid (∀ n, Below w1.heap.size w1 (wr.drewN n)) := fun n => below_trans hB.out ⟨rfl, rfl, rfl, Nat.le_refl _, fun _ _ => rfl⟩
      have i0 : (0 : Int) ≤ (tn : Int) := by omega
      have i1 : (tn : Int) < (blocks.length : Int) := by omega
      have j0 : (0 : Int) ≤ (k : Int) := by omega
      have j1 : (k : Int) < (nx.length : Int) := by omega
      clear ht hbv
      by_cases hD : (tn : Int) ∈ D
      · rw [decide_eq_true hD] at r0
        have E := hideP (UP.out.trans (if_neg (fun h => h.1 hD)))
        clear UP OR hD
        go_upto_region 6 with fail
        go_quiet (fail)
        go_wp2
        go_roundg (nx.length - (k + 1))
        case rel => exact ⟨k + 1, by omega, by go_num, by rw [E.out], DR.out nq⟩
        case measure => omega
      · rw [decide_eq_false hD] at r0
        by_cases h1 : bv = -1
        · have E := hideP (UP.out.trans (if_pos ⟨hD, Or.inl h1⟩))
          subst h1
          clear UP OR hD
          go_upto_region 6 with fail
          go_quiet (fail)
          go_wp2
          go_roundg (nx.length - (k + 1))
          case rel => exact ⟨k + 1, by omega, by go_num, by rw [E.out], DR.out nq⟩
          case measure => omega
        · obtain ⟨hbq, _⟩ := OR.out.resolve_left h1
          obtain ⟨bn, rfl⟩ : ∃ bn : Nat, bv = (bn : Int) := ⟨bv.toNat, by have := hbq.1; omega⟩
          have hbn : bn < blocks.length := by have := hbq.2; omega
          have hl := HLN.out
          obtain ⟨b2, o2, he2, _, hb2, c2⟩ := (HC.out.stays BW.out).get tn (by omega)
          obtain ⟨b3, o3, he3, _, hb3, c3⟩ := (HC.out.stays BW.out).get bn (by omega)
          obtain ⟨rfl, rfl⟩ : b3 = b2 ∧ o3 = o2 := by rw [he2] at he3; simpa using he3.symm
          subst he2
          have e1 : cntC C (tn : Int) = C[tn]'(by omega) := by simp [cntC, show tn < C.length by omega]
          have e2 : cntC C (bn : Int) = C[bn]'(by omega) := by simp [cntC, show bn < C.length by omega]
          obtain ⟨ct, hct⟩ : ∃ ct, C[tn]'(by omega) = ct := ⟨_, rfl⟩
          obtain ⟨cb', hcb'⟩ : ∃ cb', C[bn]'(by omega) = cb' := ⟨_, rfl⟩
          rw [e1, e2, hct, hcb'] at UP
          rw [hct] at c2
          rw [hcb'] at c3
          have i2 : (0 : Int) ≤ (bn : Int) := by omega
          have i3 : (bn : Int) < (C.length : Int) := by omega
          have i4 : (tn : Int) < (C.length : Int) := by omega
          have i5 : ¬ (bn : Int) < 0 := by omega
          have d5 : decide ((bn : Int) < 0) = false := decide_eq_false i5
          clear hct hcb' e1 e2 he3 hbq hl
          by_cases hgt : cb' < ct
          · have E := hideP (UP.out.trans (if_pos ⟨hD, Or.inr hgt⟩))
            have d6 : decide (cb' < ct) = true := decide_eq_true hgt
            clear UP OR hD
            go_upto_region 6 with fail
            go_quiet (fail)
            go_wp2
            go_roundg (nx.length - (k + 1))
            case rel => exact ⟨k + 1, by omega, by go_num, by rw [E.out], DR.out nq⟩
            case measure => omega
          · have E := hideP (UP.out.trans (if_neg (fun h => h.2.elim (fun e => h1 e) hgt)))
            have d6 : decide (cb' < ct) = false := decide_eq_false hgt
            clear UP OR hD
            go_upto_region 6 with fail
            go_quiet (fail)
            go_wp2
            go_roundg (nx.length - (k + 1))
            case rel => exact ⟨k + 1, by omega, by go_num, by rw [E.out], DR.out nq⟩
            case measure => omega
    · have hkn : k = nx.length := by omega
      subst hkn
      rw [HV.out]
      clear hlt hgk
      by_cases hV : V = -1
      case neg =>
        have hV0 : (0 : Int) ≤ V := by have := BOR.out.resolve_left hV; exact this.1.1
        have E : Hid (V = R) := by show _ = _; rw [← HR.out, if_neg hV]
        go_wp2
        go_ret
        exact ⟨by rw [← E.out]; rfl, BW.out⟩
      case pos =>
        have E : Hid (leastC blocks.length D = R) := by show _ = _; rw [← HR.out, if_pos hV]
        subst hV
        go_wp2
        go_loopg [12] blocks.length (fun gk ix wq => ∃ k : Nat, gk + k = blocks.length ∧ ix = .int .i64 k ∧ wq = wr ∧ Hid (∀ j : Nat, j < k → (j : Int) ∈ D))
        case atStart => exact ⟨0, by omega, rfl, rfl, fun j hj => by omega⟩
        case round =>
          obtain ⟨k, hgk, rfl, rfl, hall⟩ := hrel
          by_cases hlt : k < blocks.length
          · obtain ⟨r0, _⟩ := (HT.out.stays BW.out).at hlt
            by_cases hD : (k : Int) ∈ D
            · rw [decide_eq_true hD] at r0
              have hall2 : Hid (∀ j : Nat, j < k + 1 → (j : Int) ∈ D) := fun j hj => by
                by_cases e : j = k
                · subst e; exact hD
                · exact hall.out j (by omega)
              clear hD hall
              go_wp2
              go_roundg (blocks.length - (k + 1))
              case rel => exact ⟨k + 1, by omega, by go_num, rfl, hall2.out⟩
              case measure => omega
            · rw [decide_eq_false hD] at r0
              have E2 := hideP (E.out.symm.trans (leastC_eq hlt hall.out hD))
              clear hD hall
              go_wp2
              go_ret
              exact ⟨by rw [E2.out]; rfl, BW.out⟩
          · have hkn : k = blocks.length := by omega
            subst hkn
            have E2 := hideP (E.out.symm.trans (leastC_none hall.out))
            clear hall
            go_wp2
            go_ret
            exact ⟨by rw [E2.out]; rfl, BW.out⟩
end Go.Proofs.YtobpcfelgobedaaR
