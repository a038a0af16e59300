/- The contract of impl.aheads: for each block those that go to it. -/
import Derived.Test.YtooaoankloocmabCtA
import Derived.Test.YtooaoankloocmabSetAll
import Derived.Test.YtooaoankloocmabLopP
namespace Go.Proofs.Ytooaoankloocmab
open Go.ChangeShapes Go.WideShapes Go.ChangeAt Go.RowKit Go.Maps
theorem restN_one {pre : Nat → List Int} {l : List Int} {t : Nat} (hl : l.length = (pre t).length + 1) : ∀ n : Nat, restN (fun u => if u = t then l else pre u) [] n ≤ restN pre [] n + 1 ∧ (n ≤ t → restN (fun u => if u = t then l else pre u) [] n = restN pre [] n)
  | 0 => by simp [restN]
  | n + 1 => by
    have ih := restN_one hl n
    simp only [restN, List.not_mem_nil, if_false]
    by_cases e : n = t
    · subst e
      rw [if_pos rfl, hl]
      have := ih.2 (Nat.le_refl _)
      exact ⟨by omega, fun h => by omega⟩
    · rw [if_neg e]
      exact ⟨by have := ih.1; omega, fun h => by have := ih.2 (by omega); omega⟩
theorem restN_nil (n : Nat) : restN (fun _ => []) [] n = 0 := by
  induction n with
  | zero => rfl
  | succ n ih => simp [restN, ih]
/-- Which of the first j blocks go where, and r steps of block j. -/
def AhM (xs : List Blk) (j : Nat) (nx : List Int) (r : Nat) (pre : Nat → List Int) : Prop := ∀ t, t < xs.length → ∀ i : Int, i ∈ pre t ↔ (∃ k : Nat, i = (k : Int) ∧ k < j ∧ (t : Int) ∈ nxt xs (k : Int)) ∨ (i = (j : Int) ∧ (t : Int) ∈ nx.take r)
section
variable {xs : List Blk} {j r : Nat} {nx nx' : List Int} {pre : Nat → List Int}
theorem AhM.enter (h : AhM xs j nx 0 pre) : AhM xs j nx' 0 pre := fun t ht i => by rw [h t ht]; simp
theorem AhM.out (e : nxt xs (j : Int) = nx) (h : AhM xs j nx nx.length pre) : AhM xs (j + 1) nx' 0 pre := fun t ht i => by
  rw [h t ht, List.take_length]
  constructor
  · rintro (⟨k, h1, h2, h3⟩ | ⟨h1, h2⟩)
    · exact Or.inl ⟨k, h1, by omega, h3⟩
    · exact Or.inl ⟨j, h1, by omega, e ▸ h2⟩
  · rintro (⟨k, h1, h2, h3⟩ | ⟨_, h2⟩)
    · by_cases e2 : k < j
      · exact Or.inl ⟨k, h1, e2, h3⟩
      · have : k = j := by omega
        subst this
        exact Or.inr ⟨h1, e ▸ h3⟩
    · simp at h2
theorem AhM.add {t : Nat} (hr : r < nx.length) (ht : nx[r] = (t : Int)) (h : AhM xs j nx r pre) : AhM xs j nx (r + 1) (fun u => if u = t then pre t ++ [(j : Int)] else pre u) := fun u hu i => by
  rw [List.take_succ_eq_append_getElem hr, ht]
  by_cases e : u = t
  · subst e
    simp only [if_pos, List.mem_append, List.mem_singleton, h u hu]
    constructor
    · rintro ((h1 | ⟨h1, h2⟩) | h1)
      · exact Or.inl h1
      · exact Or.inr ⟨h1, Or.inl h2⟩
      · exact Or.inr ⟨h1, Or.inr trivial⟩
    · rintro (h1 | ⟨h1, h2 | _⟩)
      · exact Or.inl (Or.inl h1)
      · exact Or.inl (Or.inr ⟨h1, h2⟩)
      · exact Or.inr h1
  · have e2 : ¬ (u : Int) = (t : Int) := by omega
    simp only [if_neg e, List.mem_append, List.mem_singleton, h u hu, e2, or_false]
end
def AhdMade (w : World) (xs : List Blk) (e : Ending) (w' : World) : Prop := ∃ ga av pre, e = .returned (.slice (some ⟨ga, 0, none⟩) xs.length xs.length) ∧ AhAt w.heap.size xs.length ga av pre w' ∧ (∀ t, t < xs.length → ∀ y, y ∈ pre t ↔ y ∈ prdL xs t) ∧ restN pre [] xs.length ≤ 600 ∧ w.heap.size ≤ ga ∧ Below w.heap.size w w'
theorem AhAt.appM2 {lo n ga : Nat} {av : Nat → Value} {pre : Nat → List Int} {W W1 W2 : World} (h : AhAt lo n ga av pre W) {t : Nat} (ht : t < n) (b1 : Below W.heap.size W W1) (hg : W1.grownBy W2 (av t).ownBlock) : W2.cell? ⟨ga, t, none⟩ = some (av t) ∧ W2.frozen? ⟨ga, t, none⟩ = false := by
  have h1 := h.stays b1
  obtain ⟨cur, r1, _, r3⟩ := h1.row
  have r1' : W2.heap[ga]? = some (.cells cur 22 (0, 0)) := (hg.block _ (hltP r1) (fun e => by
    obtain ⟨_, _, c2, hc2⟩ := (h1.own t ht).low ga e.symm
    rw [r1] at hc2
    injection hc2 with hc2
    injection hc2 with _ e2
    exact absurd e2 (by decide))).trans r1
  exact ⟨by simp only [World.cell?, r1']; exact r3 t ht, (cells_of r1').2 t⟩
theorem restN_row {pre : Nat → List Int} {t : Nat} : ∀ {n : Nat}, t < n → (pre t).length ≤ restN pre [] n
  | 0, h => absurd h (Nat.not_lt_zero _)
  | n + 1, h => by
    simp only [restN, List.not_mem_nil, if_false]
    by_cases e : t = n
    · subst e; omega
    · have := restN_row (pre := pre) (n := n) (t := t) (by omega); omega
set_option maxRecDepth 100000 in
set_option maxHeartbeats 8000000 in
theorem aheads_any (x : Gr) (w : World) (B : Nat) (v : Array Value) (h : GrIs w B v x) (hok : grOk x = true) :
    Calls Try.prog 27 #[.agg v] w fun e w' => AhdMade w x.blocks e w' := by
  have hn := (grOk_blocks hok).2
  have HALL := hideP (allIn_of hok)
  obtain ⟨sizes, p, q, r, blocks⟩ := x
  obtain ⟨us, cs, ub, cb, rfl, _, _, hbb⟩ := h
  simp only at *
  have HBB := hideP hbb
  have AL := hideP (below2 w (.cells #[.slice us sizes.length cs, .int .i64 p, .int .i64 q, .int .i64 r, .slice ub blocks.length cb] 30) (.cells (madeCells #[.slice none 0 0] blocks.length) 22))
  have A0 : Hid (AhAt w.heap.size blocks.length (w.heap.size + 1) (fun _ => .slice none 0 0) (fun _ => []) ((w.alloc (.cells #[.slice us sizes.length cs, .int .i64 p, .int .i64 q, .int .i64 r, .slice ub blocks.length cb] 30)).alloc (.cells (madeCells #[.slice none 0 0] blocks.length) 22))) := by
    have := ahAt_made (w.alloc (.cells #[.slice us sizes.length cs, .int .i64 p, .int .i64 q, .int .i64 r, .slice ub blocks.length cb] 30)) blocks.length w.heap.size
    show AhAt _ _ _ _ _ _
    simpa using this
  have hm1 := make_ints blocks.length (by omega)
  have GOAL : Hid (∀ ga av pre w', AhAt w.heap.size blocks.length ga av pre w' → AhM blocks blocks.length [] 0 pre → restN pre [] blocks.length ≤ 600 → w.heap.size ≤ ga → Below w.heap.size w w' → AhdMade w blocks (.returned (.slice (some ⟨ga, 0, none⟩) blocks.length blocks.length)) w') := fun ga av pre w' h1 h2 h3 h4 h5 => ⟨ga, av, pre, rfl, h1, fun t ht y => by rw [h2 t ht, prdL_mem]; simp, h3, h4, h5⟩
  obtain ⟨n, hnn⟩ : ∃ n, blocks.length = n := ⟨_, rfl⟩
  have HNN := hideP hnn
  rw [hnn] at hn hm1 AL A0 GOAL ⊢
  clear hbb hnn hok
  go_enter Try.func27, Try.ntmps27
  go_wp2
  go_loopg [15] n (fun gk ix wr => ∃ (j : Nat) (av : Nat → Value) (pre : Nat → List Int), gk + j = n ∧ ix = .int .i64 j ∧ Hid (AhAt w.heap.size n (w.heap.size + 1) av pre wr) ∧ Hid (AhM blocks j [] 0 pre) ∧ Hid (restN pre [] n ≤ 2 * j) ∧ Hid (Below w.heap.size w wr))
  case atStart => exact ⟨0, fun _ => .slice none 0 0, fun _ => [], by simp, rfl, A0.out, fun t _ i => by simp, by show _ ≤ _; rw [restN_nil]; exact Nat.zero_le _, AL.out⟩
  case round =>
    obtain ⟨j, av, pre, hj, rfl, hA, hM, hS, hE⟩ := hrel
    clear A0 AL hm1
    by_cases hlt : j < n
    · have hjb : j < blocks.length := by rw [HNN.out]; exact hlt
      obtain ⟨bb, oo, code, jump, a, t0, els, uc, kc, hub, _, hbl, he, q0, q1, q2, q3, q4, hbk⟩ := Blk_get HBB.out j hjb
      subst hub
      have q0 := (hE.out.cell (p := ⟨bb, _, none⟩) hbl).trans q0
      have q1 := (hE.out.cell (p := ⟨bb, _, none⟩) hbl).trans q1
      have q2 := (hE.out.cell (p := ⟨bb, _, none⟩) hbl).trans q2
      have q3 := (hE.out.cell (p := ⟨bb, _, none⟩) hbl).trans q3
      have q4 := (hE.out.cell (p := ⟨bb, _, none⟩) hbl).trans q4
      have al := (Below.refl wr.heap.size wr).alloc (Nat.le_refl _) (.cells #[.slice uc code.length kc, .int .i64 jump, .int .i64 a, .int .i64 t0, .int .i64 els] 69)
      have A1 := hideP (hA.out.stays al)
      have E1 := hideP (below_trans hE.out al)
      have NX := hideP (impl_next ⟨code, jump, a, t0, els⟩ _ B _ (BlkKeeps.stays hbk E1.out))
      have PN := hideP (preN_get hjb)
      rw [he] at PN
      obtain ⟨nx, hnx⟩ : ∃ nx, nextP ⟨code, jump, a, t0, els⟩ = nx := ⟨_, rfl⟩
      have hnl : nx.length ≤ 2 := by rw [← hnx]; exact nextP_len _
      rw [hnx] at NX PN
      have PN2 : Hid (nxt blocks (j : Int) = nx) := PN.out
      have DIN : Hid (∀ x ∈ nx, ∃ t : Nat, x = (t : Int) ∧ t < n) := fun x hx => by
        rw [← PN2.out] at hx
        obtain ⟨h1, h2⟩ := nxt_in HALL.out _ x hx
        rw [HNN.out] at h2
        exact ⟨x.toNat, by omega, by omega⟩
      clear al hA hE he hbk hnx
      go_wp2_with fail
      refine NX.out.mono ?_
      rintro e7 w7 ⟨v7, rfl, o7, b7⟩
      obtain ⟨gn, cn, hv7, _⟩ := id o7
      subst hv7
      have A7 := hideP (A1.out.stays b7)
      have E7 := hideP (below_trans E1.out b7)
      have M7 := hideP (hM.out.enter (nx' := nx))
      have S7 : Hid (restN pre [] n ≤ 2 * j + 0) := hS.out
      have G7 : Hid (∀ t, t < n → (av t).ownBlock ≠ some gn) := fun t ht e => by have := ((A1.out.own t ht).low gn e).2.1; have := (o7.low gn rfl).1; omega
      have O7 := hideP (o7.mono (Nat.zero_le _))
      clear o7 b7 NX A1 E1 hM hS PN
      go_wp2
      go_loopg [23] nx.length (fun gk2 ix wr => ∃ (r : Nat) (av : Nat → Value) (pre : Nat → List Int), gk2 + r = nx.length ∧ ix = .int .i64 r ∧ Hid (AhAt w.heap.size n (w.heap.size + 1) av pre wr) ∧ Hid (AhM blocks j nx r pre) ∧ Hid (restN pre [] n ≤ 2 * j + r) ∧ Hid (∀ t, t < n → (av t).ownBlock ≠ some gn) ∧ Hid (OwnI wr 0 (.slice (some ⟨gn, 0, none⟩) nx.length cn) nx) ∧ Hid (Below w.heap.size w wr))
      case atStart => exact ⟨0, av, pre, by simp, rfl, A7.out, M7.out, S7.out, G7.out, O7.out, E7.out⟩
      case round =>
        obtain ⟨r, av, pre, hr, rfl, hA, hM, hS, hG, hO, hE⟩ := hrel
        clear A7 M7 S7 G7 O7 E7
        by_cases hrl : r < nx.length
        · obtain ⟨x, hx⟩ : ∃ x, nx[r] = x := ⟨_, rfl⟩
          obtain ⟨t, ht, htn⟩ := DIN.out x (hx ▸ List.getElem_mem hrl)
          subst ht
          have x0 := hO.out.at r hrl
          rw [hx, Nat.zero_add] at x0
          have M2 := hideP (hM.out.add hrl hx)
          have S2 : Hid (restN (fun u => if u = t then pre t ++ [(j : Int)] else pre u) [] n ≤ 2 * j + (r + 1)) := by
            have h1 := (restN_one (pre := pre) (l := pre t ++ [(j : Int)]) (t := t) (by simp) n).1
            have h2 := hS.out
            show _ ≤ _
            omega
          obtain ⟨m4, f4⟩ := hA.out.at htn
          have f4 := f4 t
          have hNum := hA.out.own t htn
          obtain ⟨AV, hAV⟩ : ∃ AV, av t = AV := ⟨_, rfl⟩
          obtain ⟨PR, hPR⟩ : ∃ PR, pre t = PR := ⟨_, rfl⟩
          rw [hAV, hPR] at hNum
          rw [hAV] at m4
          have hPl : PR.length ≤ 1000 := by rw [← hPR]; have := restN_row (pre := pre) htn; have := hS.out; omega
          have al := (Below.refl wr.heap.size wr).alloc (Nat.le_refl _) (.cells #[.int .i64 (j : Int)] 3)
          have NA : Hid (NumN (wr.alloc (.cells #[.int .i64 (j : Int)] 3)) w.heap.size AV PR) := hNum.keep (fun g _ hlt => al.block g hlt)
          have LC : Hid ((wr.alloc (.cells #[.int .i64 (j : Int)] 3)).cell? ⟨wr.heap.size, 0, none⟩ = some (.int .i64 (j : Int))) := (cells_of (newB8 wr (.cells #[.int .i64 (j : Int)] 3))).1 0
          have hlo : w.heap.size ≤ (wr.alloc (.cells #[.int .i64 (j : Int)] 3)).heap.size := Nat.le_trans hE.out.size al.size
          have hgnl := (hO.out.low gn rfl).2
          have APP : Hid (∀ v' w6, OwnI w6 w.heap.size v' (PR ++ [(j : Int)]) → (wr.alloc (.cells #[.int .i64 (j : Int)] 3)).grownBy w6 AV.ownBlock → (v'.ownBlock = AV.ownBlock ∨ v'.ownBlock = some (wr.alloc (.cells #[.int .i64 (j : Int)] 3)).heap.size) → AhAt w.heap.size n (w.heap.size + 1) (fun u => if u = t then v' else av u) (fun u => if u = t then pre t ++ [(j : Int)] else pre u) (w6.setCell ⟨w.heap.size + 1, t, none⟩ v') ∧ Below w.heap.size wr (w6.setCell ⟨w.heap.size + 1, t, none⟩ v') ∧ w6.cell? ⟨w.heap.size + 1, t, none⟩ = some AV ∧ w6.frozen? ⟨w.heap.size + 1, t, none⟩ = false ∧ (∀ u, u < n → (if u = t then v' else av u).ownBlock ≠ some gn) ∧ OwnI (w6.setCell ⟨w.heap.size + 1, t, none⟩ v') 0 (.slice (some ⟨gn, 0, none⟩) nx.length cn) nx) := fun v' w6 o6 g6 l6 => by
            rw [← hAV] at g6 l6
            have := hA.out.appT (W1 := wr.alloc (.cells #[.int .i64 (j : Int)] 3)) (x := (j : Int)) (v' := v') (Nat.le_succ _) hE.out.size htn al (by rw [hPR]; exact o6) g6 l6
            have mm := hA.out.appM2 htn al g6
            refine ⟨this.1, this.2.2, by rw [← hAV]; exact mm.1, mm.2, fun u hu => ?_, ?_⟩
            · by_cases e : u = t
              · subst e
                rw [if_pos rfl]
                rcases l6 with l6 | l6
                · rw [l6]; exact hG.out u hu
                · rw [l6]
                  intro e2
                  injection e2 with e2
                  have := al.size
                  omega
              · rw [if_neg e]; exact hG.out u hu
            · have hb : But (w.heap.size + 1) w6 (w6.setCell ⟨w.heap.size + 1, t, none⟩ v') := (But.refl _ _).set _ _
              have o1 := ((hO.out.stays al).kept g6 (fun e => hG.out t htn e.symm))
              refine o1.butG hb (fun e => ?_)
              obtain ⟨cur, r1, _⟩ := hA.out.row
              obtain ⟨c2, h2⟩ := (OwnI.parts hO.out).elim (fun g' h => h.elim (fun cap' h => h.elim (fun cur' h => (⟨cur', by
                have e1 : g' = gn := by have := h.1; injection this with e1; injection e1 with e1; injection e1 with e1; exact e1.symm
                rw [← e1]; exact h.2.2.1⟩ : ∃ c, wr.heap[gn]? = some (.cells c 3 (0, 0))))))
              have e1 : gn = w.heap.size + 1 := by simpa [Value.ownBlock] using e
              rw [e1, r1] at h2
              injection h2 with h2
              injection h2 with _ e2
              exact absurd e2 (by decide)
          clear al hx hA hO hM hS hG hNum hAV hPR
          go_wp2_with (at_builtin; refine list_appN _ rfl _ _ rfl w.heap.size AV PR (j : Int) wr.heap.size 0 1 rfl rfl NA.out LC.out (by omega) hlo ?_; intro v6 w6 o6 grow6 loc6; obtain ⟨a6, b6, m6, f6, g6, i6⟩ := APP.out v6 w6 o6 grow6 loc6; have A7 := hideP a6; have B7 := hideP (hE.out.trans b6); have G7 := hideP g6; have I7 := hideP i6; obtain ⟨gx, cx, hv6, _⟩ := id o6; rw [List.length_append, List.length_singleton] at hv6; subst hv6; clear o6 grow6 loc6 a6 b6 g6 i6)
          clear APP NA LC hE
          go_roundg (nx.length - (r + 1))
          case rel => exact ⟨r + 1, _, _, by omega, by go_num, A7.out, M2.out, S2.out, G7.out, I7.out, B7.out⟩
          case measure => omega
        · have hrn : r = nx.length := by omega
          subst hrn
          have M2 := hideP (hM.out.out PN2.out (nx' := []))
          have S2 : Hid (restN pre [] n ≤ 2 * (j + 1)) := by have := hS.out; show _ ≤ _; omega
          clear hM hS
          go_wp2
          go_roundg (n - (j + 1))
          case rel => exact ⟨j + 1, av, pre, by omega, by go_num, hA.out, M2.out, S2.out, hE.out⟩
          case measure => omega
    · have hjn : j = n := by omega
      subst hjn
      go_wp2
      go_ret
      exact GOAL.out _ _ _ _ hA.out hM.out (by have := hS.out; omega) (Nat.le_succ _) hE.out
end Go.Proofs.Ytooaoankloocmab
