/- The contracts of spec.l07Drop, l07Know, l07Stored and l07Def (written by wip/mkfwds.py). -/
import Derived.Test.YtljeahjcfbcbgaaFwdPA
import Derived.Test.YtljeahjcfbcbgaaOwnG
import Derived.Test.YtljeahjcfbcbgaaLedAll
import Derived.Deep.CutRange
import Derived.Deep.RegionHeld3
import Derived.Deep.LoopGhost
import Derived.Test.YtljeahjcfbcbgaaAliB
namespace Go.Proofs.Ytljeahjcfbcbgaa
open Go.ChangeShapes Go.WideShapes Go.ChangeAt Go.RowKit
def PaE : Elem Pai := { T := 80, ST := 73, sz := 5, bys := 40, z := .agg #[.int .i64 0, .int .i64 0, .int .i64 0, .int .i64 0, .int .i64 0], cs := fun q => [.int .i64 q.1.r, .int .i64 q.1.i, .int .i64 q.1.j, .int .i64 q.1.off, .int .i64 q.2] }
theorem PaOk : PaE.Ok where
  und := Try.underlying73
  info := by kernel_rfl
  zs := rfl
  pos := by decide
  few := by decide
  len := fun _ => rfl
  one := fun x u hu => by simp [PaE] at hu; rcases hu with rfl | rfl | rfl | rfl | rfl <;> rfl
theorem pai_at {w : World} {B g n cap : Nat} {l : List Pai} (h : OwnE PaE w B (.slice (some ⟨g, 0, none⟩) n cap) l) (j : Nat) (hj : j < l.length) {pr pi pj po c : Int} (he : l[j] = (⟨pr, pi, pj, po⟩, c)) :
    w.cell? ⟨g, j * 5, none⟩ = some (.int .i64 pr) ∧ w.cell? ⟨g, j * 5 + 1, none⟩ = some (.int .i64 pi) ∧ w.cell? ⟨g, j * 5 + 2, none⟩ = some (.int .i64 pj) ∧ w.cell? ⟨g, j * 5 + 3, none⟩ = some (.int .i64 po) ∧ w.cell? ⟨g, j * 5 + 4, none⟩ = some (.int .i64 c) := by
  have h0 := h.at PaOk j hj 0 (by decide)
  have h1 := h.at PaOk j hj 1 (by decide)
  have h2 := h.at PaOk j hj 2 (by decide)
  have h3 := h.at PaOk j hj 3 (by decide)
  have h4 := h.at PaOk j hj 4 (by decide)
  rw [he] at h0 h1 h2 h3 h4
  simp [PaE] at h0 h1 h2 h3 h4
  exact ⟨h0, h1, h2, h3, h4⟩
theorem filt_take {f : Pai → Bool} {l : List Pai} {j : Nat} (h : j < l.length) : (l.take (j + 1)).filter f = (l.take j).filter f ++ (if f l[j] = true then [l[j]] else []) := by
  rw [List.take_succ_eq_append_getElem h, List.filter_append]
  by_cases e : f l[j] = true
  · simp [e]
  · simp [e]
theorem know_hit {l : List Pai} {p : Pla} {j : Nat} (h : j < l.length) (hn : ∀ k (hk : k < l.length), k < j → aliasP (l[k]).1 p ≠ 2) (ha : aliasP (l[j]).1 p = 2) : knowF l p = (l[j]).2 := by
  unfold knowF
  have e : l = l.take j ++ (l[j] :: l.drop (j + 1)) := by rw [← List.drop_eq_getElem_cons h, List.take_append_drop]
  have h0 : (l.take j).find? (fun q => decide (aliasP q.1 p = 2)) = none := List.find?_eq_none.2 (fun q hq => by
    obtain ⟨k, hk, rfl⟩ := List.getElem_of_mem hq
    simp at hk
    rw [List.getElem_take]
    simpa using hn k (by omega) (by omega))
  have : l.find? (fun q => decide (aliasP q.1 p = 2)) = some l[j] := by
    rw [congrArg (List.find? (fun q : Pai => decide (aliasP q.1 p = 2))) e, List.find?_append, h0, Option.none_or, List.find?_cons_of_pos (by simpa using ha)]
  rw [this]
theorem know_miss {l : List Pai} {p : Pla} (hn : ∀ k (hk : k < l.length), aliasP (l[k]).1 p ≠ 2) : knowF l p = -1 := by
  unfold knowF
  rw [List.find?_eq_none.2 (fun q hq => by
    obtain ⟨k, hk, rfl⟩ := List.getElem_of_mem hq
    simpa using hn k hk)]
theorem nilP (w : World) : (w.alloc (.cells #[] 80)).heap.size = w.heap.size + 1 := by simp
set_option maxRecDepth 100000 in
set_option maxHeartbeats 4000000 in
theorem drop_any (l : List Pai) (d : Int) (w : World) (B : Nat) (v : Value) (h : OwnE PaE w B v l) (hl : l.length ≤ 1000000) :
    Calls Try.prog 63 #[v, .int .i64 d] w fun e w' => ∃ v', e = .returned v' ∧ OwnE PaE w' w.heap.size v' (dropF l d) ∧ Below w.heap.size w w' := by
  obtain ⟨g, cap, rfl, _⟩ := id h
  have HO := hideP h
  have O0 := hideP (own_nil PaOk w w.heap.size rfl)
  have B0 := hideP ((Below.refl w.heap.size w).alloc (Nat.le_refl _) (.cells #[] 80))
  obtain ⟨N, hN⟩ : ∃ N, l.length = N := ⟨_, rfl⟩
  have HN := hideP hN
  rw [hN]
  rw [hN] at hl
  clear h hN
  go_enter Try.func63, Try.ntmps63
  go_wp2
  go_loopg [5, 6] N (fun gk q i wr => ∃ j : Nat, gk + j = N ∧ i = .int .i64 j ∧ Hid (OwnE PaE wr w.heap.size q (dropF (l.take j) d)) ∧ Hid (Below w.heap.size w wr))
  case atStart => exact ⟨0, by simp, rfl, O0.out, B0.out⟩
  case round =>
    obtain ⟨j, hj, rfl, ho, hb⟩ := hrel
    by_cases hlt : j < N
    · have hjl : j < l.length := by rw [HN.out]; exact hlt
      obtain ⟨Q, hQ⟩ : ∃ Q, l[j] = Q := ⟨_, rfl⟩
      obtain ⟨⟨pr, pi, pj, po⟩, c⟩ := Q
      obtain ⟨x0, x1, x2, x3, x4⟩ := pai_at (HO.out.stays hb.out) j hjl hQ
      have TK : Hid (dropF (l.take (j + 1)) d = dropF (l.take j) d ++ (if c ≠ d then [((⟨pr, pi, pj, po⟩, c) : Pai)] else [])) := by
        show _ = _
        unfold dropF
        rw [filt_take hjl, hQ]
        simp only [decide_eq_true_eq]
      have hlen : (dropF (l.take j) d).length ≤ 1000000 := Nat.le_trans (List.length_filter_le _ _) (by simp; omega)
      clear O0 B0 hQ
      by_cases hc : c = d
      · have E : Hid (dropF (l.take (j + 1)) d = dropF (l.take j) d) := by show _ = _; rw [TK.out, if_neg (by simpa using hc)]; simp
        subst hc
        go_wp2
        go_roundg (N - (j + 1))
        case rel => exact ⟨j + 1, by omega, by go_num, by rw [E.out]; exact ho.out, hb.out⟩
        case measure => omega
      · have E : Hid (dropF (l.take (j + 1)) d = dropF (l.take j) d ++ [((⟨pr, pi, pj, po⟩, c) : Pai)]) := by show _ = _; rw [TK.out, if_pos hc]
        have hcb : (c == d) = false := by simpa using hc
        obtain ⟨q, hq⟩ : ∃ q, dropF (l.take j) d = q := ⟨_, rfl⟩
        rw [hq] at ho E hlen
        obtain ⟨g5, c5, rfl, _⟩ := id ho.out
        have al := (Below.refl wr.heap.size wr).alloc (Nat.le_refl _) (.cells #[.int .i64 pr, .int .i64 pi, .int .i64 pj, .int .i64 po, .int .i64 c] 80)
        have OA := hideP (ho.out.stays al)
        have BA := hideP (hb.out.alloc hb.out.size (.cells #[.int .i64 pr, .int .i64 pi, .int .i64 pj, .int .i64 po, .int .i64 c] 80))
        have CQ : Hid (∀ r, r < PaE.sz → (wr.alloc (.cells #[.int .i64 pr, .int .i64 pi, .int .i64 pj, .int .i64 po, .int .i64 c] 80)).cell? ⟨wr.heap.size, 0 + r, none⟩ = (PaE.cs ((⟨pr, pi, pj, po⟩, c) : Pai))[r]?) := fun r _ => by
          have := (cells_of (heap_alloc_new wr (.cells #[.int .i64 pr, .int .i64 pi, .int .i64 pj, .int .i64 po, .int .i64 c] 80))).1 r
          rw [Nat.zero_add, this]; simp [PaE]
        have hsz1 : Hid (w.heap.size ≤ (wr.alloc (.cells #[.int .i64 pr, .int .i64 pi, .int .i64 pj, .int .i64 po, .int .i64 c] 80)).heap.size) := BA.out.size
        clear al
        clear hq TK
        go_wp2_with (at_builtin; refine list_appE PaOk _ rfl _ _ rfl w.heap.size _ q (⟨pr, pi, pj, po⟩, c) wr.heap.size 0 1 rfl rfl OA.out CQ.out (by omega) hsz1.out ?_; intro v6 w6 o6 grow6 loc6)
        have B6 := hideP (BA.out.grown grow6 BA.out.size (fun b' hb' => by have := OA.out.low b' hb'; omega))
        obtain ⟨g6, c6, rfl, _⟩ := id o6
        have O6 := hideP o6
        clear o6 grow6 loc6 OA BA CQ
        go_wp2
        go_roundg (N - (j + 1))
        case rel => exact ⟨j + 1, by omega, by go_num, by rw [E.out]; simpa using O6, B6.out⟩
        case measure => omega
    · have hjn : j = N := by omega
      subst hjn
      rw [← HN.out, List.take_length] at ho
      go_wp2
      go_ret
      exact ⟨_, rfl, ho.out, hb.out⟩
set_option maxRecDepth 100000 in
set_option maxHeartbeats 4000000 in
theorem know_any (l : List Pai) (p : Pla) (w : World) (B : Nat) (v : Value) (h : OwnE PaE w B v l) (hl : l.length ≤ 1000000) :
    Calls Try.prog 62 #[v, .agg (plV p)] w fun e w' => e = .returned (.int .i64 (knowF l p)) ∧ Below w.heap.size w w' := by
  obtain ⟨g, cap, rfl, _⟩ := id h
  obtain ⟨ar, ai, aj, ao⟩ := p
  simp only [plV]
  have HO := hideP h
  have hgl := (h.low g rfl).2
  have AL := hideP ((Below.refl w.heap.size w).alloc (Nat.le_refl _) (.cells #[.int .i64 ar, .int .i64 ai, .int .i64 aj, .int .i64 ao] 76))
  have BX : Hid ((w.alloc (.cells #[.int .i64 ar, .int .i64 ai, .int .i64 aj, .int .i64 ao] 76)).heap[w.heap.size]? = some (.cells #[.int .i64 ar, .int .i64 ai, .int .i64 aj, .int .i64 ao] 76 (0, 0))) := by show (w.heap.push _)[w.heap.size]? = _; exact Array.getElem?_push_size
  obtain ⟨N, hN⟩ : ∃ N, l.length = N := ⟨_, rfl⟩
  have HN := hideP hN
  rw [hN]
  rw [hN] at hl
  obtain ⟨R, hR⟩ : ∃ R, knowF l ⟨ar, ai, aj, ao⟩ = R := ⟨_, rfl⟩
  have HR := hideP hR
  rw [hR]
  clear h hN hR
  go_enter Try.func62, Try.ntmps62
  go_wp2
  go_loopg [5] N (fun gk i wr => ∃ j : Nat, gk + j = N ∧ i = .int .i64 j ∧ Hid (∀ k (hk : k < l.length), k < j → aliasP (l[k]).1 ⟨ar, ai, aj, ao⟩ ≠ 2) ∧ Hid (Below w.heap.size w wr) ∧ Hid (wr.heap[w.heap.size]? = some (.cells #[.int .i64 ar, .int .i64 ai, .int .i64 aj, .int .i64 ao] 76 (0, 0))))
  case atStart => exact ⟨0, by simp, rfl, fun k hk h0 => absurd h0 (Nat.not_lt_zero _), AL.out, BX.out⟩
  case round =>
    obtain ⟨j, hj, rfl, hno, hb, hbx⟩ := hrel
    clear AL BX
    by_cases hlt : j < N
    · have hjl : j < l.length := by rw [HN.out]; exact hlt
      obtain ⟨Q, hQ⟩ : ∃ Q, l[j] = Q := ⟨_, rfl⟩
      obtain ⟨⟨pr, pi, pj, po⟩, c⟩ := Q
      have SK : Hid (∀ (W' : World), Below wr.heap.size wr W' → (W'.cell? ⟨g, j * 5, none⟩ = some (.int .i64 pr) ∧ W'.cell? ⟨g, j * 5 + 1, none⟩ = some (.int .i64 pi) ∧ W'.cell? ⟨g, j * 5 + 2, none⟩ = some (.int .i64 pj) ∧ W'.cell? ⟨g, j * 5 + 3, none⟩ = some (.int .i64 po) ∧ W'.cell? ⟨w.heap.size, 0, none⟩ = some (.int .i64 ar) ∧ W'.cell? ⟨w.heap.size, 1, none⟩ = some (.int .i64 ai) ∧ W'.cell? ⟨w.heap.size, 2, none⟩ = some (.int .i64 aj) ∧ W'.cell? ⟨w.heap.size, 3, none⟩ = some (.int .i64 ao)) ∧ W'.cell? ⟨g, j * 5 + 4, none⟩ = some (.int .i64 c)) := fun W' hk => by
        obtain ⟨x0, x1, x2, x3, x4⟩ := pai_at (HO.out.stays (below_trans hb.out hk)) j hjl hQ
        have y := (cells_of ((hk.block _ (Array.getElem?_eq_some_iff.1 hbx.out).1).trans hbx.out)).1
        exact ⟨⟨x0, x1, x2, x3, y 0, y 1, y 2, y 3⟩, x4⟩
      obtain ⟨al, hal⟩ : ∃ al, aliasP ⟨pr, pi, pj, po⟩ ⟨ar, ai, aj, ao⟩ = al := ⟨_, rfl⟩
      have AI : Hid (∀ W, Calls Try.prog 88 #[.agg #[.int .i64 pr, .int .i64 pi, .int .i64 pj, .int .i64 po], .agg #[.int .i64 ar, .int .i64 ai, .int .i64 aj, .int .i64 ao]] W fun e w' => e = .returned (.int .i64 al) ∧ Below W.heap.size W w') := fun W => hal ▸ specAlias_any ⟨pr, pi, pj, po⟩ ⟨ar, ai, aj, ao⟩ W
      have HA : Hid (aliasP (l[j]).1 ⟨ar, ai, aj, ao⟩ = al) := by show _ = _; rw [hQ]; exact hal
      have HQ := hideP hQ
      have S1 : Hid (∀ (W' : World), Below wr.heap.size wr W' → W'.cell? ⟨g, j * 5, none⟩ = some (.int .i64 pr) ∧ W'.cell? ⟨g, j * 5 + 1, none⟩ = some (.int .i64 pi) ∧ W'.cell? ⟨g, j * 5 + 2, none⟩ = some (.int .i64 pj) ∧ W'.cell? ⟨g, j * 5 + 3, none⟩ = some (.int .i64 po) ∧ W'.cell? ⟨w.heap.size, 0, none⟩ = some (.int .i64 ar) ∧ W'.cell? ⟨w.heap.size, 1, none⟩ = some (.int .i64 ai) ∧ W'.cell? ⟨w.heap.size, 2, none⟩ = some (.int .i64 aj) ∧ W'.cell? ⟨w.heap.size, 3, none⟩ = some (.int .i64 ao)) := fun W' hk => (SK.out W' hk).1
      clear hal hQ
      go_upto_region 4 with fail
      go_region_held3 (fun W' => W'.cell? ⟨g, j * 5, none⟩ = some (.int .i64 pr) ∧ W'.cell? ⟨g, j * 5 + 1, none⟩ = some (.int .i64 pi) ∧ W'.cell? ⟨g, j * 5 + 2, none⟩ = some (.int .i64 pj) ∧ W'.cell? ⟨g, j * 5 + 3, none⟩ = some (.int .i64 po) ∧ W'.cell? ⟨w.heap.size, 0, none⟩ = some (.int .i64 ar) ∧ W'.cell? ⟨w.heap.size, 1, none⟩ = some (.int .i64 ai) ∧ W'.cell? ⟨w.heap.size, 2, none⟩ = some (.int .i64 aj) ∧ W'.cell? ⟨w.heap.size, 3, none⟩ = some (.int .i64 ao)) (first | with_reducible exact S1.out _ F5.out | with_reducible exact S1.out _ (Below.refl _ _).drew) (first
        | (go_at_call 88; refine (AI.out _).mono ?_; rintro e5 w5 ⟨rfl, b5⟩; have F5 : Hid (Below wr.heap.size wr w5) := (Below.refl _ _).drew.trans (b5.mono (Nat.le_refl _)); clear b5))
      have B5 := hideP (below_trans hb.out F5.out)
      have X5 := hideP ((F5.out.block _ (Array.getElem?_eq_some_iff.1 hbx.out).1).trans hbx.out)
      obtain ⟨⟨x0, x1, x2, x3, y0, y1, y2, y3⟩, x4⟩ := SK.out _ F5.out
      clear SK S1 AI
      by_cases hc : al = 2
      · subst hc
        have E : Hid (R = c) := by show _ = _; rw [← HR.out, know_hit hjl hno.out HA.out, HQ.out]
        go_wp2
        go_ret
        exact ⟨ret_int E.out.symm, B5.out⟩
      · have hcb : (al == 2) = false := by simpa using hc
        have N2 : Hid (∀ k (hk : k < l.length), k < j + 1 → aliasP (l[k]).1 ⟨ar, ai, aj, ao⟩ ≠ 2) := fun k hk h1 => by
          by_cases e : k = j
          · subst e; rw [HA.out]; exact hc
          · exact hno.out k hk (by omega)
        go_wp2
        go_roundg (N - (j + 1))
        case rel => exact ⟨j + 1, by omega, by go_num, N2.out, B5.out, X5.out⟩
        case measure => omega
    · have hjn : j = N := by omega
      subst hjn
      have E : Hid (R = -1) := by show _ = _; rw [← HR.out]; exact know_miss (fun k hk => hno.out k hk (by rw [← HN.out]; exact hk))
      go_wp2
      go_ret
      exact ⟨ret_int E.out.symm, hb.out⟩
set_option maxRecDepth 100000 in
set_option maxHeartbeats 4000000 in
theorem stored_any (l : List Pai) (p : Pla) (cz : Int) (w : World) (B : Nat) (v : Value) (h : OwnE PaE w B v l) (hl : l.length ≤ 1000000) :
    Calls Try.prog 61 #[v, .agg (plV p), .int .i64 cz] w fun e w' => ∃ v', e = .returned v' ∧ OwnE PaE w' w.heap.size v' (overF l p ++ [(p, cz)]) ∧ Below w.heap.size w w' := by
  obtain ⟨g, cap, rfl, _⟩ := id h
  obtain ⟨ar, ai, aj, ao⟩ := p
  simp only [plV]
  have HO := hideP h
  have hgl := (h.low g rfl).2
  have BX : Hid (((w.alloc (.cells #[.int .i64 ar, .int .i64 ai, .int .i64 aj, .int .i64 ao] 76)).alloc (.cells #[] 80)).heap[w.heap.size]? = some (.cells #[.int .i64 ar, .int .i64 ai, .int .i64 aj, .int .i64 ao] 76 (0, 0))) := (two (w := w) (o1 := .cells #[.int .i64 ar, .int .i64 ai, .int .i64 aj, .int .i64 ao] 76) (o2 := .cells #[] 80) (Below.refl _ _)).1
  have O0 : Hid (OwnE PaE ((w.alloc (.cells #[.int .i64 ar, .int .i64 ai, .int .i64 aj, .int .i64 ao] 76)).alloc (.cells #[] 80)) (w.heap.size + 1) (.slice (some ⟨w.heap.size + 1, 0, none⟩) 0 0) []) := by
    have := own_nil PaOk (w.alloc (.cells #[.int .i64 ar, .int .i64 ai, .int .i64 aj, .int .i64 ao] 76)) (w.heap.size + 1) (by simp)
    rw [show (w.alloc (.cells #[.int .i64 ar, .int .i64 ai, .int .i64 aj, .int .i64 ao] 76)).heap.size = w.heap.size + 1 by simp] at this
    exact this
  have B0 := hideP (below2 w (.cells #[.int .i64 ar, .int .i64 ai, .int .i64 aj, .int .i64 ao] 76) (.cells #[] 80))
  obtain ⟨N, hN⟩ : ∃ N, l.length = N := ⟨_, rfl⟩
  have HN := hideP hN
  rw [hN]
  rw [hN] at hl
  clear h hN
  go_enter Try.func61, Try.ntmps61
  go_wp2
  go_loopg [7, 8] N (fun gk q i wr => ∃ j : Nat, gk + j = N ∧ i = .int .i64 j ∧ Hid (OwnE PaE wr (w.heap.size + 1) q (overF (l.take j) ⟨ar, ai, aj, ao⟩)) ∧ Hid (Below w.heap.size w wr) ∧ Hid (wr.heap[w.heap.size]? = some (.cells #[.int .i64 ar, .int .i64 ai, .int .i64 aj, .int .i64 ao] 76 (0, 0))) ∧ Hid (w.heap.size + 1 ≤ wr.heap.size))
  case atStart => exact ⟨0, by simp, rfl, O0.out, B0.out, BX.out, by show _ ≤ _; simp⟩
  case round =>
    obtain ⟨j, hj, rfl, ho, hb, hbx, hsz⟩ := hrel
    clear O0 B0 BX
    have hlen : (overF (l.take j) ⟨ar, ai, aj, ao⟩).length ≤ 1000000 := Nat.le_trans (List.length_filter_le _ _) (by simp; omega)
    by_cases hlt : j < N
    · have hjl : j < l.length := by rw [HN.out]; exact hlt
      obtain ⟨Q, hQ⟩ : ∃ Q, l[j] = Q := ⟨_, rfl⟩
      obtain ⟨⟨pr, pi, pj, po⟩, c⟩ := Q
      have SK : Hid (∀ (W' : World), Below wr.heap.size wr W' → (W'.cell? ⟨g, j * 5, none⟩ = some (.int .i64 pr) ∧ W'.cell? ⟨g, j * 5 + 1, none⟩ = some (.int .i64 pi) ∧ W'.cell? ⟨g, j * 5 + 2, none⟩ = some (.int .i64 pj) ∧ W'.cell? ⟨g, j * 5 + 3, none⟩ = some (.int .i64 po) ∧ W'.cell? ⟨w.heap.size, 0, none⟩ = some (.int .i64 ar) ∧ W'.cell? ⟨w.heap.size, 1, none⟩ = some (.int .i64 ai) ∧ W'.cell? ⟨w.heap.size, 2, none⟩ = some (.int .i64 aj) ∧ W'.cell? ⟨w.heap.size, 3, none⟩ = some (.int .i64 ao)) ∧ W'.cell? ⟨g, j * 5 + 4, none⟩ = some (.int .i64 c)) := fun W' hk => by
        obtain ⟨x0, x1, x2, x3, x4⟩ := pai_at (HO.out.stays (below_trans hb.out hk)) j hjl hQ
        have y := (cells_of ((hk.block _ (Array.getElem?_eq_some_iff.1 hbx.out).1).trans hbx.out)).1
        exact ⟨⟨x0, x1, x2, x3, y 0, y 1, y 2, y 3⟩, x4⟩
      obtain ⟨al, hal⟩ : ∃ al, aliasP ⟨pr, pi, pj, po⟩ ⟨ar, ai, aj, ao⟩ = al := ⟨_, rfl⟩
      have AI : Hid (∀ W, Calls Try.prog 88 #[.agg #[.int .i64 pr, .int .i64 pi, .int .i64 pj, .int .i64 po], .agg #[.int .i64 ar, .int .i64 ai, .int .i64 aj, .int .i64 ao]] W fun e w' => e = .returned (.int .i64 al) ∧ Below W.heap.size W w') := fun W => hal ▸ specAlias_any ⟨pr, pi, pj, po⟩ ⟨ar, ai, aj, ao⟩ W
      have HA : Hid (aliasP (l[j]).1 ⟨ar, ai, aj, ao⟩ = al) := by show _ = _; rw [hQ]; exact hal
      have HQ := hideP hQ
      have S1 : Hid (∀ (W' : World), Below wr.heap.size wr W' → W'.cell? ⟨g, j * 5, none⟩ = some (.int .i64 pr) ∧ W'.cell? ⟨g, j * 5 + 1, none⟩ = some (.int .i64 pi) ∧ W'.cell? ⟨g, j * 5 + 2, none⟩ = some (.int .i64 pj) ∧ W'.cell? ⟨g, j * 5 + 3, none⟩ = some (.int .i64 po) ∧ W'.cell? ⟨w.heap.size, 0, none⟩ = some (.int .i64 ar) ∧ W'.cell? ⟨w.heap.size, 1, none⟩ = some (.int .i64 ai) ∧ W'.cell? ⟨w.heap.size, 2, none⟩ = some (.int .i64 aj) ∧ W'.cell? ⟨w.heap.size, 3, none⟩ = some (.int .i64 ao)) := fun W' hk => (SK.out W' hk).1
      clear hal hQ
      go_upto_region 5 with fail
      go_region_held3 (fun W' => W'.cell? ⟨g, j * 5, none⟩ = some (.int .i64 pr) ∧ W'.cell? ⟨g, j * 5 + 1, none⟩ = some (.int .i64 pi) ∧ W'.cell? ⟨g, j * 5 + 2, none⟩ = some (.int .i64 pj) ∧ W'.cell? ⟨g, j * 5 + 3, none⟩ = some (.int .i64 po) ∧ W'.cell? ⟨w.heap.size, 0, none⟩ = some (.int .i64 ar) ∧ W'.cell? ⟨w.heap.size, 1, none⟩ = some (.int .i64 ai) ∧ W'.cell? ⟨w.heap.size, 2, none⟩ = some (.int .i64 aj) ∧ W'.cell? ⟨w.heap.size, 3, none⟩ = some (.int .i64 ao)) (first | with_reducible exact S1.out _ F5.out | with_reducible exact S1.out _ (Below.refl _ _).drew) (first
        | (go_at_call 88; refine (AI.out _).mono ?_; rintro e5 w5 ⟨rfl, b5⟩; have F5 : Hid (Below wr.heap.size wr w5) := (Below.refl _ _).drew.trans (b5.mono (Nat.le_refl _)); clear b5))
      have B5 := hideP (below_trans hb.out F5.out)
      have X5 := hideP ((F5.out.block _ (Array.getElem?_eq_some_iff.1 hbx.out).1).trans hbx.out)
      obtain ⟨⟨x0, x1, x2, x3, y0, y1, y2, y3⟩, x4⟩ := SK.out _ F5.out
      clear SK S1 AI
      have TK : Hid (overF (l.take (j + 1)) ⟨ar, ai, aj, ao⟩ = overF (l.take j) ⟨ar, ai, aj, ao⟩ ++ (if al = 0 then [((⟨pr, pi, pj, po⟩, c) : Pai)] else [])) := by
        show _ = _
        unfold overF
        rw [filt_take hjl]
        simp only [decide_eq_true_eq]
        rw [HA.out, HQ.out]
      have O5 := hideP (ho.out.stays F5.out)
      have Z5 : Hid (w.heap.size + 1 ≤ w5.heap.size) := Nat.le_trans hsz.out F5.out.size
      clear ho hb hbx hsz F5 y0 y1 y2 y3
      by_cases hc : al = 0
      · have E : Hid (overF (l.take (j + 1)) ⟨ar, ai, aj, ao⟩ = overF (l.take j) ⟨ar, ai, aj, ao⟩ ++ [((⟨pr, pi, pj, po⟩, c) : Pai)]) := by show _ = _; rw [TK.out, if_pos hc]
        subst hc
        obtain ⟨q, hq⟩ : ∃ q, overF (l.take j) ⟨ar, ai, aj, ao⟩ = q := ⟨_, rfl⟩
        rw [hq] at O5 E hlen
        obtain ⟨g5, c5, rfl, _⟩ := id O5.out
        have al := (Below.refl w5.heap.size w5).alloc (Nat.le_refl _) (.cells #[.int .i64 pr, .int .i64 pi, .int .i64 pj, .int .i64 po, .int .i64 c] 80)
        have OA := hideP (O5.out.stays al)
        have BA := hideP (B5.out.alloc B5.out.size (.cells #[.int .i64 pr, .int .i64 pi, .int .i64 pj, .int .i64 po, .int .i64 c] 80))
        have CQ : Hid (∀ r, r < PaE.sz → (w5.alloc (.cells #[.int .i64 pr, .int .i64 pi, .int .i64 pj, .int .i64 po, .int .i64 c] 80)).cell? ⟨w5.heap.size, 0 + r, none⟩ = (PaE.cs ((⟨pr, pi, pj, po⟩, c) : Pai))[r]?) := fun r _ => by
          have := (cells_of (heap_alloc_new w5 (.cells #[.int .i64 pr, .int .i64 pi, .int .i64 pj, .int .i64 po, .int .i64 c] 80))).1 r
          rw [Nat.zero_add, this]; simp [PaE]
        have hsz1 : Hid (w.heap.size + 1 ≤ (w5.alloc (.cells #[.int .i64 pr, .int .i64 pi, .int .i64 pj, .int .i64 po, .int .i64 c] 80)).heap.size) := Nat.le_trans Z5.out al.size
        clear al
        have A5 := hideP ((((Below.refl w5.heap.size w5).alloc (Nat.le_refl _) (.cells #[.int .i64 pr, .int .i64 pi, .int .i64 pj, .int .i64 po, .int .i64 c] 80)).block _ (Array.getElem?_eq_some_iff.1 X5.out).1).trans X5.out)
        clear hq TK
        go_wp2_with (at_builtin; refine list_appE PaOk _ rfl _ _ rfl (w.heap.size + 1) _ q (⟨pr, pi, pj, po⟩, c) w5.heap.size 0 1 rfl rfl OA.out CQ.out (by omega) hsz1.out ?_; intro v6 w6 o6 grow6 loc6)
        have B6 := hideP (BA.out.grown grow6 BA.out.size (fun b' hb' => by have := OA.out.low b' hb'; omega))
        have X6 := hideP ((grow6.block w.heap.size (Array.getElem?_eq_some_iff.1 A5.out).1 (fun e => by have := OA.out.low _ e.symm; omega)).trans A5.out)
        have Z6 : Hid (w.heap.size + 1 ≤ w6.heap.size) := Nat.le_trans hsz1.out grow6.size
        obtain ⟨g6, c6, rfl, _⟩ := id o6
        have O6 := hideP o6
        clear o6 grow6 loc6 OA BA CQ A5
        go_wp2
        go_roundg (N - (j + 1))
        case rel => exact ⟨j + 1, by omega, by go_num, by rw [E.out]; simpa using O6, B6.out, X6.out, Z6.out⟩
        case measure => omega
      · have hcb : (al == 0) = false := by simpa using hc
        have E : Hid (overF (l.take (j + 1)) ⟨ar, ai, aj, ao⟩ = overF (l.take j) ⟨ar, ai, aj, ao⟩) := by show _ = _; rw [TK.out, if_neg hc, List.append_nil]
        go_wp2
        go_roundg (N - (j + 1))
        case rel => exact ⟨j + 1, by omega, by go_num, by rw [E.out]; exact O5.out, B5.out, X5.out, Z5.out⟩
        case measure => omega
    · have hjn : j = N := by omega
      subst hjn
      rw [← HN.out, List.take_length] at ho hlen
      obtain ⟨q, hq⟩ : ∃ q, overF l ⟨ar, ai, aj, ao⟩ = q := ⟨_, rfl⟩
      rw [hq] at ho hlen
      have HQQ := hideP hq
      obtain ⟨g5, c5, rfl, _⟩ := id ho.out
      have y := (cells_of hbx.out).1
      have y0 := y 0
      have y1 := y 1
      have y2 := y 2
      have y3 := y 3
      simp at y0 y1 y2 y3
      have al := (Below.refl wr.heap.size wr).alloc (Nat.le_refl _) (.cells #[.int .i64 ar, .int .i64 ai, .int .i64 aj, .int .i64 ao, .int .i64 cz] 80)
      have OA := hideP (ho.out.stays al)
      have BA := hideP (hb.out.alloc hb.out.size (.cells #[.int .i64 ar, .int .i64 ai, .int .i64 aj, .int .i64 ao, .int .i64 cz] 80))
      have CQ : Hid (∀ r, r < PaE.sz → (wr.alloc (.cells #[.int .i64 ar, .int .i64 ai, .int .i64 aj, .int .i64 ao, .int .i64 cz] 80)).cell? ⟨wr.heap.size, 0 + r, none⟩ = (PaE.cs ((⟨ar, ai, aj, ao⟩, cz) : Pai))[r]?) := fun r _ => by
        have := (cells_of (heap_alloc_new wr (.cells #[.int .i64 ar, .int .i64 ai, .int .i64 aj, .int .i64 ao, .int .i64 cz] 80))).1 r
        rw [Nat.zero_add, this]; simp [PaE]
      have hsz1 : Hid (w.heap.size + 1 ≤ (wr.alloc (.cells #[.int .i64 ar, .int .i64 ai, .int .i64 aj, .int .i64 ao, .int .i64 cz] 80)).heap.size) := Nat.le_trans hsz.out al.size
      clear al
      clear y hq
      go_wp2_with (at_builtin; refine list_appE PaOk _ rfl _ _ rfl (w.heap.size + 1) _ q (⟨ar, ai, aj, ao⟩, cz) wr.heap.size 0 1 rfl rfl OA.out CQ.out (by omega) hsz1.out ?_; intro v6 w6 o6 grow6 loc6)
      have B6 := hideP (BA.out.grown grow6 BA.out.size (fun b' hb' => by have := OA.out.low b' hb'; omega))
      have O6 := hideP o6
      clear o6 grow6 loc6 OA BA CQ
      go_wp2
      go_ret
      exact ⟨_, rfl, by rw [HQQ.out]; exact O6.out.mono (Nat.le_succ _), B6.out⟩
theorem def_any (x : Ins) (w : World) :
    Calls Try.prog 64 #[.agg (insV x)] w fun e w' => e = .returned (.bool (decide (x.op ≠ 4 ∧ x.op ≠ 6))) ∧ Below w.heap.size w w' := by
  obtain ⟨op, d, a, b, c, n, t⟩ := x
  simp only [insV]
  go_enter Try.func64, Try.ntmps64
  by_cases h4 : op = 4
  · subst h4
    go_wp2
    go_ret
    exact ⟨by simp, (Below.refl _ _).alloc (Nat.le_refl _) _⟩
  · have h4b : (op == 4) = false := by simpa using h4
    by_cases h6 : op = 6
    · subst h6
      go_wp2
      go_ret
      exact ⟨by simp, (Below.refl _ _).alloc (Nat.le_refl _) _⟩
    · have h6b : (op == 6) = false := by simpa using h6
      go_wp2
      go_ret
      exact ⟨by simp [h4, h6], (Below.refl _ _).alloc (Nat.le_refl _) _⟩
end Go.Proofs.Ytljeahjcfbcbgaa

/- The contract of spec.l07Block (written by wip/mkfwdsb.py). -/
namespace Go.Proofs.Ytljeahjcfbcbgaa
open Go.ChangeShapes Go.WideShapes Go.ChangeAt Go.RowKit
def InE : Elem Ins := { T := 67, ST := 41, sz := 7, bys := 64, z := .agg #[.int .i64 0, .int .i64 0, .int .i64 0, .int .i64 0, .int .i64 0, .int .i64 0, .string ByteArray.empty], cs := fun x => [.int .i64 x.op, .int .i64 x.d, .int .i64 x.a, .int .i64 x.b, .int .i64 x.c, .int .i64 x.n, .string x.t] }
theorem InOk : InE.Ok where
  und := Try.underlying41
  info := by kernel_rfl
  zs := rfl
  pos := by decide
  few := by decide
  len := fun _ => rfl
  one := fun x u hu => by simp [InE] at hu; rcases hu with rfl | rfl | rfl | rfl | rfl | rfl | rfl <;> rfl
theorem stepF_few (l : List Pai) (x : Ins) (p : Pla) : (stepF l x p).1.length ≤ l.length + 1 := by
  have h1 := List.length_filter_le (fun q : Pai => decide (aliasP q.1 p = 0)) l
  have h2 := List.length_filter_le (fun q : Pai => decide (q.2 ≠ x.d)) l
  unfold stepF overF dropF
  repeat' split
  all_goals simp only [List.length_append, List.length_singleton]
  all_goals omega
theorem fwdUp_few (code : List Ins) (ps : List Pla) : ∀ j, (fwdUp code ps j).1.length ≤ j
  | 0 => by simp [fwdUp]
  | j + 1 => by
    have ih := fwdUp_few code ps j
    by_cases h : j < code.length ∧ j < ps.length
    · rw [fwdUp_at h.1 h.2]
      have := stepF_few (fwdUp code ps j).1 code[j] ps[j]
      simp only; omega
    · have : fwdUp code ps (j + 1) = fwdUp code ps j := by
        show (match code[j]?, ps[j]? with | some x, some p => _ | _, _ => _) = _
        by_cases h1 : j < code.length
        · rw [List.getElem?_eq_none (l := ps) (by omega)]
          cases code[j]? <;> rfl
        · rw [List.getElem?_eq_none (l := code) (by omega)]
      rw [this]; omega
theorem own_apart {w : World} {B B' : Nat} {v v' : Value} {l : List Ins} {l' : List Pai} (h : OwnE InE w B v l) (h' : OwnE PaE w B' v' l') : v'.ownBlock ≠ v.ownBlock := by
  obtain ⟨g, cap, cur, rfl, _, hh, _⟩ := h.parts InOk
  obtain ⟨g', cap', cur', rfl, _, hh', _⟩ := h'.parts PaOk
  intro e
  have e : g' = g := by simpa [Value.ownBlock] using e
  subst e
  rw [hh] at hh'
  injection hh' with hh'
  injection hh' with _ h2
  exact absurd h2 (by decide)
/-- All blocks but one row are as they were. -/
def KpL (wr : World) (row : Option Nat) (W : World) : Prop := ∀ k, k < wr.heap.size → some k ≠ row → W.heap[k]? = wr.heap[k]?
theorem KpL.of {wr W : World} {row : Option Nat} (h : Below wr.heap.size wr W) : KpL wr row W := fun k hk _ => h.block k hk
theorem KpL.drew (wr : World) (row : Option Nat) : KpL wr row wr.drew := fun _ _ _ => rfl
theorem KpL.grown {wr W W' : World} {row : Option Nat} (h : Below wr.heap.size wr W) (hg : W.grownBy W' row) : KpL wr row W' := fun k hk hne => (hg.block k (by have := h.size; omega) hne).trans (h.block k hk)
/-- Between two rounds: the steps, the pairs. -/
structure BkAt (w : World) (O : List Ins) (L : List Pai) (o l : Value) (W : World) : Prop where
  out : OwnE InE W w.heap.size o O
  lst : OwnE PaE W w.heap.size l L
  bel : Below w.heap.size w W
theorem BkAt.stays {w W W' : World} {O : List Ins} {L : List Pai} {o l : Value} (h : BkAt w O L o l W) (b : Below W.heap.size W W') : BkAt w O L o l W' := ⟨h.out.stays b, h.lst.stays b, below_trans h.bel b⟩
/-- Another list of pairs. -/
theorem BkAt.list {w W W' : World} {O : List Ins} {L L' : List Pai} {o l l' : Value} (h : BkAt w O L o l W) (b : Below W.heap.size W W') (hl : OwnE PaE W' W.heap.size l' L') : BkAt w O L' o l' W' := ⟨h.out.stays b, hl.mono h.bel.size, below_trans h.bel b⟩
/-- A pair is put behind. -/
theorem BkAt.pair {w W Wa W' : World} {O : List Ins} {L L' : List Pai} {o l l' : Value} (h : BkAt w O L o l W) (b : Below W.heap.size W Wa) (hl : OwnE PaE W' w.heap.size l' L') (hg : Wa.grownBy W' l.ownBlock) : BkAt w O L' o l' W' :=
  have ha := h.stays b
  ⟨ha.out.kept hg (fun e => own_apart ha.out ha.lst e.symm), hl, ha.bel.grown hg ha.bel.size (fun k hk => (ha.lst.low k hk).1)⟩
/-- A step is put behind. -/
theorem BkAt.step {w W Wa W' : World} {O O' : List Ins} {L : List Pai} {o l o' : Value} (h : BkAt w O L o l W) (b : Below W.heap.size W Wa) (ho : OwnE InE W' w.heap.size o' O') (hg : Wa.grownBy W' o.ownBlock) : BkAt w O' L o' l W' :=
  have ha := h.stays b
  ⟨ho, ha.lst.kept hg (own_apart ha.out ha.lst), ha.bel.grown hg ha.bel.size (fun k hk => (ha.out.low k hk).1)⟩
/-- A block besides is written that is none of these. -/
theorem BkAt.box {w W W' : World} {O : List Ins} {L : List Pai} {o l : Value} {g : Nat} (h : BkAt w O L o l W) (hb : But g W W') (hg : w.heap.size ≤ g) (h1 : o.ownBlock ≠ some g) (h2 : l.ownBlock ≠ some g) : BkAt w O L o l W' :=
  ⟨h.out.butG hb h1, h.lst.butG hb h2, h.bel.trans (hb.below hg h.bel.size)⟩
theorem newX (w : World) (cs : Array Value) (T : TypeId) : (w.alloc (.cells cs T)).heap[w.heap.size]? = some (.cells cs T (0, 0)) := by show (w.heap.push _)[w.heap.size]? = _; exact Array.getElem?_push_size
theorem heldX {W W' : World} {b : Nat} {o : Obj} (h : W.heap[b]? = some o) (bel : Below W.heap.size W W') : W'.heap[b]? = some o := (bel.block b (Array.getElem?_eq_some_iff.1 h).1).trans h
theorem ltX {W : World} {b : Nat} {o : Obj} (h : W.heap[b]? = some o) : b < W.heap.size := (Array.getElem?_eq_some_iff.1 h).1
set_option maxRecDepth 100000 in
set_option maxHeartbeats 16000000 in
theorem block07_any (code : List Ins) (ps : List Pla) (w : World) (B Bp gp kp cap : Nat) (u : Option Addr) (hc : SlIs InsIs 7 w B u code) (hp : OwnE PlE w Bp (.slice (some ⟨gp, 0, none⟩) ps.length kp) ps) (hpl : ps.length = code.length) (hl : code.length ≤ 1000) :
    Calls Try.prog 38 #[.slice u code.length cap, .slice (some ⟨gp, 0, none⟩) ps.length kp] w fun e w' => ∃ v', e = .returned v' ∧ OwnE InE w' w.heap.size v' (fwdUp code ps code.length).2 ∧ Below w.heap.size w w' := by
  have HC := hideP hc
  have HPP := hideP hp
  have HPL := hideP hpl
  have hgp := (hp.low gp rfl).2
  have S0 : Hid (BkAt w [] [] (.slice (some ⟨w.heap.size, 0, none⟩) 0 0) (.slice (some ⟨w.heap.size + 1, 0, none⟩) 0 0) ((w.alloc (.cells #[] 67)).alloc (.cells #[] 80))) := by
    have o1 := own_nil InOk w w.heap.size rfl
    have o2 := own_nil PaOk (w.alloc (.cells #[] 67)) (w.heap.size + 1) (by simp)
    exact ⟨o1.stays ((Below.refl _ _).alloc (Nat.le_refl _) _), o2.mono (by simp), below2 w _ _⟩
  obtain ⟨N, hN⟩ : ∃ N, code.length = N := ⟨_, rfl⟩
  have HN := hideP hN
  rw [hpl, hN]
  rw [hN] at hl
  clear hc hp hpl hN
  go_enter Try.func38, Try.ntmps38
  go_wp2
  go_loopg [5, 6, 7] N (fun gk q l i wr => ∃ j : Nat, gk + j = N ∧ i = .int .i64 j ∧ Hid (BkAt w (fwdUp code ps j).2 (fwdUp code ps j).1 q l wr))
  case atStart => exact ⟨0, by simp, rfl, by simpa [fwdUp] using S0⟩
  case round =>
    obtain ⟨j, hj, rfl, hS⟩ := hrel
    clear S0
    by_cases hlt : j < N
    · have hjc : j < code.length := by rw [HN.out]; exact hlt
      have hjp : j < ps.length := by rw [HPL.out]; exact hjc
      obtain ⟨bi, oi, op, d, a, b0, c0, nn, t, hu, _, hbi, hX, x0, x1, x2, x3, x4, x5, x6, hIns⟩ := Ins_get (HC.out.stays InsKeeps hS.out.bel) j hjc
      obtain ⟨Q, hQ⟩ : ∃ Q, ps[j] = Q := ⟨_, rfl⟩
      obtain ⟨pr, pi, pj, po⟩ := Q
      obtain ⟨L, hL⟩ : ∃ L, (fwdUp code ps j).1 = L := ⟨_, rfl⟩
      obtain ⟨O, hO⟩ : ∃ O, (fwdUp code ps j).2 = O := ⟨_, rfl⟩
      have hLn : L.length ≤ 1000 := by rw [← hL]; have := fwdUp_few code ps j; omega
      have hOn : O.length ≤ 1000 := by rw [← hO, fwdUp_len HPL.out j (by omega)]; omega
      have UP : Hid (∀ L' y, stepF L (⟨op, d, a, b0, c0, nn, t⟩ : Ins) ⟨pr, pi, pj, po⟩ = (L', y) → fwdUp code ps (j + 1) = (L', O ++ [y])) := fun L' y hy => by rw [fwdUp_at hjc hjp, hX, hQ, hL, hO, hy]
      rw [hL, hO] at hS
      obtain ⟨go, co, rfl, _⟩ := id hS.out.out
      obtain ⟨gl, cl, rfl, _⟩ := id hS.out.lst
      have hgo := hS.out.out.low go rfl
      have hgl := hS.out.lst.low gl rfl
      subst hu
      have PA := pla_at HPP.out j hjp
      rw [hQ] at PA
      have HPA := hideP PA
      have al := (Below.refl wr.heap.size wr).alloc (Nat.le_refl _) (.cells #[.int .i64 op, .int .i64 d, .int .i64 a, .int .i64 b0, .int .i64 c0, .int .i64 nn, .string t] 67)
      have SB := hideP (hS.out.stays al)
      have BX := hideP (newX wr #[.int .i64 op, .int .i64 d, .int .i64 a, .int .i64 b0, .int .i64 c0, .int .i64 nn, .string t] 67)
      have HI := hideP hIns
      clear hX hQ hL hO hIns PA al hS
      go_upto_region 7 with fail
      clear x0 x1 x2 x3 x4 x5 x6
      obtain ⟨wb, hwb⟩ : ∃ wb, wr.alloc (.cells #[.int .i64 op, .int .i64 d, .int .i64 a, .int .i64 b0, .int .i64 c0, .int .i64 nn, .string t] 67) = wb := ⟨_, rfl⟩
      have hwz : wb.heap.size = wr.heap.size + 1 := by rw [← hwb]; simp
      rw [hwb] at SB BX ⊢
      have HWZ := hideP hwz
      clear hwb hwz
      have pcells : Hid (∀ (W : World), Below w.heap.size w W → W.cell? ⟨gp, j * 4, none⟩ = some (.int .i64 pr) ∧ W.cell? ⟨gp, j * 4 + 1, none⟩ = some (.int .i64 pi) ∧ W.cell? ⟨gp, j * 4 + 2, none⟩ = some (.int .i64 pj) ∧ W.cell? ⟨gp, j * 4 + 3, none⟩ = some (.int .i64 po)) := fun W hW => ⟨(hW.cell (p := ⟨gp, _, none⟩) hgp).trans HPA.out.1, (hW.cell (p := ⟨gp, _, none⟩) hgp).trans HPA.out.2.1, (hW.cell (p := ⟨gp, _, none⟩) hgp).trans HPA.out.2.2.1, (hW.cell (p := ⟨gp, _, none⟩) hgp).trans HPA.out.2.2.2⟩
      have xc := (cells_of BX.out).1
      have x0 := xc 0
      have x1 := xc 1
      have x2 := xc 2
      have x3 := xc 3
      have x4 := xc 4
      have x5 := xc 5
      have x6 := xc 6
      simp at x0 x1 x2 x3 x4 x5 x6
      clear xc
      by_cases h4 : op = 4
      · subst h4
        have EQ : Hid (stepF L (⟨4, d, a, b0, c0, nn, t⟩ : Ins) ⟨pr, pi, pj, po⟩ = (overF L ⟨pr, pi, pj, po⟩ ++ [(⟨pr, pi, pj, po⟩, c0)], ⟨4, d, a, b0, c0, nn, t⟩)) := by show _ = _; simp [stepF]
        obtain ⟨LP, hLP⟩ : ∃ LP, overF L ⟨pr, pi, pj, po⟩ ++ [(⟨pr, pi, pj, po⟩, c0)] = LP := ⟨_, rfl⟩
        have ST : Hid (∀ W, Below wb.heap.size wb W → Calls Try.prog 61 #[.slice (some ⟨gl, 0, none⟩) L.length cl, .agg #[.int .i64 pr, .int .i64 pi, .int .i64 pj, .int .i64 po], .int .i64 c0] W fun e w' => ∃ g5 k5, e = .returned (.slice (some ⟨g5, 0, none⟩) LP.length k5) ∧ OwnE PaE w' wb.heap.size (.slice (some ⟨g5, 0, none⟩) LP.length k5) LP ∧ Below wb.heap.size wb w') := fun W hW => by
          refine (stored_any L ⟨pr, pi, pj, po⟩ c0 W w.heap.size _ (SB.out.lst.stays hW) (by omega)).mono ?_
          rintro e5 w5 ⟨v5, rfl, o5, b5⟩
          rw [hLP] at o5
          obtain ⟨g5, k5, rfl, _⟩ := id o5
          exact ⟨g5, k5, rfl, o5.mono hW.size, below_trans hW b5⟩
        rw [hLP] at EQ
        have SK : Hid (∀ (W' : World), Below wb.heap.size wb W' → W'.cell? ⟨gp, j * 4, none⟩ = some (.int .i64 pr) ∧ W'.cell? ⟨gp, j * 4 + 1, none⟩ = some (.int .i64 pi) ∧ W'.cell? ⟨gp, j * 4 + 2, none⟩ = some (.int .i64 pj) ∧ W'.cell? ⟨gp, j * 4 + 3, none⟩ = some (.int .i64 po) ∧ W'.cell? ⟨wr.heap.size, 4, none⟩ = some (.int .i64 c0)) := fun W' hk => by
          have y := pcells.out W' (below_trans SB.out.bel hk)
          exact ⟨y.1, y.2.1, y.2.2.1, y.2.2.2, (cells_of (heldX BX.out hk)).1 4⟩
        clear hLP
        go_upto_region 8 with fail
        clear x0 x1 x2 x3 x4 x5 x6
        go_region_held3 (fun W' => W'.cell? ⟨gp, j * 4, none⟩ = some (.int .i64 pr) ∧ W'.cell? ⟨gp, j * 4 + 1, none⟩ = some (.int .i64 pi) ∧ W'.cell? ⟨gp, j * 4 + 2, none⟩ = some (.int .i64 pj) ∧ W'.cell? ⟨gp, j * 4 + 3, none⟩ = some (.int .i64 po) ∧ W'.cell? ⟨wr.heap.size, 4, none⟩ = some (.int .i64 c0)) (first | with_reducible exact SK.out _ F5.out | with_reducible exact SK.out _ (Below.refl _ _).drew) (first
          | (go_at_call 61; refine (ST.out _ (Below.refl _ _).drew).mono ?_; rintro e5 w5 ⟨g5, k5, rfl, o5, b5⟩; have F5 := hideP b5; have S5 := hideP (SB.out.list b5 o5); clear b5 o5))
        have X5 := hideP (heldX BX.out F5.out)
        clear SK ST F5 SB BX
        have fc := (cells_of X5.out).1
        have f0 := fc 0
        have f1 := fc 1
        have f2 := fc 2
        have f3 := fc 3
        have f4 := fc 4
        have f5 := fc 5
        have f6 := fc 6
        simp at f0 f1 f2 f3 f4 f5 f6
        clear fc
        have al := (Below.refl w5.heap.size w5).alloc (Nat.le_refl _) (.cells #[.int .i64 4, .int .i64 d, .int .i64 a, .int .i64 b0, .int .i64 c0, .int .i64 nn, .string t] 67)
        have OA := hideP (S5.out.out.stays al)
        have AL := hideP al
        have CQ : Hid (∀ r, r < InE.sz → (w5.alloc (.cells #[.int .i64 4, .int .i64 d, .int .i64 a, .int .i64 b0, .int .i64 c0, .int .i64 nn, .string t] 67)).cell? ⟨w5.heap.size, 0 + r, none⟩ = (InE.cs (⟨4, d, a, b0, c0, nn, t⟩ : Ins))[r]?) := fun r _ => by
          have := (cells_of (newX w5 #[.int .i64 4, .int .i64 d, .int .i64 a, .int .i64 b0, .int .i64 c0, .int .i64 nn, .string t] 67)).1 r
          rw [Nat.zero_add, this]; simp [InE]
        have hsz1 : Hid (w.heap.size ≤ (w5.alloc (.cells #[.int .i64 4, .int .i64 d, .int .i64 a, .int .i64 b0, .int .i64 c0, .int .i64 nn, .string t] 67)).heap.size) := Nat.le_trans S5.out.bel.size al.size
        clear al
        go_wp2_with (at_builtin; refine list_appE InOk _ rfl _ _ rfl w.heap.size _ O (⟨4, d, a, b0, c0, nn, t⟩ : Ins) w5.heap.size 0 1 rfl rfl OA.out CQ.out (by omega) hsz1.out ?_; intro v7 w7 o7 grow7 loc7)
        have S7 := hideP (S5.out.step AL.out o7 grow7)
        obtain ⟨g7, c7, rfl, _⟩ := id o7
        clear o7 grow7 loc7 OA CQ AL
        go_wp2
        go_roundg (N - (j + 1))
        case rel =>
          refine ⟨j + 1, by omega, by go_num, ?_⟩
          have e9 := UP.out LP (⟨4, d, a, b0, c0, nn, t⟩ : Ins) EQ.out
          rw [e9]
          have := S7.out
          simp only [List.length_append, List.length_singleton] at this ⊢
          exact this
        case measure => omega
      · by_cases h3 : op = 3
        · subst h3
          have KN : Hid (∀ W, Below wb.heap.size wb W → Calls Try.prog 62 #[.slice (some ⟨gl, 0, none⟩) L.length cl, .agg #[.int .i64 pr, .int .i64 pi, .int .i64 pj, .int .i64 po]] W fun e w' => e = .returned (.int .i64 (knowF L ⟨pr, pi, pj, po⟩)) ∧ Below W.heap.size W w') := fun W hW => know_any L ⟨pr, pi, pj, po⟩ W w.heap.size _ (SB.out.lst.stays hW) (by omega)
          obtain ⟨kp, hkp⟩ : ∃ kp, knowF L ⟨pr, pi, pj, po⟩ = kp := ⟨_, rfl⟩
          obtain ⟨LD, hLD⟩ : ∃ LD, dropF L d = LD := ⟨_, rfl⟩
          have hLDn : LD.length ≤ 1000 := by rw [← hLD]; exact Nat.le_trans (List.length_filter_le _ _) hLn
          have DR : Hid (∀ W, Below wb.heap.size wb W → Calls Try.prog 63 #[.slice (some ⟨gl, 0, none⟩) L.length cl, .int .i64 d] W fun e w' => ∃ g5 k5, e = .returned (.slice (some ⟨g5, 0, none⟩) LD.length k5) ∧ OwnE PaE w' W.heap.size (.slice (some ⟨g5, 0, none⟩) LD.length k5) LD ∧ Below W.heap.size W w') := fun W hW => by
            refine (drop_any L d W w.heap.size _ (SB.out.lst.stays hW) (by omega)).mono ?_
            rintro e5 w5 ⟨v5, rfl, o5, b5⟩
            rw [hLD] at o5
            obtain ⟨g5, k5, rfl, _⟩ := id o5
            exact ⟨g5, k5, rfl, o5, b5⟩
          have EQ1 : Hid (stepF L (⟨3, d, a, b0, c0, nn, t⟩ : Ins) ⟨pr, pi, pj, po⟩ = if 0 ≤ kp then (LD, movF d kp) else (LD ++ [(⟨pr, pi, pj, po⟩, d)], ⟨3, d, a, b0, c0, nn, t⟩)) := by show _ = _; rw [← hkp, ← hLD]; simp [stepF]
          rw [hkp] at KN
          clear hkp hLD
          obtain ⟨p0, p1, p2, p3⟩ := pcells.out wb SB.out.bel
          go_wp2_with fail
          refine (KN.out _ (Below.refl _ _)).mono ?_
          rintro e4 w4 ⟨rfl, b4⟩
          have F4 := hideP b4
          have X4 := heldX BX.out b4
          clear p0 p1 p2 p3 x0 x1 x2 x3 x4 x5 x6 KN b4
          have x1 := (cells_of X4).1 1
          simp at x1
          have HX4 := hideP X4
          clear X4
          go_wp2_with fail
          refine (DR.out _ F4.out).mono ?_
          rintro e5 w5 ⟨g5, k5, rfl, o5, b5⟩
          have S5 := hideP ((SB.out.stays F4.out).list b5 o5)
          have X5 := hideP (heldX HX4.out b5)
          have hg5 := o5.low g5 rfl
          have hz4 : wr.heap.size < w4.heap.size := ltX HX4.out
          clear DR o5 b5 x1 HX4 F4 SB BX
          by_cases hk : 0 ≤ kp
          · have EQ : Hid (stepF L (⟨3, d, a, b0, c0, nn, t⟩ : Ins) ⟨pr, pi, pj, po⟩ = (LD, (⟨1, d, kp, 0, 0, 0, ⟨#[]⟩⟩ : Ins))) := by show _ = _; rw [EQ1.out, if_pos hk]; rfl
            have z := X5.out
            have r0 := (cells_of z).1 0
            have r1 := (cells_of z).1 1
            have r2 := (cells_of z).1 2
            have r3 := (cells_of z).1 3
            have r4 := (cells_of z).1 4
            have r5 := (cells_of z).1 5
            have r6 := (cells_of z).1 6
            have rf := (cells_of z).2
            simp at r0 r1 r2 r3 r4 r5 r6
            have z0 := heap_setCell_same w5 _ 0 _ _ (.int .i64 1) z
            have z1 := heap_setCell_same _ _ 1 _ _ (.int .i64 d) z0
            have z2 := heap_setCell_same _ _ 2 _ _ (.int .i64 kp) z1
            have z3 := heap_setCell_same _ _ 3 _ _ (.int .i64 0) z2
            have z4 := heap_setCell_same _ _ 4 _ _ (.int .i64 0) z3
            have z5 := heap_setCell_same _ _ 5 _ _ (.int .i64 0) z4
            have z6 : (((((((w5.setCell ⟨wr.heap.size, 0, none⟩ (.int .i64 1)).setCell ⟨wr.heap.size, 1, none⟩ (.int .i64 d)).setCell ⟨wr.heap.size, 2, none⟩ (.int .i64 kp)).setCell ⟨wr.heap.size, 3, none⟩ (.int .i64 0)).setCell ⟨wr.heap.size, 4, none⟩ (.int .i64 0)).setCell ⟨wr.heap.size, 5, none⟩ (.int .i64 0)).setCell ⟨wr.heap.size, 6, none⟩ (.string ⟨#[]⟩)).heap[wr.heap.size]? = some (.cells #[.int .i64 1, .int .i64 d, .int .i64 kp, .int .i64 0, .int .i64 0, .int .i64 0, .string ⟨#[]⟩] 67 (0, 0)) := heap_setCell_same _ _ 6 _ _ (.string ⟨#[]⟩) z5
            have ZF := hideP z6
            have BU : Hid (But wr.heap.size w5 (((((((w5.setCell ⟨wr.heap.size, 0, none⟩ (.int .i64 1)).setCell ⟨wr.heap.size, 1, none⟩ (.int .i64 d)).setCell ⟨wr.heap.size, 2, none⟩ (.int .i64 kp)).setCell ⟨wr.heap.size, 3, none⟩ (.int .i64 0)).setCell ⟨wr.heap.size, 4, none⟩ (.int .i64 0)).setCell ⟨wr.heap.size, 5, none⟩ (.int .i64 0)).setCell ⟨wr.heap.size, 6, none⟩ (.string ⟨#[]⟩))) := ((((((((But.refl wr.heap.size w5).set 0 (.int .i64 1)).set 1 (.int .i64 d)).set 2 (.int .i64 kp)).set 3 (.int .i64 0)).set 4 (.int .i64 0)).set 5 (.int .i64 0)).set 6 (.string ⟨#[]⟩))
            have SZ := hideP (S5.out.box BU.out (by omega) (by simp [Value.ownBlock]; omega) (by simp [Value.ownBlock]; omega))
            clear z z0 z1 z2 z3 z4 z5 z6
            go_upto_region 17 with fail
            obtain ⟨wz, hwz⟩ : ∃ wz, (((((((w5.setCell ⟨wr.heap.size, 0, none⟩ (.int .i64 1)).setCell ⟨wr.heap.size, 1, none⟩ (.int .i64 d)).setCell ⟨wr.heap.size, 2, none⟩ (.int .i64 kp)).setCell ⟨wr.heap.size, 3, none⟩ (.int .i64 0)).setCell ⟨wr.heap.size, 4, none⟩ (.int .i64 0)).setCell ⟨wr.heap.size, 5, none⟩ (.int .i64 0)).setCell ⟨wr.heap.size, 6, none⟩ (.string ⟨#[]⟩)) = wz := ⟨_, rfl⟩
            rw [hwz] at ZF SZ ⊢
            clear hwz r0 r1 r2 r3 r4 r5 r6 rf BU X5 S5
            have fc := (cells_of ZF.out).1
            have f0 := fc 0
            have f1 := fc 1
            have f2 := fc 2
            have f3 := fc 3
            have f4 := fc 4
            have f5 := fc 5
            have f6 := fc 6
            simp at f0 f1 f2 f3 f4 f5 f6
            clear fc
            have al := (Below.refl wz.heap.size wz).alloc (Nat.le_refl _) (.cells #[.int .i64 1, .int .i64 d, .int .i64 kp, .int .i64 0, .int .i64 0, .int .i64 0, .string ⟨#[]⟩] 67)
            have OA := hideP (SZ.out.out.stays al)
            have AL := hideP al
            have CQ : Hid (∀ r, r < InE.sz → (wz.alloc (.cells #[.int .i64 1, .int .i64 d, .int .i64 kp, .int .i64 0, .int .i64 0, .int .i64 0, .string ⟨#[]⟩] 67)).cell? ⟨wz.heap.size, 0 + r, none⟩ = (InE.cs (⟨1, d, kp, 0, 0, 0, ⟨#[]⟩⟩ : Ins))[r]?) := fun r _ => by
              have := (cells_of (newX wz #[.int .i64 1, .int .i64 d, .int .i64 kp, .int .i64 0, .int .i64 0, .int .i64 0, .string ⟨#[]⟩] 67)).1 r
              rw [Nat.zero_add, this]; simp [InE]
            have hsz1 : Hid (w.heap.size ≤ (wz.alloc (.cells #[.int .i64 1, .int .i64 d, .int .i64 kp, .int .i64 0, .int .i64 0, .int .i64 0, .string ⟨#[]⟩] 67)).heap.size) := Nat.le_trans SZ.out.bel.size al.size
            clear al
            go_wp2_with (at_builtin; refine list_appE InOk _ rfl _ _ rfl w.heap.size _ O (⟨1, d, kp, 0, 0, 0, ⟨#[]⟩⟩ : Ins) wz.heap.size 0 1 rfl rfl OA.out CQ.out (by omega) hsz1.out ?_; intro v7 w7 o7 grow7 loc7)
            have S7 := hideP (SZ.out.step AL.out o7 grow7)
            obtain ⟨g7, c7, rfl, _⟩ := id o7
            clear o7 grow7 loc7 OA CQ AL
            go_wp2
            go_roundg (N - (j + 1))
            case rel =>
              refine ⟨j + 1, by omega, by go_num, ?_⟩
              have e9 := UP.out LD (⟨1, d, kp, 0, 0, 0, ⟨#[]⟩⟩ : Ins) EQ.out
              rw [e9]
              have := S7.out
              simp only [List.length_append, List.length_singleton] at this ⊢
              exact this
            case measure => omega
          · have EQ : Hid (stepF L (⟨3, d, a, b0, c0, nn, t⟩ : Ins) ⟨pr, pi, pj, po⟩ = (LD ++ [(⟨pr, pi, pj, po⟩, d)], (⟨3, d, a, b0, c0, nn, t⟩ : Ins))) := by show _ = _; rw [EQ1.out, if_neg hk]
            have SK : Hid (∀ (W' : World), KpL w5 (some g5) W' → W'.cell? ⟨gp, j * 4, none⟩ = some (.int .i64 pr) ∧ W'.cell? ⟨gp, j * 4 + 1, none⟩ = some (.int .i64 pi) ∧ W'.cell? ⟨gp, j * 4 + 2, none⟩ = some (.int .i64 pj) ∧ W'.cell? ⟨gp, j * 4 + 3, none⟩ = some (.int .i64 po) ∧ W'.cell? ⟨wr.heap.size, 1, none⟩ = some (.int .i64 d)) := fun W' hk2 => by
              have y := pcells.out w5 S5.out.bel
              have hgw : gp < w5.heap.size := Nat.lt_of_lt_of_le hgp S5.out.bel.size
              have hc2 : ∀ i u, w5.cell? ⟨gp, i, none⟩ = some u → W'.cell? ⟨gp, i, none⟩ = some u := fun i u hu2 => (World.cell?_of_block (a := ⟨gp, i, none⟩) (hk2 gp hgw (by simp; omega))).trans hu2
              exact ⟨hc2 _ _ y.1, hc2 _ _ y.2.1, hc2 _ _ y.2.2.1, hc2 _ _ y.2.2.2, (cells_of ((hk2 wr.heap.size (ltX X5.out) (by simp; omega)).trans X5.out)).1 1⟩
            have AD : Hid (Below w5.heap.size w5 (w5.alloc (.cells #[.int .i64 pr, .int .i64 pi, .int .i64 pj, .int .i64 po, .int .i64 d] 80)).drew) := ((Below.refl w5.heap.size w5).alloc (Nat.le_refl _) (.cells #[.int .i64 pr, .int .i64 pi, .int .i64 pj, .int .i64 po, .int .i64 d] 80)).drew
            have OA := hideP (S5.out.lst.stays AD.out)
            have CQ : Hid (∀ r, r < PaE.sz → (w5.alloc (.cells #[.int .i64 pr, .int .i64 pi, .int .i64 pj, .int .i64 po, .int .i64 d] 80)).drew.cell? ⟨w5.heap.size, 0 + r, none⟩ = (PaE.cs ((⟨pr, pi, pj, po⟩, d) : Pai))[r]?) := fun r _ => by
              have := (cells_of (newX w5 #[.int .i64 pr, .int .i64 pi, .int .i64 pj, .int .i64 po, .int .i64 d] 80)).1 r
              rw [Nat.zero_add]
              refine Eq.trans this ?_
              simp [PaE]
            have hsz1 : Hid (w.heap.size ≤ (w5.alloc (.cells #[.int .i64 pr, .int .i64 pi, .int .i64 pj, .int .i64 po, .int .i64 d] 80)).drew.heap.size) := Nat.le_trans S5.out.bel.size AD.out.size
            go_upto_region 14 with fail
            go_region_held3 (fun W' => W'.cell? ⟨gp, j * 4, none⟩ = some (.int .i64 pr) ∧ W'.cell? ⟨gp, j * 4 + 1, none⟩ = some (.int .i64 pi) ∧ W'.cell? ⟨gp, j * 4 + 2, none⟩ = some (.int .i64 pj) ∧ W'.cell? ⟨gp, j * 4 + 3, none⟩ = some (.int .i64 po) ∧ W'.cell? ⟨wr.heap.size, 1, none⟩ = some (.int .i64 d)) (first | with_reducible exact SK.out _ K6.out | with_reducible exact SK.out _ (KpL.of AD.out) | with_reducible exact SK.out _ (KpL.drew _ _)) (first
              | (refine step_appE PaOk _ rfl _ _ rfl w.heap.size _ LD (⟨pr, pi, pj, po⟩, d) w5.heap.size 0 1 rfl rfl OA.out CQ.out (by omega) hsz1.out ?_; intro v6 w6 o6 grow6 loc6; have S6 := hideP (S5.out.pair AD.out o6 grow6); have K6 : Hid (KpL w5 (some g5) w6) := KpL.grown AD.out grow6; obtain ⟨g6, c6, rfl, _⟩ := id o6; clear o6 grow6 loc6))
            have X6 := hideP ((K6.out wr.heap.size (ltX X5.out) (by simp; omega)).trans X5.out)
            clear SK AD OA CQ hsz1 K6 S5 X5
            have fc := (cells_of X6.out).1
            have f0 := fc 0
            have f1 := fc 1
            have f2 := fc 2
            have f3 := fc 3
            have f4 := fc 4
            have f5 := fc 5
            have f6 := fc 6
            simp at f0 f1 f2 f3 f4 f5 f6
            clear fc
            have al := (Below.refl w6.heap.size w6).alloc (Nat.le_refl _) (.cells #[.int .i64 3, .int .i64 d, .int .i64 a, .int .i64 b0, .int .i64 c0, .int .i64 nn, .string t] 67)
            have OA := hideP (S6.out.out.stays al)
            have AL := hideP al
            have CQ : Hid (∀ r, r < InE.sz → (w6.alloc (.cells #[.int .i64 3, .int .i64 d, .int .i64 a, .int .i64 b0, .int .i64 c0, .int .i64 nn, .string t] 67)).cell? ⟨w6.heap.size, 0 + r, none⟩ = (InE.cs (⟨3, d, a, b0, c0, nn, t⟩ : Ins))[r]?) := fun r _ => by
              have := (cells_of (newX w6 #[.int .i64 3, .int .i64 d, .int .i64 a, .int .i64 b0, .int .i64 c0, .int .i64 nn, .string t] 67)).1 r
              rw [Nat.zero_add, this]; simp [InE]
            have hsz1 : Hid (w.heap.size ≤ (w6.alloc (.cells #[.int .i64 3, .int .i64 d, .int .i64 a, .int .i64 b0, .int .i64 c0, .int .i64 nn, .string t] 67)).heap.size) := Nat.le_trans S6.out.bel.size al.size
            clear al
            go_wp2_with (at_builtin; refine list_appE InOk _ rfl _ _ rfl w.heap.size _ O (⟨3, d, a, b0, c0, nn, t⟩ : Ins) w6.heap.size 0 1 rfl rfl OA.out CQ.out (by omega) hsz1.out ?_; intro v7 w7 o7 grow7 loc7)
            have S7 := hideP (S6.out.step AL.out o7 grow7)
            obtain ⟨g7, c7, rfl, _⟩ := id o7
            clear o7 grow7 loc7 OA CQ AL
            go_wp2
            go_roundg (N - (j + 1))
            case rel =>
              refine ⟨j + 1, by omega, by go_num, ?_⟩
              have e9 := UP.out (LD ++ [((⟨pr, pi, pj, po⟩, d) : Pai)]) (⟨3, d, a, b0, c0, nn, t⟩ : Ins) EQ.out
              rw [e9]
              have := S7.out
              simp only [List.length_append, List.length_singleton] at this ⊢
              exact this
            case measure => omega
        · have h4b : (op == 4) = false := by simpa using h4
          have h3b : (op == 3) = false := by simpa using h3
          obtain ⟨df, hdf⟩ : ∃ df, decide (op ≠ 4 ∧ op ≠ 6) = df := ⟨_, rfl⟩
          have DE : Hid (∀ W, Calls Try.prog 64 #[.agg #[.int .i64 op, .int .i64 d, .int .i64 a, .int .i64 b0, .int .i64 c0, .int .i64 nn, .string t]] W fun e w' => e = .returned (.bool df) ∧ Below W.heap.size W w') := fun W => hdf ▸ def_any ⟨op, d, a, b0, c0, nn, t⟩ W
          go_wp2_with fail
          refine (DE.out _).mono ?_
          rintro e4 w4 ⟨rfl, b4⟩
          have S4 := hideP (SB.out.stays b4)
          have X4 := hideP (heldX BX.out b4)
          clear b4 x0 x1 x2 x3 x4 x5 x6 DE
          cases df with
          | false =>
            have h6 : op = 6 := by simp at hdf; exact Classical.byContradiction (fun h => h (hdf h4))
            have EQ : Hid (stepF L (⟨op, d, a, b0, c0, nn, t⟩ : Ins) ⟨pr, pi, pj, po⟩ = (L, (⟨op, d, a, b0, c0, nn, t⟩ : Ins))) := by show _ = _; simp [stepF, h6]
            clear hdf SB BX h6
            have fc := (cells_of X4.out).1
            have f0 := fc 0
            have f1 := fc 1
            have f2 := fc 2
            have f3 := fc 3
            have f4 := fc 4
            have f5 := fc 5
            have f6 := fc 6
            simp at f0 f1 f2 f3 f4 f5 f6
            clear fc
            have al := (Below.refl w4.heap.size w4).alloc (Nat.le_refl _) (.cells #[.int .i64 op, .int .i64 d, .int .i64 a, .int .i64 b0, .int .i64 c0, .int .i64 nn, .string t] 67)
            have OA := hideP (S4.out.out.stays al)
            have AL := hideP al
            have CQ : Hid (∀ r, r < InE.sz → (w4.alloc (.cells #[.int .i64 op, .int .i64 d, .int .i64 a, .int .i64 b0, .int .i64 c0, .int .i64 nn, .string t] 67)).cell? ⟨w4.heap.size, 0 + r, none⟩ = (InE.cs (⟨op, d, a, b0, c0, nn, t⟩ : Ins))[r]?) := fun r _ => by
              have := (cells_of (newX w4 #[.int .i64 op, .int .i64 d, .int .i64 a, .int .i64 b0, .int .i64 c0, .int .i64 nn, .string t] 67)).1 r
              rw [Nat.zero_add, this]; simp [InE]
            have hsz1 : Hid (w.heap.size ≤ (w4.alloc (.cells #[.int .i64 op, .int .i64 d, .int .i64 a, .int .i64 b0, .int .i64 c0, .int .i64 nn, .string t] 67)).heap.size) := Nat.le_trans S4.out.bel.size al.size
            clear al
            go_wp2_with (at_builtin; refine list_appE InOk _ rfl _ _ rfl w.heap.size _ O (⟨op, d, a, b0, c0, nn, t⟩ : Ins) w4.heap.size 0 1 rfl rfl OA.out CQ.out (by omega) hsz1.out ?_; intro v7 w7 o7 grow7 loc7)
            have S7 := hideP (S4.out.step AL.out o7 grow7)
            obtain ⟨g7, c7, rfl, _⟩ := id o7
            clear o7 grow7 loc7 OA CQ AL
            go_wp2
            go_roundg (N - (j + 1))
            case rel =>
              refine ⟨j + 1, by omega, by go_num, ?_⟩
              have e9 := UP.out L (⟨op, d, a, b0, c0, nn, t⟩ : Ins) EQ.out
              rw [e9]
              have := S7.out
              simp only [List.length_append, List.length_singleton] at this ⊢
              exact this
            case measure => omega
          | true =>
            have h6 : op ≠ 6 := by simp at hdf; exact hdf.2
            have EQ0 : Hid (stepF L (⟨op, d, a, b0, c0, nn, t⟩ : Ins) ⟨pr, pi, pj, po⟩ = (dropF L d, (⟨op, d, a, b0, c0, nn, t⟩ : Ins))) := by show _ = _; simp [stepF, h4, h3, h6]
            obtain ⟨LD, hLD⟩ : ∃ LD, dropF L d = LD := ⟨_, rfl⟩
            have EQ : Hid (stepF L (⟨op, d, a, b0, c0, nn, t⟩ : Ins) ⟨pr, pi, pj, po⟩ = (LD, (⟨op, d, a, b0, c0, nn, t⟩ : Ins))) := by show _ = _; rw [EQ0.out, hLD]
            have DR := hideP (drop_any L d w4 w.heap.size _ S4.out.lst (by omega))
            rw [hLD] at DR
            have x1 := (cells_of X4.out).1 1
            simp at x1
            clear hdf SB BX EQ0 hLD
            go_wp2_with fail
            refine DR.out.mono ?_
            rintro e5 w5 ⟨v5, rfl, o5, b5⟩
            have S5 := hideP (S4.out.list b5 o5)
            have X5 := hideP (heldX X4.out b5)
            obtain ⟨g5, k5, rfl, _⟩ := id o5
            clear DR o5 b5 x1 S4 X4
            have fc := (cells_of X5.out).1
            have f0 := fc 0
            have f1 := fc 1
            have f2 := fc 2
            have f3 := fc 3
            have f4 := fc 4
            have f5 := fc 5
            have f6 := fc 6
            simp at f0 f1 f2 f3 f4 f5 f6
            clear fc
            have al := (Below.refl w5.heap.size w5).alloc (Nat.le_refl _) (.cells #[.int .i64 op, .int .i64 d, .int .i64 a, .int .i64 b0, .int .i64 c0, .int .i64 nn, .string t] 67)
            have OA := hideP (S5.out.out.stays al)
            have AL := hideP al
            have CQ : Hid (∀ r, r < InE.sz → (w5.alloc (.cells #[.int .i64 op, .int .i64 d, .int .i64 a, .int .i64 b0, .int .i64 c0, .int .i64 nn, .string t] 67)).cell? ⟨w5.heap.size, 0 + r, none⟩ = (InE.cs (⟨op, d, a, b0, c0, nn, t⟩ : Ins))[r]?) := fun r _ => by
              have := (cells_of (newX w5 #[.int .i64 op, .int .i64 d, .int .i64 a, .int .i64 b0, .int .i64 c0, .int .i64 nn, .string t] 67)).1 r
              rw [Nat.zero_add, this]; simp [InE]
            have hsz1 : Hid (w.heap.size ≤ (w5.alloc (.cells #[.int .i64 op, .int .i64 d, .int .i64 a, .int .i64 b0, .int .i64 c0, .int .i64 nn, .string t] 67)).heap.size) := Nat.le_trans S5.out.bel.size al.size
            clear al
            go_wp2_with (at_builtin; refine list_appE InOk _ rfl _ _ rfl w.heap.size _ O (⟨op, d, a, b0, c0, nn, t⟩ : Ins) w5.heap.size 0 1 rfl rfl OA.out CQ.out (by omega) hsz1.out ?_; intro v7 w7 o7 grow7 loc7)
            have S7 := hideP (S5.out.step AL.out o7 grow7)
            obtain ⟨g7, c7, rfl, _⟩ := id o7
            clear o7 grow7 loc7 OA CQ AL
            go_wp2
            go_roundg (N - (j + 1))
            case rel =>
              refine ⟨j + 1, by omega, by go_num, ?_⟩
              have e9 := UP.out LD (⟨op, d, a, b0, c0, nn, t⟩ : Ins) EQ.out
              rw [e9]
              have := S7.out
              simp only [List.length_append, List.length_singleton] at this ⊢
              exact this
            case measure => omega
    · have hjn : j = N := by omega
      subst hjn
      go_wp2
      go_ret
      exact ⟨_, rfl, hS.out.out, hS.out.bel⟩
end Go.Proofs.Ytljeahjcfbcbgaa
