/- The contracts of spec.l07Drop, l07Know, l07Stored and l07Def (written by wip/mkfwds.py). -/
import Derived.Test.YtelkpikbjfkpcaaGreatRowA
import Derived.Test.YtelkpikbjfkpcaaGreatFwdPQ
import Derived.Test.YtelkpikbjfkpcaaGreatOwnA
import Derived.Test.YtelkpikbjfkpcaaGreatLedAll
import Derived.Deep.CutRange
import Derived.Deep.RegionHeld3
import Derived.Deep.LoopGhost
import Derived.Test.YtelkpikbjfkpcaaGreatAliB
import Derived.Test.YtelkpikbjfkpcaaGreatSetAll
import Derived.Test.YtelkpikbjfkpcaaGreatL04All
import Derived.Test.YtelkpikbjfkpcaaGreatSymAll
namespace Go.Proofs.YtelkpikbjfkpcaaGreat
open Go.ChangeShapes Go.WideShapes Go.ChangeAt Go.RowKit
def PaE : Elem Pai := { T := 103, ST := 98, sz := 5, bys := 40, z := .agg #[.int .i64 0, .int .i64 0, .int .i64 0, .int .i64 0, .int .i64 0], cs := fun q => [.int .i64 q.1.r, .int .i64 q.1.i, .int .i64 q.1.j, .int .i64 q.1.off, .int .i64 q.2] }
theorem PaOk : PaE.Ok where
  und := Tryz.underlying98
  info := by kernel_rfl
  zs := rfl
  pos := by decide
  few := by decide
  len := fun _ => rfl
  one := fun x u hu => by simp [PaE] at hu; rcases hu with rfl | rfl | rfl | rfl | rfl <;> rfl
theorem pai_at {w : World} {B g n cap : Nat} {l : List Pai} (h : OwnE PaE w B (.slice (some ⟨g, 0, none⟩) n cap) l) (j : Nat) (hj : j < l.length) {pr pi pj po c : Int} (he : l[j] = (⟨pr, pi, pj, po⟩, c)) :
    w.cell? ⟨g, j * 5, none⟩ = some (.int .i64 pr) ∧ w.cell? ⟨g, j * 5 + 1, none⟩ = some (.int .i64 pi) ∧ w.cell? ⟨g, j * 5 + 2, none⟩ = some (.int .i64 pj) ∧ w.cell? ⟨g, j * 5 + 3, none⟩ = some (.int .i64 po) ∧ w.cell? ⟨g, j * 5 + 4, none⟩ = some (.int .i64 c) := by
  have h0 := h.at PaOk j hj 0 (by decide)
  have h1 := h.at PaOk j hj 1 (by decide)
  have h2 := h.at PaOk j hj 2 (by decide)
  have h3 := h.at PaOk j hj 3 (by decide)
  have h4 := h.at PaOk j hj 4 (by decide)
  rw [he] at h0 h1 h2 h3 h4
  simp [PaE] at h0 h1 h2 h3 h4
  exact ⟨h0, h1, h2, h3, h4⟩
theorem filt_take {f : Pai → Bool} {l : List Pai} {j : Nat} (h : j < l.length) : (l.take (j + 1)).filter f = (l.take j).filter f ++ (if f l[j] = true then [l[j]] else []) := by
  rw [List.take_succ_eq_append_getElem h, List.filter_append]
  by_cases e : f l[j] = true
  · simp [e]
  · simp [e]
theorem know_hit {l : List Pai} {p : Pla} {j : Nat} (h : j < l.length) (hn : ∀ k (hk : k < l.length), k < j → aliasP (l[k]).1 p ≠ 2) (ha : aliasP (l[j]).1 p = 2) : knowF l p = (l[j]).2 := by
  unfold knowF
  have e : l = l.take j ++ (l[j] :: l.drop (j + 1)) := by rw [← List.drop_eq_getElem_cons h, List.take_append_drop]
  have h0 : (l.take j).find? (fun q => decide (aliasP q.1 p = 2)) = none := List.find?_eq_none.2 (fun q hq => by
    obtain ⟨k, hk, rfl⟩ := List.getElem_of_mem hq
    simp at hk
    rw [List.getElem_take]
    simpa using hn k (by omega) (by omega))
  have : l.find? (fun q => decide (aliasP q.1 p = 2)) = some l[j] := by
    rw [congrArg (List.find? (fun q : Pai => decide (aliasP q.1 p = 2))) e, List.find?_append, h0, Option.none_or, List.find?_cons_of_pos (by simpa using ha)]
  rw [this]
theorem know_miss {l : List Pai} {p : Pla} (hn : ∀ k (hk : k < l.length), aliasP (l[k]).1 p ≠ 2) : knowF l p = -1 := by
  unfold knowF
  rw [List.find?_eq_none.2 (fun q hq => by
    obtain ⟨k, hk, rfl⟩ := List.getElem_of_mem hq
    simpa using hn k hk)]
theorem nilP (w : World) : (w.alloc (.cells #[] 103)).heap.size = w.heap.size + 1 := by simp
set_option maxRecDepth 100000 in
set_option maxHeartbeats 4000000 in
theorem drop_any (l : List Pai) (d : Int) (w : World) (B : Nat) (v : Value) (h : OwnE PaE w B v l) (hl : l.length ≤ 1000000) :
    Calls Tryz.prog 81 #[v, .int .i64 d] w fun e w' => ∃ v', e = .returned v' ∧ OwnE PaE w' w.heap.size v' (dropF l d) ∧ Below w.heap.size w w' := by
  obtain ⟨g, cap, rfl, _⟩ := id h
  have HO := hideP h
  have O0 := hideP (own_nil PaOk w w.heap.size rfl)
  have B0 := hideP ((Below.refl w.heap.size w).alloc (Nat.le_refl _) (.cells #[] 103))
  obtain ⟨N, hN⟩ : ∃ N, l.length = N := ⟨_, rfl⟩
  have HN := hideP hN
  rw [hN]
  rw [hN] at hl
  clear h hN
  go_enter Tryz.func81, Tryz.ntmps81
  go_wp2
  go_loopg [5, 6] N (fun gk q i wr => ∃ j : Nat, gk + j = N ∧ i = .int .i64 j ∧ Hid (OwnE PaE wr w.heap.size q (dropF (l.take j) d)) ∧ Hid (Below w.heap.size w wr))
  case atStart => exact ⟨0, by simp, rfl, O0.out, B0.out⟩
  case round =>
    obtain ⟨j, hj, rfl, ho, hb⟩ := hrel
    by_cases hlt : j < N
    · have hjl : j < l.length := by rw [HN.out]; exact hlt
      obtain ⟨Q, hQ⟩ : ∃ Q, l[j] = Q := ⟨_, rfl⟩
      obtain ⟨⟨pr, pi, pj, po⟩, c⟩ := Q
      obtain ⟨x0, x1, x2, x3, x4⟩ := pai_at (HO.out.stays hb.out) j hjl hQ
      have TK : Hid (dropF (l.take (j + 1)) d = dropF (l.take j) d ++ (if c ≠ d then [((⟨pr, pi, pj, po⟩, c) : Pai)] else [])) := by
        show _ = _
        unfold dropF
        rw [filt_take hjl, hQ]
        simp only [decide_eq_true_eq]
      have hlen : (dropF (l.take j) d).length ≤ 1000000 := Nat.le_trans (List.length_filter_le _ _) (by simp; omega)
      clear O0 B0 hQ
      by_cases hc : c = d
      · have E : Hid (dropF (l.take (j + 1)) d = dropF (l.take j) d) := by show _ = _; rw [TK.out, if_neg (by simpa using hc)]; simp
        subst hc
        go_wp2
        go_roundg (N - (j + 1))
        case rel => exact ⟨j + 1, by omega, by go_num, by rw [E.out]; exact ho.out, hb.out⟩
        case measure => omega
      · have E : Hid (dropF (l.take (j + 1)) d = dropF (l.take j) d ++ [((⟨pr, pi, pj, po⟩, c) : Pai)]) := by show _ = _; rw [TK.out, if_pos hc]
        have hcb : (c == d) = false := by simpa using hc
        obtain ⟨q, hq⟩ : ∃ q, dropF (l.take j) d = q := ⟨_, rfl⟩
        rw [hq] at ho E hlen
        obtain ⟨g5, c5, rfl, _⟩ := id ho.out
        have al := (Below.refl wr.heap.size wr).alloc (Nat.le_refl _) (.cells #[.int .i64 pr, .int .i64 pi, .int .i64 pj, .int .i64 po, .int .i64 c] 103)
        have OA := hideP (ho.out.stays al)
        have BA := hideP (hb.out.alloc hb.out.size (.cells #[.int .i64 pr, .int .i64 pi, .int .i64 pj, .int .i64 po, .int .i64 c] 103))
        have CQ : Hid (∀ r, r < PaE.sz → (wr.alloc (.cells #[.int .i64 pr, .int .i64 pi, .int .i64 pj, .int .i64 po, .int .i64 c] 103)).cell? ⟨wr.heap.size, 0 + r, none⟩ = (PaE.cs ((⟨pr, pi, pj, po⟩, c) : Pai))[r]?) := fun r _ => by
          have := (cells_of (heap_alloc_new wr (.cells #[.int .i64 pr, .int .i64 pi, .int .i64 pj, .int .i64 po, .int .i64 c] 103))).1 r
          rw [Nat.zero_add, this]; simp [PaE]
        have hsz1 : Hid (w.heap.size ≤ (wr.alloc (.cells #[.int .i64 pr, .int .i64 pi, .int .i64 pj, .int .i64 po, .int .i64 c] 103)).heap.size) := BA.out.size
        clear al
        clear hq TK
        go_wp2_with (at_builtin; refine list_appE PaOk _ rfl _ _ rfl w.heap.size _ q (⟨pr, pi, pj, po⟩, c) wr.heap.size 0 1 rfl rfl OA.out CQ.out (by omega) hsz1.out ?_; intro v6 w6 o6 grow6 loc6)
        have B6 := hideP (BA.out.grown grow6 BA.out.size (fun b' hb' => by have := OA.out.low b' hb'; omega))
        obtain ⟨g6, c6, rfl, _⟩ := id o6
        have O6 := hideP o6
        clear o6 grow6 loc6 OA BA CQ
        go_wp2
        go_roundg (N - (j + 1))
        case rel => exact ⟨j + 1, by omega, by go_num, by rw [E.out]; simpa using O6, B6.out⟩
        case measure => omega
    · have hjn : j = N := by omega
      subst hjn
      rw [← HN.out, List.take_length] at ho
      go_wp2
      go_ret
      exact ⟨_, rfl, ho.out, hb.out⟩
set_option maxRecDepth 100000 in
set_option maxHeartbeats 4000000 in
theorem know_any (l : List Pai) (p : Pla) (w : World) (B : Nat) (v : Value) (h : OwnE PaE w B v l) (hl : l.length ≤ 1000000) :
    Calls Tryz.prog 80 #[v, .agg (plV p)] w fun e w' => e = .returned (.int .i64 (knowF l p)) ∧ Below w.heap.size w w' := by
  obtain ⟨g, cap, rfl, _⟩ := id h
  obtain ⟨ar, ai, aj, ao⟩ := p
  simp only [plV]
  have HO := hideP h
  have hgl := (h.low g rfl).2
  have AL := hideP ((Below.refl w.heap.size w).alloc (Nat.le_refl _) (.cells #[.int .i64 ar, .int .i64 ai, .int .i64 aj, .int .i64 ao] 92))
  have BX : Hid ((w.alloc (.cells #[.int .i64 ar, .int .i64 ai, .int .i64 aj, .int .i64 ao] 92)).heap[w.heap.size]? = some (.cells #[.int .i64 ar, .int .i64 ai, .int .i64 aj, .int .i64 ao] 92 (0, 0))) := by show (w.heap.push _)[w.heap.size]? = _; exact Array.getElem?_push_size
  obtain ⟨N, hN⟩ : ∃ N, l.length = N := ⟨_, rfl⟩
  have HN := hideP hN
  rw [hN]
  rw [hN] at hl
  obtain ⟨R, hR⟩ : ∃ R, knowF l ⟨ar, ai, aj, ao⟩ = R := ⟨_, rfl⟩
  have HR := hideP hR
  rw [hR]
  clear h hN hR
  go_enter Tryz.func80, Tryz.ntmps80
  go_wp2
  go_loopg [5] N (fun gk i wr => ∃ j : Nat, gk + j = N ∧ i = .int .i64 j ∧ Hid (∀ k (hk : k < l.length), k < j → aliasP (l[k]).1 ⟨ar, ai, aj, ao⟩ ≠ 2) ∧ Hid (Below w.heap.size w wr) ∧ Hid (wr.heap[w.heap.size]? = some (.cells #[.int .i64 ar, .int .i64 ai, .int .i64 aj, .int .i64 ao] 92 (0, 0))))
  case atStart => exact ⟨0, by simp, rfl, fun k hk h0 => absurd h0 (Nat.not_lt_zero _), AL.out, BX.out⟩
  case round =>
    obtain ⟨j, hj, rfl, hno, hb, hbx⟩ := hrel
    clear AL BX
    by_cases hlt : j < N
    · have hjl : j < l.length := by rw [HN.out]; exact hlt
      obtain ⟨Q, hQ⟩ : ∃ Q, l[j] = Q := ⟨_, rfl⟩
      obtain ⟨⟨pr, pi, pj, po⟩, c⟩ := Q
      have SK : Hid (∀ (W' : World), Below wr.heap.size wr W' → (W'.cell? ⟨g, j * 5, none⟩ = some (.int .i64 pr) ∧ W'.cell? ⟨g, j * 5 + 1, none⟩ = some (.int .i64 pi) ∧ W'.cell? ⟨g, j * 5 + 2, none⟩ = some (.int .i64 pj) ∧ W'.cell? ⟨g, j * 5 + 3, none⟩ = some (.int .i64 po) ∧ W'.cell? ⟨w.heap.size, 0, none⟩ = some (.int .i64 ar) ∧ W'.cell? ⟨w.heap.size, 1, none⟩ = some (.int .i64 ai) ∧ W'.cell? ⟨w.heap.size, 2, none⟩ = some (.int .i64 aj) ∧ W'.cell? ⟨w.heap.size, 3, none⟩ = some (.int .i64 ao)) ∧ W'.cell? ⟨g, j * 5 + 4, none⟩ = some (.int .i64 c)) := fun W' hk => by
        obtain ⟨x0, x1, x2, x3, x4⟩ := pai_at (HO.out.stays (below_trans hb.out hk)) j hjl hQ
        have y := (cells_of ((hk.block _ (Array.getElem?_eq_some_iff.1 hbx.out).1).trans hbx.out)).1
        exact ⟨⟨x0, x1, x2, x3, y 0, y 1, y 2, y 3⟩, x4⟩
      obtain ⟨al, hal⟩ : ∃ al, aliasP ⟨pr, pi, pj, po⟩ ⟨ar, ai, aj, ao⟩ = al := ⟨_, rfl⟩
      have AI : Hid (∀ W, Calls Tryz.prog 122 #[.agg #[.int .i64 pr, .int .i64 pi, .int .i64 pj, .int .i64 po], .agg #[.int .i64 ar, .int .i64 ai, .int .i64 aj, .int .i64 ao]] W fun e w' => e = .returned (.int .i64 al) ∧ Below W.heap.size W w') := fun W => hal ▸ specAlias_any ⟨pr, pi, pj, po⟩ ⟨ar, ai, aj, ao⟩ W
      have HA : Hid (aliasP (l[j]).1 ⟨ar, ai, aj, ao⟩ = al) := by show _ = _; rw [hQ]; exact hal
      have HQ := hideP hQ
      have S1 : Hid (∀ (W' : World), Below wr.heap.size wr W' → W'.cell? ⟨g, j * 5, none⟩ = some (.int .i64 pr) ∧ W'.cell? ⟨g, j * 5 + 1, none⟩ = some (.int .i64 pi) ∧ W'.cell? ⟨g, j * 5 + 2, none⟩ = some (.int .i64 pj) ∧ W'.cell? ⟨g, j * 5 + 3, none⟩ = some (.int .i64 po) ∧ W'.cell? ⟨w.heap.size, 0, none⟩ = some (.int .i64 ar) ∧ W'.cell? ⟨w.heap.size, 1, none⟩ = some (.int .i64 ai) ∧ W'.cell? ⟨w.heap.size, 2, none⟩ = some (.int .i64 aj) ∧ W'.cell? ⟨w.heap.size, 3, none⟩ = some (.int .i64 ao)) := fun W' hk => (SK.out W' hk).1
      clear hal hQ
      go_upto_region 4 with fail
      go_region_held3 (fun W' => W'.cell? ⟨g, j * 5, none⟩ = some (.int .i64 pr) ∧ W'.cell? ⟨g, j * 5 + 1, none⟩ = some (.int .i64 pi) ∧ W'.cell? ⟨g, j * 5 + 2, none⟩ = some (.int .i64 pj) ∧ W'.cell? ⟨g, j * 5 + 3, none⟩ = some (.int .i64 po) ∧ W'.cell? ⟨w.heap.size, 0, none⟩ = some (.int .i64 ar) ∧ W'.cell? ⟨w.heap.size, 1, none⟩ = some (.int .i64 ai) ∧ W'.cell? ⟨w.heap.size, 2, none⟩ = some (.int .i64 aj) ∧ W'.cell? ⟨w.heap.size, 3, none⟩ = some (.int .i64 ao)) (first | with_reducible exact S1.out _ F5.out | with_reducible exact S1.out _ (Below.refl _ _).drew) (first
        | (go_at_call 122; refine (AI.out _).mono ?_; rintro e5 w5 ⟨rfl, b5⟩; have F5 : Hid (Below wr.heap.size wr w5) := (Below.refl _ _).drew.trans (b5.mono (Nat.le_refl _)); clear b5))
      have B5 := hideP (below_trans hb.out F5.out)
      have X5 := hideP ((F5.out.block _ (Array.getElem?_eq_some_iff.1 hbx.out).1).trans hbx.out)
      obtain ⟨⟨x0, x1, x2, x3, y0, y1, y2, y3⟩, x4⟩ := SK.out _ F5.out
      clear SK S1 AI
      by_cases hc : al = 2
      · subst hc
        have E : Hid (R = c) := by show _ = _; rw [← HR.out, know_hit hjl hno.out HA.out, HQ.out]
        go_wp2
        go_ret
        exact ⟨ret_int E.out.symm, B5.out⟩
      · have hcb : (al == 2) = false := by simpa using hc
        have N2 : Hid (∀ k (hk : k < l.length), k < j + 1 → aliasP (l[k]).1 ⟨ar, ai, aj, ao⟩ ≠ 2) := fun k hk h1 => by
          by_cases e : k = j
          · subst e; rw [HA.out]; exact hc
          · exact hno.out k hk (by omega)
        go_wp2
        go_roundg (N - (j + 1))
        case rel => exact ⟨j + 1, by omega, by go_num, N2.out, B5.out, X5.out⟩
        case measure => omega
    · have hjn : j = N := by omega
      subst hjn
      have E : Hid (R = -1) := by show _ = _; rw [← HR.out]; exact know_miss (fun k hk => hno.out k hk (by rw [← HN.out]; exact hk))
      go_wp2
      go_ret
      exact ⟨ret_int E.out.symm, hb.out⟩
set_option maxRecDepth 100000 in
set_option maxHeartbeats 4000000 in
theorem stored_any (l : List Pai) (p : Pla) (cz : Int) (w : World) (B : Nat) (v : Value) (h : OwnE PaE w B v l) (hl : l.length ≤ 1000000) :
    Calls Tryz.prog 79 #[v, .agg (plV p), .int .i64 cz] w fun e w' => ∃ v', e = .returned v' ∧ OwnE PaE w' w.heap.size v' (overF l p ++ [(p, cz)]) ∧ Below w.heap.size w w' := by
  obtain ⟨g, cap, rfl, _⟩ := id h
  obtain ⟨ar, ai, aj, ao⟩ := p
  simp only [plV]
  have HO := hideP h
  have hgl := (h.low g rfl).2
  have BX : Hid (((w.alloc (.cells #[.int .i64 ar, .int .i64 ai, .int .i64 aj, .int .i64 ao] 92)).alloc (.cells #[] 103)).heap[w.heap.size]? = some (.cells #[.int .i64 ar, .int .i64 ai, .int .i64 aj, .int .i64 ao] 92 (0, 0))) := (two (w := w) (o1 := .cells #[.int .i64 ar, .int .i64 ai, .int .i64 aj, .int .i64 ao] 92) (o2 := .cells #[] 103) (Below.refl _ _)).1
  have O0 : Hid (OwnE PaE ((w.alloc (.cells #[.int .i64 ar, .int .i64 ai, .int .i64 aj, .int .i64 ao] 92)).alloc (.cells #[] 103)) (w.heap.size + 1) (.slice (some ⟨w.heap.size + 1, 0, none⟩) 0 0) []) := by
    have := own_nil PaOk (w.alloc (.cells #[.int .i64 ar, .int .i64 ai, .int .i64 aj, .int .i64 ao] 92)) (w.heap.size + 1) (by simp)
    rw [show (w.alloc (.cells #[.int .i64 ar, .int .i64 ai, .int .i64 aj, .int .i64 ao] 92)).heap.size = w.heap.size + 1 by simp] at this
    exact this
  have B0 := hideP (below2 w (.cells #[.int .i64 ar, .int .i64 ai, .int .i64 aj, .int .i64 ao] 92) (.cells #[] 103))
  obtain ⟨N, hN⟩ : ∃ N, l.length = N := ⟨_, rfl⟩
  have HN := hideP hN
  rw [hN]
  rw [hN] at hl
  clear h hN
  go_enter Tryz.func79, Tryz.ntmps79
  go_wp2
  go_loopg [7, 8] N (fun gk q i wr => ∃ j : Nat, gk + j = N ∧ i = .int .i64 j ∧ Hid (OwnE PaE wr (w.heap.size + 1) q (overF (l.take j) ⟨ar, ai, aj, ao⟩)) ∧ Hid (Below w.heap.size w wr) ∧ Hid (wr.heap[w.heap.size]? = some (.cells #[.int .i64 ar, .int .i64 ai, .int .i64 aj, .int .i64 ao] 92 (0, 0))) ∧ Hid (w.heap.size + 1 ≤ wr.heap.size))
  case atStart => exact ⟨0, by simp, rfl, O0.out, B0.out, BX.out, by show _ ≤ _; simp⟩
  case round =>
    obtain ⟨j, hj, rfl, ho, hb, hbx, hsz⟩ := hrel
    clear O0 B0 BX
    have hlen : (overF (l.take j) ⟨ar, ai, aj, ao⟩).length ≤ 1000000 := Nat.le_trans (List.length_filter_le _ _) (by simp; omega)
    by_cases hlt : j < N
    · have hjl : j < l.length := by rw [HN.out]; exact hlt
      obtain ⟨Q, hQ⟩ : ∃ Q, l[j] = Q := ⟨_, rfl⟩
      obtain ⟨⟨pr, pi, pj, po⟩, c⟩ := Q
      have SK : Hid (∀ (W' : World), Below wr.heap.size wr W' → (W'.cell? ⟨g, j * 5, none⟩ = some (.int .i64 pr) ∧ W'.cell? ⟨g, j * 5 + 1, none⟩ = some (.int .i64 pi) ∧ W'.cell? ⟨g, j * 5 + 2, none⟩ = some (.int .i64 pj) ∧ W'.cell? ⟨g, j * 5 + 3, none⟩ = some (.int .i64 po) ∧ W'.cell? ⟨w.heap.size, 0, none⟩ = some (.int .i64 ar) ∧ W'.cell? ⟨w.heap.size, 1, none⟩ = some (.int .i64 ai) ∧ W'.cell? ⟨w.heap.size, 2, none⟩ = some (.int .i64 aj) ∧ W'.cell? ⟨w.heap.size, 3, none⟩ = some (.int .i64 ao)) ∧ W'.cell? ⟨g, j * 5 + 4, none⟩ = some (.int .i64 c)) := fun W' hk => by
        obtain ⟨x0, x1, x2, x3, x4⟩ := pai_at (HO.out.stays (below_trans hb.out hk)) j hjl hQ
        have y := (cells_of ((hk.block _ (Array.getElem?_eq_some_iff.1 hbx.out).1).trans hbx.out)).1
        exact ⟨⟨x0, x1, x2, x3, y 0, y 1, y 2, y 3⟩, x4⟩
      obtain ⟨al, hal⟩ : ∃ al, aliasP ⟨pr, pi, pj, po⟩ ⟨ar, ai, aj, ao⟩ = al := ⟨_, rfl⟩
      have AI : Hid (∀ W, Calls Tryz.prog 122 #[.agg #[.int .i64 pr, .int .i64 pi, .int .i64 pj, .int .i64 po], .agg #[.int .i64 ar, .int .i64 ai, .int .i64 aj, .int .i64 ao]] W fun e w' => e = .returned (.int .i64 al) ∧ Below W.heap.size W w') := fun W => hal ▸ specAlias_any ⟨pr, pi, pj, po⟩ ⟨ar, ai, aj, ao⟩ W
      have HA : Hid (aliasP (l[j]).1 ⟨ar, ai, aj, ao⟩ = al) := by show _ = _; rw [hQ]; exact hal
      have HQ := hideP hQ
      have S1 : Hid (∀ (W' : World), Below wr.heap.size wr W' → W'.cell? ⟨g, j * 5, none⟩ = some (.int .i64 pr) ∧ W'.cell? ⟨g, j * 5 + 1, none⟩ = some (.int .i64 pi) ∧ W'.cell? ⟨g, j * 5 + 2, none⟩ = some (.int .i64 pj) ∧ W'.cell? ⟨g, j * 5 + 3, none⟩ = some (.int .i64 po) ∧ W'.cell? ⟨w.heap.size, 0, none⟩ = some (.int .i64 ar) ∧ W'.cell? ⟨w.heap.size, 1, none⟩ = some (.int .i64 ai) ∧ W'.cell? ⟨w.heap.size, 2, none⟩ = some (.int .i64 aj) ∧ W'.cell? ⟨w.heap.size, 3, none⟩ = some (.int .i64 ao)) := fun W' hk => (SK.out W' hk).1
      clear hal hQ
      go_upto_region 5 with fail
      go_region_held3 (fun W' => W'.cell? ⟨g, j * 5, none⟩ = some (.int .i64 pr) ∧ W'.cell? ⟨g, j * 5 + 1, none⟩ = some (.int .i64 pi) ∧ W'.cell? ⟨g, j * 5 + 2, none⟩ = some (.int .i64 pj) ∧ W'.cell? ⟨g, j * 5 + 3, none⟩ = some (.int .i64 po) ∧ W'.cell? ⟨w.heap.size, 0, none⟩ = some (.int .i64 ar) ∧ W'.cell? ⟨w.heap.size, 1, none⟩ = some (.int .i64 ai) ∧ W'.cell? ⟨w.heap.size, 2, none⟩ = some (.int .i64 aj) ∧ W'.cell? ⟨w.heap.size, 3, none⟩ = some (.int .i64 ao)) (first | with_reducible exact S1.out _ F5.out | with_reducible exact S1.out _ (Below.refl _ _).drew) (first
        | (go_at_call 122; refine (AI.out _).mono ?_; rintro e5 w5 ⟨rfl, b5⟩; have F5 : Hid (Below wr.heap.size wr w5) := (Below.refl _ _).drew.trans (b5.mono (Nat.le_refl _)); clear b5))
      have B5 := hideP (below_trans hb.out F5.out)
      have X5 := hideP ((F5.out.block _ (Array.getElem?_eq_some_iff.1 hbx.out).1).trans hbx.out)
      obtain ⟨⟨x0, x1, x2, x3, y0, y1, y2, y3⟩, x4⟩ := SK.out _ F5.out
      clear SK S1 AI
      have TK : Hid (overF (l.take (j + 1)) ⟨ar, ai, aj, ao⟩ = overF (l.take j) ⟨ar, ai, aj, ao⟩ ++ (if al = 0 then [((⟨pr, pi, pj, po⟩, c) : Pai)] else [])) := by
        show _ = _
        unfold overF
        rw [filt_take hjl]
        simp only [decide_eq_true_eq]
        rw [HA.out, HQ.out]
      have O5 := hideP (ho.out.stays F5.out)
      have Z5 : Hid (w.heap.size + 1 ≤ w5.heap.size) := Nat.le_trans hsz.out F5.out.size
      clear ho hb hbx hsz F5 y0 y1 y2 y3
      by_cases hc : al = 0
      · have E : Hid (overF (l.take (j + 1)) ⟨ar, ai, aj, ao⟩ = overF (l.take j) ⟨ar, ai, aj, ao⟩ ++ [((⟨pr, pi, pj, po⟩, c) : Pai)]) := by show _ = _; rw [TK.out, if_pos hc]
        subst hc
        obtain ⟨q, hq⟩ : ∃ q, overF (l.take j) ⟨ar, ai, aj, ao⟩ = q := ⟨_, rfl⟩
        rw [hq] at O5 E hlen
        obtain ⟨g5, c5, rfl, _⟩ := id O5.out
        have al := (Below.refl w5.heap.size w5).alloc (Nat.le_refl _) (.cells #[.int .i64 pr, .int .i64 pi, .int .i64 pj, .int .i64 po, .int .i64 c] 103)
        have OA := hideP (O5.out.stays al)
        have BA := hideP (B5.out.alloc B5.out.size (.cells #[.int .i64 pr, .int .i64 pi, .int .i64 pj, .int .i64 po, .int .i64 c] 103))
        have CQ : Hid (∀ r, r < PaE.sz → (w5.alloc (.cells #[.int .i64 pr, .int .i64 pi, .int .i64 pj, .int .i64 po, .int .i64 c] 103)).cell? ⟨w5.heap.size, 0 + r, none⟩ = (PaE.cs ((⟨pr, pi, pj, po⟩, c) : Pai))[r]?) := fun r _ => by
          have := (cells_of (heap_alloc_new w5 (.cells #[.int .i64 pr, .int .i64 pi, .int .i64 pj, .int .i64 po, .int .i64 c] 103))).1 r
          rw [Nat.zero_add, this]; simp [PaE]
        have hsz1 : Hid (w.heap.size + 1 ≤ (w5.alloc (.cells #[.int .i64 pr, .int .i64 pi, .int .i64 pj, .int .i64 po, .int .i64 c] 103)).heap.size) := Nat.le_trans Z5.out al.size
        clear al
        have A5 := hideP ((((Below.refl w5.heap.size w5).alloc (Nat.le_refl _) (.cells #[.int .i64 pr, .int .i64 pi, .int .i64 pj, .int .i64 po, .int .i64 c] 103)).block _ (Array.getElem?_eq_some_iff.1 X5.out).1).trans X5.out)
        clear hq TK
        go_wp2_with (at_builtin; refine list_appE PaOk _ rfl _ _ rfl (w.heap.size + 1) _ q (⟨pr, pi, pj, po⟩, c) w5.heap.size 0 1 rfl rfl OA.out CQ.out (by omega) hsz1.out ?_; intro v6 w6 o6 grow6 loc6)
        have B6 := hideP (BA.out.grown grow6 BA.out.size (fun b' hb' => by have := OA.out.low b' hb'; omega))
        have X6 := hideP ((grow6.block w.heap.size (Array.getElem?_eq_some_iff.1 A5.out).1 (fun e => by have := OA.out.low _ e.symm; omega)).trans A5.out)
        have Z6 : Hid (w.heap.size + 1 ≤ w6.heap.size) := Nat.le_trans hsz1.out grow6.size
        obtain ⟨g6, c6, rfl, _⟩ := id o6
        have O6 := hideP o6
        clear o6 grow6 loc6 OA BA CQ A5
        go_wp2
        go_roundg (N - (j + 1))
        case rel => exact ⟨j + 1, by omega, by go_num, by rw [E.out]; simpa using O6, B6.out, X6.out, Z6.out⟩
        case measure => omega
      · have hcb : (al == 0) = false := by simpa using hc
        have E : Hid (overF (l.take (j + 1)) ⟨ar, ai, aj, ao⟩ = overF (l.take j) ⟨ar, ai, aj, ao⟩) := by show _ = _; rw [TK.out, if_neg hc, List.append_nil]
        go_wp2
        go_roundg (N - (j + 1))
        case rel => exact ⟨j + 1, by omega, by go_num, by rw [E.out]; exact O5.out, B5.out, X5.out, Z5.out⟩
        case measure => omega
    · have hjn : j = N := by omega
      subst hjn
      rw [← HN.out, List.take_length] at ho hlen
      obtain ⟨q, hq⟩ : ∃ q, overF l ⟨ar, ai, aj, ao⟩ = q := ⟨_, rfl⟩
      rw [hq] at ho hlen
      have HQQ := hideP hq
      obtain ⟨g5, c5, rfl, _⟩ := id ho.out
      have y := (cells_of hbx.out).1
      have y0 := y 0
      have y1 := y 1
      have y2 := y 2
      have y3 := y 3
      simp at y0 y1 y2 y3
      have al := (Below.refl wr.heap.size wr).alloc (Nat.le_refl _) (.cells #[.int .i64 ar, .int .i64 ai, .int .i64 aj, .int .i64 ao, .int .i64 cz] 103)
      have OA := hideP (ho.out.stays al)
      have BA := hideP (hb.out.alloc hb.out.size (.cells #[.int .i64 ar, .int .i64 ai, .int .i64 aj, .int .i64 ao, .int .i64 cz] 103))
      have CQ : Hid (∀ r, r < PaE.sz → (wr.alloc (.cells #[.int .i64 ar, .int .i64 ai, .int .i64 aj, .int .i64 ao, .int .i64 cz] 103)).cell? ⟨wr.heap.size, 0 + r, none⟩ = (PaE.cs ((⟨ar, ai, aj, ao⟩, cz) : Pai))[r]?) := fun r _ => by
        have := (cells_of (heap_alloc_new wr (.cells #[.int .i64 ar, .int .i64 ai, .int .i64 aj, .int .i64 ao, .int .i64 cz] 103))).1 r
        rw [Nat.zero_add, this]; simp [PaE]
      have hsz1 : Hid (w.heap.size + 1 ≤ (wr.alloc (.cells #[.int .i64 ar, .int .i64 ai, .int .i64 aj, .int .i64 ao, .int .i64 cz] 103)).heap.size) := Nat.le_trans hsz.out al.size
      clear al
      clear y hq
      go_wp2_with (at_builtin; refine list_appE PaOk _ rfl _ _ rfl (w.heap.size + 1) _ q (⟨ar, ai, aj, ao⟩, cz) wr.heap.size 0 1 rfl rfl OA.out CQ.out (by omega) hsz1.out ?_; intro v6 w6 o6 grow6 loc6)
      have B6 := hideP (BA.out.grown grow6 BA.out.size (fun b' hb' => by have := OA.out.low b' hb'; omega))
      have O6 := hideP o6
      clear o6 grow6 loc6 OA BA CQ
      go_wp2
      go_ret
      exact ⟨_, rfl, by rw [HQQ.out]; exact O6.out.mono (Nat.le_succ _), B6.out⟩
end Go.Proofs.YtelkpikbjfkpcaaGreat

/- The contract of spec.l07Block (written by wip/mkfwdsb.py). -/
namespace Go.Proofs.YtelkpikbjfkpcaaGreat
open Go.ChangeShapes Go.WideShapes Go.ChangeAt Go.RowKit
theorem stepF_few (l : List Pai) (x : Ins) (p : Pla) : (stepF l x p).1.length ≤ l.length + 1 := by
  have h1 := List.length_filter_le (fun q : Pai => decide (aliasP q.1 p = 0)) l
  have h2 := List.length_filter_le (fun q : Pai => decide (q.2 ≠ x.d)) l
  unfold stepF overF dropF
  repeat' split
  all_goals simp only [List.length_append, List.length_singleton]
  all_goals omega
theorem fwdUp_few (code : List Ins) (ps : List Pla) : ∀ j, (fwdUp code ps j).1.length ≤ j
  | 0 => by simp [fwdUp]
  | j + 1 => by
    have ih := fwdUp_few code ps j
    by_cases h : j < code.length ∧ j < ps.length
    · rw [fwdUp_at h.1 h.2]
      have := stepF_few (fwdUp code ps j).1 code[j] ps[j]
      simp only; omega
    · have : fwdUp code ps (j + 1) = fwdUp code ps j := by
        show (match code[j]?, ps[j]? with | some x, some p => _ | _, _ => _) = _
        by_cases h1 : j < code.length
        · rw [List.getElem?_eq_none (l := ps) (by omega)]
          cases code[j]? <;> rfl
        · rw [List.getElem?_eq_none (l := code) (by omega)]
      rw [this]; omega
theorem own_apart {w : World} {B B' : Nat} {v v' : Value} {l : List Ins} {l' : List Pai} (h : OwnE InE w B v l) (h' : OwnE PaE w B' v' l') : v'.ownBlock ≠ v.ownBlock := by
  obtain ⟨g, cap, cur, rfl, _, hh, _⟩ := h.parts InOk
  obtain ⟨g', cap', cur', rfl, _, hh', _⟩ := h'.parts PaOk
  intro e
  have e : g' = g := by simpa [Value.ownBlock] using e
  subst e
  rw [hh] at hh'
  injection hh' with hh'
  injection hh' with _ h2
  exact absurd h2 (by decide)
/-- Between two rounds: the steps, the pairs. -/
structure BkAt (w : World) (O : List Ins) (L : List Pai) (o l : Value) (W : World) : Prop where
  out : OwnE InE W w.heap.size o O
  lst : OwnE PaE W w.heap.size l L
  bel : Below w.heap.size w W
theorem BkAt.stays {w W W' : World} {O : List Ins} {L : List Pai} {o l : Value} (h : BkAt w O L o l W) (b : Below W.heap.size W W') : BkAt w O L o l W' := ⟨h.out.stays b, h.lst.stays b, below_trans h.bel b⟩
/-- Another list of pairs. -/
theorem BkAt.list {w W W' : World} {O : List Ins} {L L' : List Pai} {o l l' : Value} (h : BkAt w O L o l W) (b : Below W.heap.size W W') (hl : OwnE PaE W' W.heap.size l' L') : BkAt w O L' o l' W' := ⟨h.out.stays b, hl.mono h.bel.size, below_trans h.bel b⟩
/-- A pair is put behind. -/
theorem BkAt.pair {w W Wa W' : World} {O : List Ins} {L L' : List Pai} {o l l' : Value} (h : BkAt w O L o l W) (b : Below W.heap.size W Wa) (hl : OwnE PaE W' w.heap.size l' L') (hg : Wa.grownBy W' l.ownBlock) : BkAt w O L' o l' W' :=
  have ha := h.stays b
  ⟨ha.out.kept hg (fun e => own_apart ha.out ha.lst e.symm), hl, ha.bel.grown hg ha.bel.size (fun k hk => (ha.lst.low k hk).1)⟩
/-- A step is put behind. -/
theorem BkAt.step {w W Wa W' : World} {O O' : List Ins} {L : List Pai} {o l o' : Value} (h : BkAt w O L o l W) (b : Below W.heap.size W Wa) (ho : OwnE InE W' w.heap.size o' O') (hg : Wa.grownBy W' o.ownBlock) : BkAt w O' L o' l W' :=
  have ha := h.stays b
  ⟨ho, ha.lst.kept hg (own_apart ha.out ha.lst), ha.bel.grown hg ha.bel.size (fun k hk => (ha.out.low k hk).1)⟩
/-- A block besides is written that is none of these. -/
theorem BkAt.box {w W W' : World} {O : List Ins} {L : List Pai} {o l : Value} {g : Nat} (h : BkAt w O L o l W) (hb : But g W W') (hg : w.heap.size ≤ g) (h1 : o.ownBlock ≠ some g) (h2 : l.ownBlock ≠ some g) : BkAt w O L o l W' :=
  ⟨h.out.butG hb h1, h.lst.butG hb h2, h.bel.trans (hb.below hg h.bel.size)⟩
theorem newX (w : World) (cs : Array Value) (T : TypeId) : (w.alloc (.cells cs T)).heap[w.heap.size]? = some (.cells cs T (0, 0)) := by show (w.heap.push _)[w.heap.size]? = _; exact Array.getElem?_push_size
theorem heldX {W W' : World} {b : Nat} {o : Obj} (h : W.heap[b]? = some o) (bel : Below W.heap.size W W') : W'.heap[b]? = some o := (bel.block b (Array.getElem?_eq_some_iff.1 h).1).trans h
theorem ltX {W : World} {b : Nat} {o : Obj} (h : W.heap[b]? = some o) : b < W.heap.size := (Array.getElem?_eq_some_iff.1 h).1
set_option maxRecDepth 100000 in
set_option maxHeartbeats 16000000 in
theorem block07_any (code : List Ins) (ps : List Pla) (w : World) (B Bp gp kp cap : Nat) (u : Option Addr) (hc : SlIs InsIs 7 w B u code) (hp : OwnE PlE w Bp (.slice (some ⟨gp, 0, none⟩) ps.length kp) ps) (hpl : ps.length = code.length) (hl : code.length ≤ 1000) :
    Calls Tryz.prog 43 #[.slice u code.length cap, .slice (some ⟨gp, 0, none⟩) ps.length kp] w fun e w' => ∃ v', e = .returned v' ∧ OwnE InE w' w.heap.size v' (fwdUp code ps code.length).2 ∧ Below w.heap.size w w' := by
  have HC := hideP hc
  have HPP := hideP hp
  have HPL := hideP hpl
  have hgp := (hp.low gp rfl).2
  have S0 : Hid (BkAt w [] [] (.slice (some ⟨w.heap.size, 0, none⟩) 0 0) (.slice (some ⟨w.heap.size + 1, 0, none⟩) 0 0) ((w.alloc (.cells #[] 56)).alloc (.cells #[] 103))) := by
    have o1 := own_nil InOk w w.heap.size rfl
    have o2 := own_nil PaOk (w.alloc (.cells #[] 56)) (w.heap.size + 1) (by simp)
    exact ⟨o1.stays ((Below.refl _ _).alloc (Nat.le_refl _) _), o2.mono (by simp), below2 w _ _⟩
  obtain ⟨N, hN⟩ : ∃ N, code.length = N := ⟨_, rfl⟩
  have HN := hideP hN
  rw [hpl, hN]
  rw [hN] at hl
  clear hc hp hpl hN
  go_enter Tryz.func43, Tryz.ntmps43
  go_wp2
  go_loopg [5, 6, 7] N (fun gk q l i wr => ∃ j : Nat, gk + j = N ∧ i = .int .i64 j ∧ Hid (BkAt w (fwdUp code ps j).2 (fwdUp code ps j).1 q l wr))
  case atStart => exact ⟨0, by simp, rfl, by simpa [fwdUp] using S0⟩
  case round =>
    obtain ⟨j, hj, rfl, hS⟩ := hrel
    clear S0
    by_cases hlt : j < N
    · have hjc : j < code.length := by rw [HN.out]; exact hlt
      have hjp : j < ps.length := by rw [HPL.out]; exact hjc
      obtain ⟨bi, oi, op, d, a, b0, c0, nn, t, hu, _, hbi, hX, x0, x1, x2, x3, x4, x5, x6, hIns⟩ := Ins_get (HC.out.stays InsKeeps hS.out.bel) j hjc
      obtain ⟨Q, hQ⟩ : ∃ Q, ps[j] = Q := ⟨_, rfl⟩
      obtain ⟨pr, pi, pj, po⟩ := Q
      obtain ⟨L, hL⟩ : ∃ L, (fwdUp code ps j).1 = L := ⟨_, rfl⟩
      obtain ⟨O, hO⟩ : ∃ O, (fwdUp code ps j).2 = O := ⟨_, rfl⟩
      have hLn : L.length ≤ 1000 := by rw [← hL]; have := fwdUp_few code ps j; omega
      have hOn : O.length ≤ 1000 := by rw [← hO, fwdUp_len HPL.out j (by omega)]; omega
      have UP : Hid (∀ L' y, stepF L (⟨op, d, a, b0, c0, nn, t⟩ : Ins) ⟨pr, pi, pj, po⟩ = (L', y) → fwdUp code ps (j + 1) = (L', O ++ [y])) := fun L' y hy => by rw [fwdUp_at hjc hjp, hX, hQ, hL, hO, hy]
      rw [hL, hO] at hS
      obtain ⟨go, co, rfl, _⟩ := id hS.out.out
      obtain ⟨gl, cl, rfl, _⟩ := id hS.out.lst
      have hgo := hS.out.out.low go rfl
      have hgl := hS.out.lst.low gl rfl
      subst hu
      have PA := pla_at HPP.out j hjp
      rw [hQ] at PA
      have HPA := hideP PA
      have al := (Below.refl wr.heap.size wr).alloc (Nat.le_refl _) (.cells #[.int .i64 op, .int .i64 d, .int .i64 a, .int .i64 b0, .int .i64 c0, .int .i64 nn, .string t] 56)
      have SB := hideP (hS.out.stays al)
      have BX := hideP (newX wr #[.int .i64 op, .int .i64 d, .int .i64 a, .int .i64 b0, .int .i64 c0, .int .i64 nn, .string t] 56)
      have HI := hideP hIns
      clear hX hQ hL hO hIns PA al hS
      go_upto_region 7 with fail
      clear x0 x1 x2 x3 x4 x5 x6
      obtain ⟨wb, hwb⟩ : ∃ wb, wr.alloc (.cells #[.int .i64 op, .int .i64 d, .int .i64 a, .int .i64 b0, .int .i64 c0, .int .i64 nn, .string t] 56) = wb := ⟨_, rfl⟩
      have hwz : wb.heap.size = wr.heap.size + 1 := by rw [← hwb]; simp
      rw [hwb] at SB BX ⊢
      have HWZ := hideP hwz
      clear hwb hwz
      have pcells : Hid (∀ (W : World), Below w.heap.size w W → W.cell? ⟨gp, j * 4, none⟩ = some (.int .i64 pr) ∧ W.cell? ⟨gp, j * 4 + 1, none⟩ = some (.int .i64 pi) ∧ W.cell? ⟨gp, j * 4 + 2, none⟩ = some (.int .i64 pj) ∧ W.cell? ⟨gp, j * 4 + 3, none⟩ = some (.int .i64 po)) := fun W hW => ⟨(hW.cell (p := ⟨gp, _, none⟩) hgp).trans HPA.out.1, (hW.cell (p := ⟨gp, _, none⟩) hgp).trans HPA.out.2.1, (hW.cell (p := ⟨gp, _, none⟩) hgp).trans HPA.out.2.2.1, (hW.cell (p := ⟨gp, _, none⟩) hgp).trans HPA.out.2.2.2⟩
      have xc := (cells_of BX.out).1
      have x0 := xc 0
      have x1 := xc 1
      have x2 := xc 2
      have x3 := xc 3
      have x4 := xc 4
      have x5 := xc 5
      have x6 := xc 6
      simp at x0 x1 x2 x3 x4 x5 x6
      clear xc
      by_cases h4 : op = 4
      · subst h4
        have EQ : Hid (stepF L (⟨4, d, a, b0, c0, nn, t⟩ : Ins) ⟨pr, pi, pj, po⟩ = (overF L ⟨pr, pi, pj, po⟩ ++ [(⟨pr, pi, pj, po⟩, c0)], ⟨4, d, a, b0, c0, nn, t⟩)) := by show _ = _; simp [stepF]
        obtain ⟨LP, hLP⟩ : ∃ LP, overF L ⟨pr, pi, pj, po⟩ ++ [(⟨pr, pi, pj, po⟩, c0)] = LP := ⟨_, rfl⟩
        have ST : Hid (∀ W, Below wb.heap.size wb W → Calls Tryz.prog 79 #[.slice (some ⟨gl, 0, none⟩) L.length cl, .agg #[.int .i64 pr, .int .i64 pi, .int .i64 pj, .int .i64 po], .int .i64 c0] W fun e w' => ∃ g5 k5, e = .returned (.slice (some ⟨g5, 0, none⟩) LP.length k5) ∧ OwnE PaE w' wb.heap.size (.slice (some ⟨g5, 0, none⟩) LP.length k5) LP ∧ Below wb.heap.size wb w') := fun W hW => by
          refine (stored_any L ⟨pr, pi, pj, po⟩ c0 W w.heap.size _ (SB.out.lst.stays hW) (by omega)).mono ?_
          rintro e5 w5 ⟨v5, rfl, o5, b5⟩
          rw [hLP] at o5
          obtain ⟨g5, k5, rfl, _⟩ := id o5
          exact ⟨g5, k5, rfl, o5.mono hW.size, below_trans hW b5⟩
        rw [hLP] at EQ
        have SK : Hid (∀ (W' : World), Below wb.heap.size wb W' → W'.cell? ⟨gp, j * 4, none⟩ = some (.int .i64 pr) ∧ W'.cell? ⟨gp, j * 4 + 1, none⟩ = some (.int .i64 pi) ∧ W'.cell? ⟨gp, j * 4 + 2, none⟩ = some (.int .i64 pj) ∧ W'.cell? ⟨gp, j * 4 + 3, none⟩ = some (.int .i64 po) ∧ W'.cell? ⟨wr.heap.size, 4, none⟩ = some (.int .i64 c0)) := fun W' hk => by
          have y := pcells.out W' (below_trans SB.out.bel hk)
          exact ⟨y.1, y.2.1, y.2.2.1, y.2.2.2, (cells_of (heldX BX.out hk)).1 4⟩
        clear hLP
        go_upto_region 8 with fail
        clear x0 x1 x2 x3 x4 x5 x6
        go_region_held3 (fun W' => W'.cell? ⟨gp, j * 4, none⟩ = some (.int .i64 pr) ∧ W'.cell? ⟨gp, j * 4 + 1, none⟩ = some (.int .i64 pi) ∧ W'.cell? ⟨gp, j * 4 + 2, none⟩ = some (.int .i64 pj) ∧ W'.cell? ⟨gp, j * 4 + 3, none⟩ = some (.int .i64 po) ∧ W'.cell? ⟨wr.heap.size, 4, none⟩ = some (.int .i64 c0)) (first | with_reducible exact SK.out _ F5.out | with_reducible exact SK.out _ (Below.refl _ _).drew) (first
          | (go_at_call 79; refine (ST.out _ (Below.refl _ _).drew).mono ?_; rintro e5 w5 ⟨g5, k5, rfl, o5, b5⟩; have F5 := hideP b5; have S5 := hideP (SB.out.list b5 o5); clear b5 o5))
        have X5 := hideP (heldX BX.out F5.out)
        clear SK ST F5 SB BX
        have fc := (cells_of X5.out).1
        have f0 := fc 0
        have f1 := fc 1
        have f2 := fc 2
        have f3 := fc 3
        have f4 := fc 4
        have f5 := fc 5
        have f6 := fc 6
        simp at f0 f1 f2 f3 f4 f5 f6
        clear fc
        have al := (Below.refl w5.heap.size w5).alloc (Nat.le_refl _) (.cells #[.int .i64 4, .int .i64 d, .int .i64 a, .int .i64 b0, .int .i64 c0, .int .i64 nn, .string t] 56)
        have OA := hideP (S5.out.out.stays al)
        have AL := hideP al
        have CQ : Hid (∀ r, r < InE.sz → (w5.alloc (.cells #[.int .i64 4, .int .i64 d, .int .i64 a, .int .i64 b0, .int .i64 c0, .int .i64 nn, .string t] 56)).cell? ⟨w5.heap.size, 0 + r, none⟩ = (InE.cs (⟨4, d, a, b0, c0, nn, t⟩ : Ins))[r]?) := fun r _ => by
          have := (cells_of (newX w5 #[.int .i64 4, .int .i64 d, .int .i64 a, .int .i64 b0, .int .i64 c0, .int .i64 nn, .string t] 56)).1 r
          rw [Nat.zero_add, this]; simp [InE]
        have hsz1 : Hid (w.heap.size ≤ (w5.alloc (.cells #[.int .i64 4, .int .i64 d, .int .i64 a, .int .i64 b0, .int .i64 c0, .int .i64 nn, .string t] 56)).heap.size) := Nat.le_trans S5.out.bel.size al.size
        clear al
        go_wp2_with (at_builtin; refine list_appE InOk _ rfl _ _ rfl w.heap.size _ O (⟨4, d, a, b0, c0, nn, t⟩ : Ins) w5.heap.size 0 1 rfl rfl OA.out CQ.out (by omega) hsz1.out ?_; intro v7 w7 o7 grow7 loc7)
        have S7 := hideP (S5.out.step AL.out o7 grow7)
        obtain ⟨g7, c7, rfl, _⟩ := id o7
        clear o7 grow7 loc7 OA CQ AL
        go_wp2
        go_roundg (N - (j + 1))
        case rel =>
          refine ⟨j + 1, by omega, by go_num, ?_⟩
          have e9 := UP.out LP (⟨4, d, a, b0, c0, nn, t⟩ : Ins) EQ.out
          rw [e9]
          have := S7.out
          simp only [List.length_append, List.length_singleton] at this ⊢
          exact this
        case measure => omega
      · by_cases h3 : op = 3
        · subst h3
          have KN : Hid (∀ W, Below wb.heap.size wb W → Calls Tryz.prog 80 #[.slice (some ⟨gl, 0, none⟩) L.length cl, .agg #[.int .i64 pr, .int .i64 pi, .int .i64 pj, .int .i64 po]] W fun e w' => e = .returned (.int .i64 (knowF L ⟨pr, pi, pj, po⟩)) ∧ Below W.heap.size W w') := fun W hW => know_any L ⟨pr, pi, pj, po⟩ W w.heap.size _ (SB.out.lst.stays hW) (by omega)
          obtain ⟨kp, hkp⟩ : ∃ kp, knowF L ⟨pr, pi, pj, po⟩ = kp := ⟨_, rfl⟩
          obtain ⟨LD, hLD⟩ : ∃ LD, dropF L d = LD := ⟨_, rfl⟩
          have hLDn : LD.length ≤ 1000 := by rw [← hLD]; exact Nat.le_trans (List.length_filter_le _ _) hLn
          have DR : Hid (∀ W, Below wb.heap.size wb W → Calls Tryz.prog 81 #[.slice (some ⟨gl, 0, none⟩) L.length cl, .int .i64 d] W fun e w' => ∃ g5 k5, e = .returned (.slice (some ⟨g5, 0, none⟩) LD.length k5) ∧ OwnE PaE w' W.heap.size (.slice (some ⟨g5, 0, none⟩) LD.length k5) LD ∧ Below W.heap.size W w') := fun W hW => by
            refine (drop_any L d W w.heap.size _ (SB.out.lst.stays hW) (by omega)).mono ?_
            rintro e5 w5 ⟨v5, rfl, o5, b5⟩
            rw [hLD] at o5
            obtain ⟨g5, k5, rfl, _⟩ := id o5
            exact ⟨g5, k5, rfl, o5, b5⟩
          have EQ1 : Hid (stepF L (⟨3, d, a, b0, c0, nn, t⟩ : Ins) ⟨pr, pi, pj, po⟩ = if 0 ≤ kp then (LD, movF d kp) else (LD ++ [(⟨pr, pi, pj, po⟩, d)], ⟨3, d, a, b0, c0, nn, t⟩)) := by show _ = _; rw [← hkp, ← hLD]; simp [stepF]
          rw [hkp] at KN
          clear hkp hLD
          obtain ⟨p0, p1, p2, p3⟩ := pcells.out wb SB.out.bel
          go_wp2_with fail
          refine (KN.out _ (Below.refl _ _)).mono ?_
          rintro e4 w4 ⟨rfl, b4⟩
          have F4 := hideP b4
          have X4 := heldX BX.out b4
          clear p0 p1 p2 p3 x0 x1 x2 x3 x4 x5 x6 KN b4
          have x1 := (cells_of X4).1 1
          simp at x1
          have HX4 := hideP X4
          clear X4
          go_wp2_with fail
          refine (DR.out _ F4.out).mono ?_
          rintro e5 w5 ⟨g5, k5, rfl, o5, b5⟩
          have S5 := hideP ((SB.out.stays F4.out).list b5 o5)
          have X5 := hideP (heldX HX4.out b5)
          have hg5 := o5.low g5 rfl
          have hz4 : wr.heap.size < w4.heap.size := ltX HX4.out
          clear DR o5 b5 x1 HX4 F4 SB BX
          by_cases hk : 0 ≤ kp
          · have EQ : Hid (stepF L (⟨3, d, a, b0, c0, nn, t⟩ : Ins) ⟨pr, pi, pj, po⟩ = (LD, (⟨1, d, kp, 0, 0, 0, ⟨#[]⟩⟩ : Ins))) := by show _ = _; rw [EQ1.out, if_pos hk]; rfl
            have z := X5.out
            have r0 := (cells_of z).1 0
            have r1 := (cells_of z).1 1
            have r2 := (cells_of z).1 2
            have r3 := (cells_of z).1 3
            have r4 := (cells_of z).1 4
            have r5 := (cells_of z).1 5
            have r6 := (cells_of z).1 6
            have rf := (cells_of z).2
            simp at r0 r1 r2 r3 r4 r5 r6
            have z0 := heap_setCell_same w5 _ 0 _ _ (.int .i64 1) z
            have z1 := heap_setCell_same _ _ 1 _ _ (.int .i64 d) z0
            have z2 := heap_setCell_same _ _ 2 _ _ (.int .i64 kp) z1
            have z3 := heap_setCell_same _ _ 3 _ _ (.int .i64 0) z2
            have z4 := heap_setCell_same _ _ 4 _ _ (.int .i64 0) z3
            have z5 := heap_setCell_same _ _ 5 _ _ (.int .i64 0) z4
            have z6 : (((((((w5.setCell ⟨wr.heap.size, 0, none⟩ (.int .i64 1)).setCell ⟨wr.heap.size, 1, none⟩ (.int .i64 d)).setCell ⟨wr.heap.size, 2, none⟩ (.int .i64 kp)).setCell ⟨wr.heap.size, 3, none⟩ (.int .i64 0)).setCell ⟨wr.heap.size, 4, none⟩ (.int .i64 0)).setCell ⟨wr.heap.size, 5, none⟩ (.int .i64 0)).setCell ⟨wr.heap.size, 6, none⟩ (.string ⟨#[]⟩)).heap[wr.heap.size]? = some (.cells #[.int .i64 1, .int .i64 d, .int .i64 kp, .int .i64 0, .int .i64 0, .int .i64 0, .string ⟨#[]⟩] 56 (0, 0)) := heap_setCell_same _ _ 6 _ _ (.string ⟨#[]⟩) z5
            have ZF := hideP z6
            have BU : Hid (But wr.heap.size w5 (((((((w5.setCell ⟨wr.heap.size, 0, none⟩ (.int .i64 1)).setCell ⟨wr.heap.size, 1, none⟩ (.int .i64 d)).setCell ⟨wr.heap.size, 2, none⟩ (.int .i64 kp)).setCell ⟨wr.heap.size, 3, none⟩ (.int .i64 0)).setCell ⟨wr.heap.size, 4, none⟩ (.int .i64 0)).setCell ⟨wr.heap.size, 5, none⟩ (.int .i64 0)).setCell ⟨wr.heap.size, 6, none⟩ (.string ⟨#[]⟩))) := ((((((((But.refl wr.heap.size w5).set 0 (.int .i64 1)).set 1 (.int .i64 d)).set 2 (.int .i64 kp)).set 3 (.int .i64 0)).set 4 (.int .i64 0)).set 5 (.int .i64 0)).set 6 (.string ⟨#[]⟩))
            have SZ := hideP (S5.out.box BU.out (by omega) (by simp [Value.ownBlock]; omega) (by simp [Value.ownBlock]; omega))
            clear z z0 z1 z2 z3 z4 z5 z6
            go_upto_region 17 with fail
            obtain ⟨wz, hwz⟩ : ∃ wz, (((((((w5.setCell ⟨wr.heap.size, 0, none⟩ (.int .i64 1)).setCell ⟨wr.heap.size, 1, none⟩ (.int .i64 d)).setCell ⟨wr.heap.size, 2, none⟩ (.int .i64 kp)).setCell ⟨wr.heap.size, 3, none⟩ (.int .i64 0)).setCell ⟨wr.heap.size, 4, none⟩ (.int .i64 0)).setCell ⟨wr.heap.size, 5, none⟩ (.int .i64 0)).setCell ⟨wr.heap.size, 6, none⟩ (.string ⟨#[]⟩)) = wz := ⟨_, rfl⟩
            rw [hwz] at ZF SZ ⊢
            clear hwz r0 r1 r2 r3 r4 r5 r6 rf BU X5 S5
            have fc := (cells_of ZF.out).1
            have f0 := fc 0
            have f1 := fc 1
            have f2 := fc 2
            have f3 := fc 3
            have f4 := fc 4
            have f5 := fc 5
            have f6 := fc 6
            simp at f0 f1 f2 f3 f4 f5 f6
            clear fc
            have al := (Below.refl wz.heap.size wz).alloc (Nat.le_refl _) (.cells #[.int .i64 1, .int .i64 d, .int .i64 kp, .int .i64 0, .int .i64 0, .int .i64 0, .string ⟨#[]⟩] 56)
            have OA := hideP (SZ.out.out.stays al)
            have AL := hideP al
            have CQ : Hid (∀ r, r < InE.sz → (wz.alloc (.cells #[.int .i64 1, .int .i64 d, .int .i64 kp, .int .i64 0, .int .i64 0, .int .i64 0, .string ⟨#[]⟩] 56)).cell? ⟨wz.heap.size, 0 + r, none⟩ = (InE.cs (⟨1, d, kp, 0, 0, 0, ⟨#[]⟩⟩ : Ins))[r]?) := fun r _ => by
              have := (cells_of (newX wz #[.int .i64 1, .int .i64 d, .int .i64 kp, .int .i64 0, .int .i64 0, .int .i64 0, .string ⟨#[]⟩] 56)).1 r
              rw [Nat.zero_add, this]; simp [InE]
            have hsz1 : Hid (w.heap.size ≤ (wz.alloc (.cells #[.int .i64 1, .int .i64 d, .int .i64 kp, .int .i64 0, .int .i64 0, .int .i64 0, .string ⟨#[]⟩] 56)).heap.size) := Nat.le_trans SZ.out.bel.size al.size
            clear al
            go_wp2_with (at_builtin; refine list_appE InOk _ rfl _ _ rfl w.heap.size _ O (⟨1, d, kp, 0, 0, 0, ⟨#[]⟩⟩ : Ins) wz.heap.size 0 1 rfl rfl OA.out CQ.out (by omega) hsz1.out ?_; intro v7 w7 o7 grow7 loc7)
            have S7 := hideP (SZ.out.step AL.out o7 grow7)
            obtain ⟨g7, c7, rfl, _⟩ := id o7
            clear o7 grow7 loc7 OA CQ AL
            go_wp2
            go_roundg (N - (j + 1))
            case rel =>
              refine ⟨j + 1, by omega, by go_num, ?_⟩
              have e9 := UP.out LD (⟨1, d, kp, 0, 0, 0, ⟨#[]⟩⟩ : Ins) EQ.out
              rw [e9]
              have := S7.out
              simp only [List.length_append, List.length_singleton] at this ⊢
              exact this
            case measure => omega
          · have EQ : Hid (stepF L (⟨3, d, a, b0, c0, nn, t⟩ : Ins) ⟨pr, pi, pj, po⟩ = (LD ++ [(⟨pr, pi, pj, po⟩, d)], (⟨3, d, a, b0, c0, nn, t⟩ : Ins))) := by show _ = _; rw [EQ1.out, if_neg hk]
            have SK : Hid (∀ (W' : World), KpL w5 (some g5) W' → W'.cell? ⟨gp, j * 4, none⟩ = some (.int .i64 pr) ∧ W'.cell? ⟨gp, j * 4 + 1, none⟩ = some (.int .i64 pi) ∧ W'.cell? ⟨gp, j * 4 + 2, none⟩ = some (.int .i64 pj) ∧ W'.cell? ⟨gp, j * 4 + 3, none⟩ = some (.int .i64 po) ∧ W'.cell? ⟨wr.heap.size, 1, none⟩ = some (.int .i64 d)) := fun W' hk2 => by
              have y := pcells.out w5 S5.out.bel
              have hgw : gp < w5.heap.size := Nat.lt_of_lt_of_le hgp S5.out.bel.size
              have hc2 : ∀ i u, w5.cell? ⟨gp, i, none⟩ = some u → W'.cell? ⟨gp, i, none⟩ = some u := fun i u hu2 => (World.cell?_of_block (a := ⟨gp, i, none⟩) (hk2 gp hgw (by simp; omega))).trans hu2
              exact ⟨hc2 _ _ y.1, hc2 _ _ y.2.1, hc2 _ _ y.2.2.1, hc2 _ _ y.2.2.2, (cells_of ((hk2 wr.heap.size (ltX X5.out) (by simp; omega)).trans X5.out)).1 1⟩
            have AD : Hid (Below w5.heap.size w5 (w5.alloc (.cells #[.int .i64 pr, .int .i64 pi, .int .i64 pj, .int .i64 po, .int .i64 d] 103)).drew) := ((Below.refl w5.heap.size w5).alloc (Nat.le_refl _) (.cells #[.int .i64 pr, .int .i64 pi, .int .i64 pj, .int .i64 po, .int .i64 d] 103)).drew
            have OA := hideP (S5.out.lst.stays AD.out)
            have CQ : Hid (∀ r, r < PaE.sz → (w5.alloc (.cells #[.int .i64 pr, .int .i64 pi, .int .i64 pj, .int .i64 po, .int .i64 d] 103)).drew.cell? ⟨w5.heap.size, 0 + r, none⟩ = (PaE.cs ((⟨pr, pi, pj, po⟩, d) : Pai))[r]?) := fun r _ => by
              have := (cells_of (newX w5 #[.int .i64 pr, .int .i64 pi, .int .i64 pj, .int .i64 po, .int .i64 d] 103)).1 r
              rw [Nat.zero_add]
              refine Eq.trans this ?_
              simp [PaE]
            have hsz1 : Hid (w.heap.size ≤ (w5.alloc (.cells #[.int .i64 pr, .int .i64 pi, .int .i64 pj, .int .i64 po, .int .i64 d] 103)).drew.heap.size) := Nat.le_trans S5.out.bel.size AD.out.size
            go_upto_region 14 with fail
            go_region_held3 (fun W' => W'.cell? ⟨gp, j * 4, none⟩ = some (.int .i64 pr) ∧ W'.cell? ⟨gp, j * 4 + 1, none⟩ = some (.int .i64 pi) ∧ W'.cell? ⟨gp, j * 4 + 2, none⟩ = some (.int .i64 pj) ∧ W'.cell? ⟨gp, j * 4 + 3, none⟩ = some (.int .i64 po) ∧ W'.cell? ⟨wr.heap.size, 1, none⟩ = some (.int .i64 d)) (first | with_reducible exact SK.out _ K6.out | with_reducible exact SK.out _ (KpL.of AD.out) | with_reducible exact SK.out _ (KpL.drew _ _)) (first
              | (refine step_appE PaOk _ rfl _ _ rfl w.heap.size _ LD (⟨pr, pi, pj, po⟩, d) w5.heap.size 0 1 rfl rfl OA.out CQ.out (by omega) hsz1.out ?_; intro v6 w6 o6 grow6 loc6; have S6 := hideP (S5.out.pair AD.out o6 grow6); have K6 : Hid (KpL w5 (some g5) w6) := KpL.grown AD.out grow6; obtain ⟨g6, c6, rfl, _⟩ := id o6; clear o6 grow6 loc6))
            have X6 := hideP ((K6.out wr.heap.size (ltX X5.out) (by simp; omega)).trans X5.out)
            clear SK AD OA CQ hsz1 K6 S5 X5
            have fc := (cells_of X6.out).1
            have f0 := fc 0
            have f1 := fc 1
            have f2 := fc 2
            have f3 := fc 3
            have f4 := fc 4
            have f5 := fc 5
            have f6 := fc 6
            simp at f0 f1 f2 f3 f4 f5 f6
            clear fc
            have al := (Below.refl w6.heap.size w6).alloc (Nat.le_refl _) (.cells #[.int .i64 3, .int .i64 d, .int .i64 a, .int .i64 b0, .int .i64 c0, .int .i64 nn, .string t] 56)
            have OA := hideP (S6.out.out.stays al)
            have AL := hideP al
            have CQ : Hid (∀ r, r < InE.sz → (w6.alloc (.cells #[.int .i64 3, .int .i64 d, .int .i64 a, .int .i64 b0, .int .i64 c0, .int .i64 nn, .string t] 56)).cell? ⟨w6.heap.size, 0 + r, none⟩ = (InE.cs (⟨3, d, a, b0, c0, nn, t⟩ : Ins))[r]?) := fun r _ => by
              have := (cells_of (newX w6 #[.int .i64 3, .int .i64 d, .int .i64 a, .int .i64 b0, .int .i64 c0, .int .i64 nn, .string t] 56)).1 r
              rw [Nat.zero_add, this]; simp [InE]
            have hsz1 : Hid (w.heap.size ≤ (w6.alloc (.cells #[.int .i64 3, .int .i64 d, .int .i64 a, .int .i64 b0, .int .i64 c0, .int .i64 nn, .string t] 56)).heap.size) := Nat.le_trans S6.out.bel.size al.size
            clear al
            go_wp2_with (at_builtin; refine list_appE InOk _ rfl _ _ rfl w.heap.size _ O (⟨3, d, a, b0, c0, nn, t⟩ : Ins) w6.heap.size 0 1 rfl rfl OA.out CQ.out (by omega) hsz1.out ?_; intro v7 w7 o7 grow7 loc7)
            have S7 := hideP (S6.out.step AL.out o7 grow7)
            obtain ⟨g7, c7, rfl, _⟩ := id o7
            clear o7 grow7 loc7 OA CQ AL
            go_wp2
            go_roundg (N - (j + 1))
            case rel =>
              refine ⟨j + 1, by omega, by go_num, ?_⟩
              have e9 := UP.out (LD ++ [((⟨pr, pi, pj, po⟩, d) : Pai)]) (⟨3, d, a, b0, c0, nn, t⟩ : Ins) EQ.out
              rw [e9]
              have := S7.out
              simp only [List.length_append, List.length_singleton] at this ⊢
              exact this
            case measure => omega
        · have h4b : (op == 4) = false := by simpa using h4
          have h3b : (op == 3) = false := by simpa using h3
          obtain ⟨df, hdf⟩ : ∃ df, decide (op ≠ 4 ∧ op ≠ 6) = df := ⟨_, rfl⟩
          have DE : Hid (∀ W, Calls Tryz.prog 73 #[.agg #[.int .i64 op, .int .i64 d, .int .i64 a, .int .i64 b0, .int .i64 c0, .int .i64 nn, .string t]] W fun e w' => e = .returned (.bool df) ∧ Below W.heap.size W w') := fun W => hdf ▸ def_any ⟨op, d, a, b0, c0, nn, t⟩ W
          go_wp2_with fail
          refine (DE.out _).mono ?_
          rintro e4 w4 ⟨rfl, b4⟩
          have S4 := hideP (SB.out.stays b4)
          have X4 := hideP (heldX BX.out b4)
          clear b4 x0 x1 x2 x3 x4 x5 x6 DE
          cases df with
          | false =>
            have h6 : op = 6 := by simp at hdf; exact Classical.byContradiction (fun h => h (hdf h4))
            have EQ : Hid (stepF L (⟨op, d, a, b0, c0, nn, t⟩ : Ins) ⟨pr, pi, pj, po⟩ = (L, (⟨op, d, a, b0, c0, nn, t⟩ : Ins))) := by show _ = _; simp [stepF, h6]
            clear hdf SB BX h6
            have fc := (cells_of X4.out).1
            have f0 := fc 0
            have f1 := fc 1
            have f2 := fc 2
            have f3 := fc 3
            have f4 := fc 4
            have f5 := fc 5
            have f6 := fc 6
            simp at f0 f1 f2 f3 f4 f5 f6
            clear fc
            have al := (Below.refl w4.heap.size w4).alloc (Nat.le_refl _) (.cells #[.int .i64 op, .int .i64 d, .int .i64 a, .int .i64 b0, .int .i64 c0, .int .i64 nn, .string t] 56)
            have OA := hideP (S4.out.out.stays al)
            have AL := hideP al
            have CQ : Hid (∀ r, r < InE.sz → (w4.alloc (.cells #[.int .i64 op, .int .i64 d, .int .i64 a, .int .i64 b0, .int .i64 c0, .int .i64 nn, .string t] 56)).cell? ⟨w4.heap.size, 0 + r, none⟩ = (InE.cs (⟨op, d, a, b0, c0, nn, t⟩ : Ins))[r]?) := fun r _ => by
              have := (cells_of (newX w4 #[.int .i64 op, .int .i64 d, .int .i64 a, .int .i64 b0, .int .i64 c0, .int .i64 nn, .string t] 56)).1 r
              rw [Nat.zero_add, this]; simp [InE]
            have hsz1 : Hid (w.heap.size ≤ (w4.alloc (.cells #[.int .i64 op, .int .i64 d, .int .i64 a, .int .i64 b0, .int .i64 c0, .int .i64 nn, .string t] 56)).heap.size) := Nat.le_trans S4.out.bel.size al.size
            clear al
            go_wp2_with (at_builtin; refine list_appE InOk _ rfl _ _ rfl w.heap.size _ O (⟨op, d, a, b0, c0, nn, t⟩ : Ins) w4.heap.size 0 1 rfl rfl OA.out CQ.out (by omega) hsz1.out ?_; intro v7 w7 o7 grow7 loc7)
            have S7 := hideP (S4.out.step AL.out o7 grow7)
            obtain ⟨g7, c7, rfl, _⟩ := id o7
            clear o7 grow7 loc7 OA CQ AL
            go_wp2
            go_roundg (N - (j + 1))
            case rel =>
              refine ⟨j + 1, by omega, by go_num, ?_⟩
              have e9 := UP.out L (⟨op, d, a, b0, c0, nn, t⟩ : Ins) EQ.out
              rw [e9]
              have := S7.out
              simp only [List.length_append, List.length_singleton] at this ⊢
              exact this
            case measure => omega
          | true =>
            have h6 : op ≠ 6 := by simp at hdf; exact hdf.2
            have EQ0 : Hid (stepF L (⟨op, d, a, b0, c0, nn, t⟩ : Ins) ⟨pr, pi, pj, po⟩ = (dropF L d, (⟨op, d, a, b0, c0, nn, t⟩ : Ins))) := by show _ = _; simp [stepF, h4, h3, h6]
            obtain ⟨LD, hLD⟩ : ∃ LD, dropF L d = LD := ⟨_, rfl⟩
            have EQ : Hid (stepF L (⟨op, d, a, b0, c0, nn, t⟩ : Ins) ⟨pr, pi, pj, po⟩ = (LD, (⟨op, d, a, b0, c0, nn, t⟩ : Ins))) := by show _ = _; rw [EQ0.out, hLD]
            have DR := hideP (drop_any L d w4 w.heap.size _ S4.out.lst (by omega))
            rw [hLD] at DR
            have x1 := (cells_of X4.out).1 1
            simp at x1
            clear hdf SB BX EQ0 hLD
            go_wp2_with fail
            refine DR.out.mono ?_
            rintro e5 w5 ⟨v5, rfl, o5, b5⟩
            have S5 := hideP (S4.out.list b5 o5)
            have X5 := hideP (heldX X4.out b5)
            obtain ⟨g5, k5, rfl, _⟩ := id o5
            clear DR o5 b5 x1 S4 X4
            have fc := (cells_of X5.out).1
            have f0 := fc 0
            have f1 := fc 1
            have f2 := fc 2
            have f3 := fc 3
            have f4 := fc 4
            have f5 := fc 5
            have f6 := fc 6
            simp at f0 f1 f2 f3 f4 f5 f6
            clear fc
            have al := (Below.refl w5.heap.size w5).alloc (Nat.le_refl _) (.cells #[.int .i64 op, .int .i64 d, .int .i64 a, .int .i64 b0, .int .i64 c0, .int .i64 nn, .string t] 56)
            have OA := hideP (S5.out.out.stays al)
            have AL := hideP al
            have CQ : Hid (∀ r, r < InE.sz → (w5.alloc (.cells #[.int .i64 op, .int .i64 d, .int .i64 a, .int .i64 b0, .int .i64 c0, .int .i64 nn, .string t] 56)).cell? ⟨w5.heap.size, 0 + r, none⟩ = (InE.cs (⟨op, d, a, b0, c0, nn, t⟩ : Ins))[r]?) := fun r _ => by
              have := (cells_of (newX w5 #[.int .i64 op, .int .i64 d, .int .i64 a, .int .i64 b0, .int .i64 c0, .int .i64 nn, .string t] 56)).1 r
              rw [Nat.zero_add, this]; simp [InE]
            have hsz1 : Hid (w.heap.size ≤ (w5.alloc (.cells #[.int .i64 op, .int .i64 d, .int .i64 a, .int .i64 b0, .int .i64 c0, .int .i64 nn, .string t] 56)).heap.size) := Nat.le_trans S5.out.bel.size al.size
            clear al
            go_wp2_with (at_builtin; refine list_appE InOk _ rfl _ _ rfl w.heap.size _ O (⟨op, d, a, b0, c0, nn, t⟩ : Ins) w5.heap.size 0 1 rfl rfl OA.out CQ.out (by omega) hsz1.out ?_; intro v7 w7 o7 grow7 loc7)
            have S7 := hideP (S5.out.step AL.out o7 grow7)
            obtain ⟨g7, c7, rfl, _⟩ := id o7
            clear o7 grow7 loc7 OA CQ AL
            go_wp2
            go_roundg (N - (j + 1))
            case rel =>
              refine ⟨j + 1, by omega, by go_num, ?_⟩
              have e9 := UP.out LD (⟨op, d, a, b0, c0, nn, t⟩ : Ins) EQ.out
              rw [e9]
              have := S7.out
              simp only [List.length_append, List.length_singleton] at this ⊢
              exact this
            case measure => omega
    · have hjn : j = N := by omega
      subst hjn
      go_wp2
      go_ret
      exact ⟨_, rfl, hS.out.out, hS.out.bel⟩
end Go.Proofs.YtelkpikbjfkpcaaGreat

/- The contracts of spec.l08Must and spec.l08Far (written by wip/mkdss.py). -/
namespace Go.Proofs.YtelkpikbjfkpcaaGreat
open Go.ChangeShapes Go.WideShapes Go.ChangeAt Go.RowKit
theorem far_take {f : Pla → Bool} {l : List Pla} {j : Nat} (h : j < l.length) : (l.take (j + 1)).filter f = (l.take j).filter f ++ (if f l[j] = true then [l[j]] else []) := by
  rw [List.take_succ_eq_append_getElem h, List.filter_append]
  by_cases e : f l[j] = true
  · simp [e]
  · simp [e]
theorem must_hit {l : List Pla} {p : Pla} {j : Nat} (h : j < l.length) (ha : aliasP l[j] p = 2) : mustP l p = true := List.any_eq_true.2 ⟨l[j], List.getElem_mem h, by simpa using ha⟩
theorem must_miss {l : List Pla} {p : Pla} (hn : ∀ k (hk : k < l.length), aliasP l[k] p ≠ 2) : mustP l p = false := List.any_eq_false.2 (fun q hq => by
  obtain ⟨k, hk, rfl⟩ := List.getElem_of_mem hq
  simpa using hn k hk)
set_option maxRecDepth 100000 in
set_option maxHeartbeats 4000000 in
theorem must8_any (l : List Pla) (p : Pla) (w : World) (B : Nat) (v : Value) (h : OwnE PlE w B v l) (hl : l.length ≤ 1000000) :
    Calls Tryz.prog 74 #[v, .agg (plV p)] w fun e w' => e = .returned (.bool (mustP l p)) ∧ Below w.heap.size w w' := by
  obtain ⟨g, cap, rfl, _⟩ := id h
  obtain ⟨ar, ai, aj, ao⟩ := p
  simp only [plV]
  have HO := hideP h
  have hgl := (h.low g rfl).2
  have AL := hideP ((Below.refl w.heap.size w).alloc (Nat.le_refl _) (.cells #[.int .i64 ar, .int .i64 ai, .int .i64 aj, .int .i64 ao] 92))
  have BX : Hid ((w.alloc (.cells #[.int .i64 ar, .int .i64 ai, .int .i64 aj, .int .i64 ao] 92)).heap[w.heap.size]? = some (.cells #[.int .i64 ar, .int .i64 ai, .int .i64 aj, .int .i64 ao] 92 (0, 0))) := by show (w.heap.push _)[w.heap.size]? = _; exact Array.getElem?_push_size
  obtain ⟨N, hN⟩ : ∃ N, l.length = N := ⟨_, rfl⟩
  have HN := hideP hN
  rw [hN]
  rw [hN] at hl
  obtain ⟨R, hR⟩ : ∃ R, mustP l ⟨ar, ai, aj, ao⟩ = R := ⟨_, rfl⟩
  have HR := hideP hR
  rw [hR]
  clear h hN hR
  go_enter Tryz.func74, Tryz.ntmps74
  go_wp2
  go_loopg [5] N (fun gk i wr => ∃ j : Nat, gk + j = N ∧ i = .int .i64 j ∧ Hid (∀ k (hk : k < l.length), k < j → aliasP l[k] ⟨ar, ai, aj, ao⟩ ≠ 2) ∧ Hid (Below w.heap.size w wr) ∧ Hid (wr.heap[w.heap.size]? = some (.cells #[.int .i64 ar, .int .i64 ai, .int .i64 aj, .int .i64 ao] 92 (0, 0))))
  case atStart => exact ⟨0, by simp, rfl, fun k hk h0 => absurd h0 (Nat.not_lt_zero _), AL.out, BX.out⟩
  case round =>
    obtain ⟨j, hj, rfl, hno, hb, hbx⟩ := hrel
    clear AL BX
    by_cases hlt : j < N
    · skip
      have hjl : j < l.length := by rw [HN.out]; exact hlt
      obtain ⟨Q, hQ⟩ : ∃ Q, l[j] = Q := ⟨_, rfl⟩
      obtain ⟨pr, pi, pj, po⟩ := Q
      have SK : Hid (∀ (W' : World), Below wr.heap.size wr W' → W'.cell? ⟨g, j * 4, none⟩ = some (.int .i64 pr) ∧ W'.cell? ⟨g, j * 4 + 1, none⟩ = some (.int .i64 pi) ∧ W'.cell? ⟨g, j * 4 + 2, none⟩ = some (.int .i64 pj) ∧ W'.cell? ⟨g, j * 4 + 3, none⟩ = some (.int .i64 po) ∧ W'.cell? ⟨w.heap.size, 0, none⟩ = some (.int .i64 ar) ∧ W'.cell? ⟨w.heap.size, 1, none⟩ = some (.int .i64 ai) ∧ W'.cell? ⟨w.heap.size, 2, none⟩ = some (.int .i64 aj) ∧ W'.cell? ⟨w.heap.size, 3, none⟩ = some (.int .i64 ao)) := fun W' hk => by
        have x := pla_at (HO.out.stays (below_trans hb.out hk)) j hjl
        rw [hQ] at x
        have y := (cells_of ((hk.block _ (Array.getElem?_eq_some_iff.1 hbx.out).1).trans hbx.out)).1
        exact ⟨x.1, x.2.1, x.2.2.1, x.2.2.2, y 0, y 1, y 2, y 3⟩
      obtain ⟨al, hal⟩ : ∃ al, aliasP ⟨pr, pi, pj, po⟩ ⟨ar, ai, aj, ao⟩ = al := ⟨_, rfl⟩
      have AI : Hid (∀ W, Calls Tryz.prog 122 #[.agg #[.int .i64 pr, .int .i64 pi, .int .i64 pj, .int .i64 po], .agg #[.int .i64 ar, .int .i64 ai, .int .i64 aj, .int .i64 ao]] W fun e w' => e = .returned (.int .i64 al) ∧ Below W.heap.size W w') := fun W => hal ▸ specAlias_any ⟨pr, pi, pj, po⟩ ⟨ar, ai, aj, ao⟩ W
      have HA : Hid (aliasP l[j] ⟨ar, ai, aj, ao⟩ = al) := by show _ = _; rw [hQ]; exact hal
      have HQ := hideP hQ
      clear hal hQ
      go_upto_region 4 with fail
      go_region_held3 (fun W' => W'.cell? ⟨g, j * 4, none⟩ = some (.int .i64 pr) ∧ W'.cell? ⟨g, j * 4 + 1, none⟩ = some (.int .i64 pi) ∧ W'.cell? ⟨g, j * 4 + 2, none⟩ = some (.int .i64 pj) ∧ W'.cell? ⟨g, j * 4 + 3, none⟩ = some (.int .i64 po) ∧ W'.cell? ⟨w.heap.size, 0, none⟩ = some (.int .i64 ar) ∧ W'.cell? ⟨w.heap.size, 1, none⟩ = some (.int .i64 ai) ∧ W'.cell? ⟨w.heap.size, 2, none⟩ = some (.int .i64 aj) ∧ W'.cell? ⟨w.heap.size, 3, none⟩ = some (.int .i64 ao)) (first | with_reducible exact SK.out _ F5.out | with_reducible exact SK.out _ (Below.refl _ _).drew) (first
        | (go_at_call 122; refine (AI.out _).mono ?_; rintro e5 w5 ⟨rfl, b5⟩; have F5 : Hid (Below wr.heap.size wr w5) := (Below.refl _ _).drew.trans (b5.mono (Nat.le_refl _)); clear b5))
      have B5 := hideP (below_trans hb.out F5.out)
      have X5 := hideP ((F5.out.block _ (Array.getElem?_eq_some_iff.1 hbx.out).1).trans hbx.out)
      obtain ⟨x0, x1, x2, x3, y0, y1, y2, y3⟩ := SK.out _ F5.out
      clear SK AI
      by_cases hc : al = 2
      · subst hc
        have E : Hid (R = true) := by show _ = _; rw [← HR.out, must_hit hjl HA.out]
        go_wp2
        go_ret
        exact ⟨by rw [E.out]; rfl, B5.out⟩
      · have hcb : (al == 2) = false := by simpa using hc
        have N2 : Hid (∀ k (hk : k < l.length), k < j + 1 → aliasP l[k] ⟨ar, ai, aj, ao⟩ ≠ 2) := fun k hk h1 => by
          by_cases e : k = j
          · subst e; rw [HA.out]; exact hc
          · exact hno.out k hk (by omega)
        go_wp2
        go_roundg (N - (j + 1))
        case rel => exact ⟨j + 1, by omega, by go_num, N2.out, B5.out, X5.out⟩
        case measure => omega
    · have hjn : j = N := by omega
      subst hjn
      have E : Hid (R = false) := by show _ = _; rw [← HR.out]; exact must_miss (fun k hk => hno.out k hk (by rw [← HN.out]; exact hk))
      go_wp2
      go_ret
      exact ⟨by rw [E.out]; rfl, hb.out⟩
set_option maxRecDepth 100000 in
set_option maxHeartbeats 4000000 in
theorem far8_any (l : List Pla) (p : Pla) (w : World) (B : Nat) (v : Value) (h : OwnE PlE w B v l) (hl : l.length ≤ 1000000) :
    Calls Tryz.prog 75 #[v, .agg (plV p)] w fun e w' => ∃ v', e = .returned v' ∧ OwnE PlE w' w.heap.size v' (farP l p) ∧ Below w.heap.size w w' := by
  obtain ⟨g, cap, rfl, _⟩ := id h
  obtain ⟨ar, ai, aj, ao⟩ := p
  simp only [plV]
  have HO := hideP h
  have hgl := (h.low g rfl).2
  have BX : Hid (((w.alloc (.cells #[.int .i64 ar, .int .i64 ai, .int .i64 aj, .int .i64 ao] 92)).alloc (.cells #[] 92)).heap[w.heap.size]? = some (.cells #[.int .i64 ar, .int .i64 ai, .int .i64 aj, .int .i64 ao] 92 (0, 0))) := (two (w := w) (o1 := .cells #[.int .i64 ar, .int .i64 ai, .int .i64 aj, .int .i64 ao] 92) (o2 := .cells #[] 92) (Below.refl _ _)).1
  have O0 : Hid (OwnE PlE ((w.alloc (.cells #[.int .i64 ar, .int .i64 ai, .int .i64 aj, .int .i64 ao] 92)).alloc (.cells #[] 92)) (w.heap.size + 1) (.slice (some ⟨w.heap.size + 1, 0, none⟩) 0 0) []) := by
    have := own_nil PlOk (w.alloc (.cells #[.int .i64 ar, .int .i64 ai, .int .i64 aj, .int .i64 ao] 92)) (w.heap.size + 1) (by simp)
    rw [show (w.alloc (.cells #[.int .i64 ar, .int .i64 ai, .int .i64 aj, .int .i64 ao] 92)).heap.size = w.heap.size + 1 by simp] at this
    exact this
  have B0 := hideP (below2 w (.cells #[.int .i64 ar, .int .i64 ai, .int .i64 aj, .int .i64 ao] 92) (.cells #[] 92))
  obtain ⟨N, hN⟩ : ∃ N, l.length = N := ⟨_, rfl⟩
  have HN := hideP hN
  rw [hN]
  rw [hN] at hl
  clear h hN
  go_enter Tryz.func75, Tryz.ntmps75
  go_wp2
  go_loopg [5, 6] N (fun gk q i wr => ∃ j : Nat, gk + j = N ∧ i = .int .i64 j ∧ Hid (OwnE PlE wr (w.heap.size + 1) q (farP (l.take j) ⟨ar, ai, aj, ao⟩)) ∧ Hid (Below w.heap.size w wr) ∧ Hid (wr.heap[w.heap.size]? = some (.cells #[.int .i64 ar, .int .i64 ai, .int .i64 aj, .int .i64 ao] 92 (0, 0))) ∧ Hid (w.heap.size + 1 ≤ wr.heap.size))
  case atStart => exact ⟨0, by simp, rfl, O0.out, B0.out, BX.out, by show _ ≤ _; simp⟩
  case round =>
    obtain ⟨j, hj, rfl, ho, hb, hbx, hsz⟩ := hrel
    clear O0 B0 BX
    have hlen : (farP (l.take j) ⟨ar, ai, aj, ao⟩).length ≤ 1000000 := Nat.le_trans (List.length_filter_le _ _) (by simp; omega)
    by_cases hlt : j < N
    · skip
      have hjl : j < l.length := by rw [HN.out]; exact hlt
      obtain ⟨Q, hQ⟩ : ∃ Q, l[j] = Q := ⟨_, rfl⟩
      obtain ⟨pr, pi, pj, po⟩ := Q
      have SK : Hid (∀ (W' : World), Below wr.heap.size wr W' → W'.cell? ⟨g, j * 4, none⟩ = some (.int .i64 pr) ∧ W'.cell? ⟨g, j * 4 + 1, none⟩ = some (.int .i64 pi) ∧ W'.cell? ⟨g, j * 4 + 2, none⟩ = some (.int .i64 pj) ∧ W'.cell? ⟨g, j * 4 + 3, none⟩ = some (.int .i64 po) ∧ W'.cell? ⟨w.heap.size, 0, none⟩ = some (.int .i64 ar) ∧ W'.cell? ⟨w.heap.size, 1, none⟩ = some (.int .i64 ai) ∧ W'.cell? ⟨w.heap.size, 2, none⟩ = some (.int .i64 aj) ∧ W'.cell? ⟨w.heap.size, 3, none⟩ = some (.int .i64 ao)) := fun W' hk => by
        have x := pla_at (HO.out.stays (below_trans hb.out hk)) j hjl
        rw [hQ] at x
        have y := (cells_of ((hk.block _ (Array.getElem?_eq_some_iff.1 hbx.out).1).trans hbx.out)).1
        exact ⟨x.1, x.2.1, x.2.2.1, x.2.2.2, y 0, y 1, y 2, y 3⟩
      obtain ⟨al, hal⟩ : ∃ al, aliasP ⟨pr, pi, pj, po⟩ ⟨ar, ai, aj, ao⟩ = al := ⟨_, rfl⟩
      have AI : Hid (∀ W, Calls Tryz.prog 122 #[.agg #[.int .i64 pr, .int .i64 pi, .int .i64 pj, .int .i64 po], .agg #[.int .i64 ar, .int .i64 ai, .int .i64 aj, .int .i64 ao]] W fun e w' => e = .returned (.int .i64 al) ∧ Below W.heap.size W w') := fun W => hal ▸ specAlias_any ⟨pr, pi, pj, po⟩ ⟨ar, ai, aj, ao⟩ W
      have HA : Hid (aliasP l[j] ⟨ar, ai, aj, ao⟩ = al) := by show _ = _; rw [hQ]; exact hal
      have HQ := hideP hQ
      clear hal hQ
      go_upto_region 5 with fail
      go_region_held3 (fun W' => W'.cell? ⟨g, j * 4, none⟩ = some (.int .i64 pr) ∧ W'.cell? ⟨g, j * 4 + 1, none⟩ = some (.int .i64 pi) ∧ W'.cell? ⟨g, j * 4 + 2, none⟩ = some (.int .i64 pj) ∧ W'.cell? ⟨g, j * 4 + 3, none⟩ = some (.int .i64 po) ∧ W'.cell? ⟨w.heap.size, 0, none⟩ = some (.int .i64 ar) ∧ W'.cell? ⟨w.heap.size, 1, none⟩ = some (.int .i64 ai) ∧ W'.cell? ⟨w.heap.size, 2, none⟩ = some (.int .i64 aj) ∧ W'.cell? ⟨w.heap.size, 3, none⟩ = some (.int .i64 ao)) (first | with_reducible exact SK.out _ F5.out | with_reducible exact SK.out _ (Below.refl _ _).drew) (first
        | (go_at_call 122; refine (AI.out _).mono ?_; rintro e5 w5 ⟨rfl, b5⟩; have F5 : Hid (Below wr.heap.size wr w5) := (Below.refl _ _).drew.trans (b5.mono (Nat.le_refl _)); clear b5))
      have B5 := hideP (below_trans hb.out F5.out)
      have X5 := hideP ((F5.out.block _ (Array.getElem?_eq_some_iff.1 hbx.out).1).trans hbx.out)
      obtain ⟨x0, x1, x2, x3, y0, y1, y2, y3⟩ := SK.out _ F5.out
      clear SK AI
      have TK : Hid (farP (l.take (j + 1)) ⟨ar, ai, aj, ao⟩ = farP (l.take j) ⟨ar, ai, aj, ao⟩ ++ (if al = 0 then [(⟨pr, pi, pj, po⟩ : Pla)] else [])) := by
        show _ = _
        unfold farP
        rw [far_take hjl]
        simp only [decide_eq_true_eq]
        rw [HA.out, HQ.out]
      have O5 := hideP (ho.out.stays F5.out)
      have Z5 : Hid (w.heap.size + 1 ≤ w5.heap.size) := Nat.le_trans hsz.out F5.out.size
      clear ho hb hbx hsz F5 y0 y1 y2 y3
      by_cases hc : al = 0
      · have E : Hid (farP (l.take (j + 1)) ⟨ar, ai, aj, ao⟩ = farP (l.take j) ⟨ar, ai, aj, ao⟩ ++ [(⟨pr, pi, pj, po⟩ : Pla)]) := by show _ = _; rw [TK.out, if_pos hc]
        subst hc
        obtain ⟨q, hq⟩ : ∃ q, farP (l.take j) ⟨ar, ai, aj, ao⟩ = q := ⟨_, rfl⟩
        rw [hq] at O5 E hlen
        obtain ⟨g5, c5, rfl, _⟩ := id O5.out
        have al := (Below.refl w5.heap.size w5).alloc (Nat.le_refl _) (.cells #[.int .i64 pr, .int .i64 pi, .int .i64 pj, .int .i64 po] 92)
        have OA := hideP (O5.out.stays al)
        have BA := hideP (B5.out.alloc B5.out.size (.cells #[.int .i64 pr, .int .i64 pi, .int .i64 pj, .int .i64 po] 92))
        have CQ : Hid (∀ r, r < PlE.sz → (w5.alloc (.cells #[.int .i64 pr, .int .i64 pi, .int .i64 pj, .int .i64 po] 92)).cell? ⟨w5.heap.size, 0 + r, none⟩ = (PlE.cs (⟨pr, pi, pj, po⟩ : Pla))[r]?) := fun r _ => by
          have := (cells_of (heap_alloc_new w5 (.cells #[.int .i64 pr, .int .i64 pi, .int .i64 pj, .int .i64 po] 92))).1 r
          rw [Nat.zero_add, this]; simp [PlE]
        have hsz1 : Hid (w.heap.size + 1 ≤ (w5.alloc (.cells #[.int .i64 pr, .int .i64 pi, .int .i64 pj, .int .i64 po] 92)).heap.size) := Nat.le_trans Z5.out al.size
        clear al
        have A5 := hideP ((((Below.refl w5.heap.size w5).alloc (Nat.le_refl _) (.cells #[.int .i64 pr, .int .i64 pi, .int .i64 pj, .int .i64 po] 92)).block _ (Array.getElem?_eq_some_iff.1 X5.out).1).trans X5.out)
        clear hq TK
        go_wp2_with (at_builtin; refine list_appE PlOk _ rfl _ _ rfl (w.heap.size + 1) _ q (⟨pr, pi, pj, po⟩ : Pla) w5.heap.size 0 1 rfl rfl OA.out CQ.out (by omega) hsz1.out ?_; intro v6 w6 o6 grow6 loc6)
        have B6 := hideP (BA.out.grown grow6 BA.out.size (fun b' hb' => by have := OA.out.low b' hb'; omega))
        have X6 := hideP ((grow6.block w.heap.size (Array.getElem?_eq_some_iff.1 A5.out).1 (fun e => by have := OA.out.low _ e.symm; omega)).trans A5.out)
        have Z6 : Hid (w.heap.size + 1 ≤ w6.heap.size) := Nat.le_trans hsz1.out grow6.size
        obtain ⟨g6, c6, rfl, _⟩ := id o6
        have O6 := hideP o6
        clear o6 grow6 loc6 OA BA CQ A5
        go_wp2
        go_roundg (N - (j + 1))
        case rel => exact ⟨j + 1, by omega, by go_num, by rw [E.out]; simpa using O6, B6.out, X6.out, Z6.out⟩
        case measure => omega
      · have hcb : (al == 0) = false := by simpa using hc
        have E : Hid (farP (l.take (j + 1)) ⟨ar, ai, aj, ao⟩ = farP (l.take j) ⟨ar, ai, aj, ao⟩) := by show _ = _; rw [TK.out, if_neg hc, List.append_nil]
        go_wp2
        go_roundg (N - (j + 1))
        case rel => exact ⟨j + 1, by omega, by go_num, by rw [E.out]; exact O5.out, B5.out, X5.out, Z5.out⟩
        case measure => omega
    · have hjn : j = N := by omega
      subst hjn
      rw [← HN.out, List.take_length] at ho
      go_wp2
      go_ret
      exact ⟨_, rfl, ho.out.mono (Nat.le_succ _), hb.out⟩
end Go.Proofs.YtelkpikbjfkpcaaGreat

/- Lists of structs that a call owns: append of a list, literals of one. -/
namespace Go.Proofs.YtelkpikbjfkpcaaGreat
open Go.ChangeShapes Go.WideShapes Go.ChangeAt Go.RowKit
section
variable {α : Type} {E : Elem α}
theorem own_one (O : E.Ok) (w : World) (x : α) (cs : Array Value) (hcs : cs.toList = E.cs x) : OwnE E (w.alloc (.cells cs E.T)) w.heap.size (.slice (some ⟨w.heap.size, 0, none⟩) 1 1) [x] := by
  refine OwnE.of_parts O (l := [x]) (Nat.le_refl _) (by show (w.heap.push _)[w.heap.size]? = _; exact Array.getElem?_push_size) (Nat.le_refl _) (by unfold maxLen; simp) (by rw [Nat.one_mul, ← O.len x, ← hcs]; simp) (fun j hj r _ => ?_)
  obtain rfl : j = 0 := by simpa using hj
  rw [Nat.zero_mul, Nat.zero_add, ← Array.getElem?_toList, hcs]
  rfl
theorem run_appEs (O : E.Ok) {w : World} {B : Nat} {v1 : Value} {l1 l2 : List α} {b o cap2 : Nat} (ty : TypeId) (h1 : OwnE E w B v1 l1) (h2 : ∀ j (hj : j < l2.length) r, r < E.sz → w.cell? ⟨b, o + j * E.sz + r, none⟩ = (E.cs l2[j])[r]?) (hn : l1.length + l2.length ≤ 8000000) (hB : B ≤ w.heap.size) :
    ∃ v' w', (Builtin.append_ #[E.ST, E.ST] ty #[v1, .slice (some ⟨b, o, none⟩) l2.length cap2]).run Tryz.prog w = .ok v' w' ∧ OwnE E w' B v' (l1 ++ l2) ∧ w.grownBy w' v1.ownBlock ∧ (v'.ownBlock = v1.ownBlock ∨ v'.ownBlock = some w.heap.size) := by
  obtain ⟨i0, hi, hz0, hz1, hz2⟩ := info_parts O.info
  obtain ⟨g, cap, hv, hown⟩ := h1
  have hf := O.few
  have hbn : (l1.length + l2.length) * E.bys ≤ 8000000 * 1000 := Nat.mul_le_mul hn hf
  have hone : ∀ u ∈ l2.flatMap E.cs, u.oneCell' = true := fun u hu => by
    obtain ⟨x, _, hx⟩ := List.mem_flatMap.1 hu
    exact O.one x u hx
  obtain ⟨v', w', hr, ho, hg, hnil, hloc⟩ := run_append_own_at (P := Tryz.prog) w B E.ST ty E.T i0 E.z E.sz E.bys O.und hi hz0 hz1 hz2 O.zs O.pos v1 l1.length (l1.flatMap E.cs) hown ⟨b, o, none⟩ l2.length cap2 (l2.flatMap E.cs) (flatE_len O l2) (fun j u hj => by
    have hjl := (List.getElem?_eq_some_iff.1 hj).1
    rw [flatE_len O] at hjl
    have hp := O.pos
    have hq : j / E.sz < l2.length := Nat.div_lt_of_lt_mul (by rw [Nat.mul_comm]; exact hjl)
    have hm : j % E.sz < E.sz := Nat.mod_lt _ hp
    have e : j / E.sz * E.sz + j % E.sz = j := by rw [Nat.mul_comm]; exact Nat.div_add_mod _ _
    have h3 := flatE_at O l2 (j / E.sz) (j % E.sz) hq hm
    rw [e, hj] at h3
    have h4 := h2 (j / E.sz) hq (j % E.sz) hm
    rw [Nat.add_assoc, e] at h4
    rw [addr_add', h4, h3]) hone (by unfold maxLen; omega) (by omega) hB
  refine ⟨v', w', hr, ?_, hg, hloc⟩
  unfold OwnE
  rw [List.length_append, List.flatMap_append]
  have ho' := ho
  obtain ⟨_, ⟨h0, _⟩ | ⟨g', cap', _, hv', _⟩⟩ := ho'
  · have := (hnil.1 h0).1; rw [hv] at this; cases this
  · exact ⟨g', cap', hv', by simpa using ho⟩
theorem list_appEs (O : E.Ok) {ops : Array Oper} {o : Oper} {a : Act} {Q : Exit → Act → World → Prop} {rest : List Oper} (w : World) (hgd : o.guard = none) (s y : Operand) (ho : o.op = .call { callee := .builtin .append, args := #[s, y], argTypes := #[E.ST, E.ST] })
    (B : Nat) (v1 : Value) (l1 l2 : List α) (n b o2 cap2 : Nat) (hnl : n = l2.length) (hs : a.eval s = v1) (hx : a.eval y = .slice (some ⟨b, o2, none⟩) n cap2) (h1 : OwnE E w B v1 l1) (h2 : ∀ j (hj : j < l2.length) r, r < E.sz → w.cell? ⟨b, o2 + j * E.sz + r, none⟩ = (E.cs l2[j])[r]?) (hn : l1.length + l2.length ≤ 8000000) (hB : B ≤ w.heap.size)
    (h : ∀ v' w', OwnE E w' B v' (l1 ++ l2) → w.grownBy w' v1.ownBlock → (v'.ownBlock = v1.ownBlock ∨ v'.ownBlock = some w.heap.size) → wpList Tryz.prog ops Q rest (a.put o.dst v') w') :
    wpList Tryz.prog ops Q (o :: rest) a w := by
  subst hnl
  refine wpList_plain hgd fun K hK => ?_
  obtain ⟨v', w', hr, r1, r2, r3⟩ := run_appEs O (cap2 := cap2) o.type h1 h2 hn hB
  unfold Oper.wp execOp
  simp only [ho, resolve, invoke, builtin, Sem.run_bind, Sem.run_pure, Result.andThen_ok, List.map_toArray, List.map_cons, List.map_nil, hs, hx, hr]
  exact hK _ _ (h v' w' r1 r2 r3)
end
end Go.Proofs.YtelkpikbjfkpcaaGreat

/- The contract of spec.l08Block (written by wip/mkdssb.py). -/
namespace Go.Proofs.YtelkpikbjfkpcaaGreat
open Go.ChangeShapes Go.WideShapes Go.ChangeAt Go.RowKit
/-- Between two rounds: the steps that stay, the places. -/
structure BsAt (w : World) (o l : Value) (S : List Pla × List Ins) (W : World) : Prop where
  out : OwnE InE W w.heap.size o S.2
  lst : OwnE PlE W w.heap.size l S.1
  bel : Below w.heap.size w W
theorem BsAt.stays {w W W' : World} {S : List Pla × List Ins} {o l : Value} (h : BsAt w o l S W) (b : Below W.heap.size W W') : BsAt w o l S W' := ⟨h.out.stays b, h.lst.stays b, below_trans h.bel b⟩
theorem BsAt.list {w W W' : World} {L L' : List Pla} {O : List Ins} {o l l' : Value} (h : BsAt w o l (L, O) W) (b : Below W.heap.size W W') (hl : OwnE PlE W' W.heap.size l' L') : BsAt w o l' (L', O) W' := ⟨h.out.stays b, hl.mono h.bel.size, below_trans h.bel b⟩
theorem BsAt.pre {w W W' : World} {L : List Pla} {O : List Ins} {o l : Value} (h : BsAt w o l (L, O) W) {x : Ins} {o0 : Obj} {v' : Value} (ho : OwnE InE W' w.heap.size v' ([x] ++ O)) (hg : (W.alloc o0).grownBy W' (some W.heap.size)) : BsAt w v' l (L, x :: O) W' := by
  have al := (Below.refl W.heap.size W).alloc (Nat.le_refl _) o0
  have b : Below W.heap.size W W' := ⟨hg.os.trans al.os, hg.tape.trans al.tape, hg.output.trans al.output, Nat.le_trans al.size hg.size, fun k hk => (hg.block k (Nat.lt_of_lt_of_le hk al.size) (by simp; omega)).trans (al.block k hk)⟩
  exact ⟨ho, h.lst.stays b, below_trans h.bel b⟩
theorem inPl_apart {w : World} {B B' : Nat} {v v' : Value} {l : List Ins} {l' : List Pla} (h : OwnE InE w B v l) (h' : OwnE PlE w B' v' l') : v.ownBlock ≠ v'.ownBlock := by
  obtain ⟨g, cap, cur, rfl, _, hh, _⟩ := h.parts InOk
  obtain ⟨g', cap', cur', rfl, _, hh', _⟩ := h'.parts PlOk
  intro e
  have e : g = g' := by simpa [Value.ownBlock] using e
  subst e
  rw [hh] at hh'
  injection hh' with hh'
  injection hh' with _ h2
  exact absurd h2 (by decide)
/-- A place is put behind. -/
theorem BsAt.app {w W Wa W' : World} {L L' : List Pla} {O : List Ins} {o l l' : Value} (h : BsAt w o l (L, O) W) (b : Below W.heap.size W Wa) (hl : OwnE PlE W' w.heap.size l' L') (hg : Wa.grownBy W' l.ownBlock) : BsAt w o l' (L', O) W' :=
  have h' := h.stays b
  ⟨h'.out.kept hg (inPl_apart h'.out h'.lst), hl, h'.bel.grown hg h'.bel.size (fun b' hb' => (h'.lst.low b' hb').1)⟩
set_option maxRecDepth 100000 in
set_option maxHeartbeats 8000000 in
theorem block08_any (code : List Ins) (ps : List Pla) (w : World) (B gp kp kc : Nat) (uc : Option Addr) (hc : SlIs InsIs 7 w B uc code) (hpl : OwnE PlE w 0 (.slice (some ⟨gp, 0, none⟩) ps.length kp) ps) (hlp : ps.length = code.length) (hl : code.length ≤ 1000) :
    Calls Tryz.prog 41 #[.slice uc code.length kc, .slice (some ⟨gp, 0, none⟩) ps.length kp] w fun e w' => ∃ v, e = .returned v ∧ OwnE InE w' w.heap.size v (backUp (dsF code ps) [] code code.length).2 ∧ Below w.heap.size w w' := by
  have HC := hideP hc
  have HP := hideP hpl
  have HLP := hideP hlp
  have hgl := (hpl.low gp rfl).2
  have S0 : Hid (BsAt w (.slice (some ⟨w.heap.size, 0, none⟩) 0 0) (.slice (some ⟨w.heap.size + 1, 0, none⟩) 0 0) (backUp (dsF code ps) [] code 0) ((w.alloc (.cells #[] 56)).alloc (.cells #[] 92))) := by
    have al := (Below.refl (w.alloc (.cells #[] 56)).heap.size (w.alloc (.cells #[] 56))).alloc (Nat.le_refl _) (.cells #[] 92)
    have h2 := own_nil PlOk (w.alloc (.cells #[] 56)) (w.heap.size + 1) (by simp)
    exact ⟨(own_nil InOk w w.heap.size rfl).stays al, h2.mono (by simp), below2 w _ _⟩
  have FEW := hideP (fun k => dsUp_few code ps k)
  have FEW2 := hideP (fun k => backUp_few (f := dsF code ps) (s0 := []) (code := code) k)
  obtain ⟨n, hn⟩ : ∃ n, code.length = n := ⟨_, rfl⟩
  have HN := hideP hn
  rw [hlp]
  rw [hn] at hl ⊢
  clear hc hpl hlp hn
  go_enter Tryz.func41, Tryz.ntmps41
  go_wp2
  go_loopg [5, 6, 7] n (fun gk o l ix wr => ∃ k : Nat, gk + k = n ∧ ix = .int .i64 ((n : Int) - 1 - k) ∧ Hid (BsAt w o l (backUp (dsF code ps) [] code k) wr))
  case atStart => exact ⟨0, by simp, by simp, S0.out⟩
  case round =>
    obtain ⟨k, hgk, rfl, hS⟩ := hrel
    clear S0
    by_cases hlt : k < n
    · obtain ⟨i, hi⟩ : ∃ i : Nat, (n : Int) - 1 - k = i := ⟨n - 1 - k, by omega⟩
      rw [hi]
      have hin : i < n := by omega
      have hic : i < code.length := by rw [HN.out]; exact hin
      have hip : i < ps.length := by rw [HLP.out]; exact hic
      have HI : Hid ((n : Int) - 1 - k = i) := hi
      have UP : Hid (backUp (dsF code ps) [] code (k + 1) = ((dsF code ps (backUp (dsF code ps) [] code k).1 i).1, if (dsF code ps (backUp (dsF code ps) [] code k).1 i).2 = true then code[i]'hic :: (backUp (dsF code ps) [] code k).2 else (backUp (dsF code ps) [] code k).2)) := backUp_at (by rw [HN.out]; exact hlt) (by rw [HN.out]; omega)
      have hLl := FEW.out k
      have hOl := FEW2.out k
      obtain ⟨L, hL⟩ : ∃ L, (backUp (dsF code ps) [] code k).1 = L := ⟨_, rfl⟩
      obtain ⟨O, hO⟩ : ∃ O, (backUp (dsF code ps) [] code k).2 = O := ⟨_, rfl⟩
      rw [hL] at UP hLl
      rw [hO] at UP hOl
      have hS2 : Hid (BsAt w u5 u6 (L, O) wr) := by
        have := hS.out
        rw [show backUp (dsF code ps) [] code k = (L, O) by rw [← hL, ← hO]] at this
        exact this
      rw [dsF_at hic hip] at UP
      obtain ⟨bb, oo, op, d, a, b0, c0, nn, t, hu, _, hbl, he, hz9⟩ := Ins_get HC.out i hic
      subst hu
      clear hz9
      obtain ⟨PP, hP⟩ : ∃ PP, ps[i] = PP := ⟨_, rfl⟩
      obtain ⟨pr, pi, pj, po⟩ := PP
      have CE : Hid (∀ W, Below w.heap.size w W → W.cell? ⟨bb, oo + i * 7, none⟩ = some (.int .i64 op) ∧ W.cell? ⟨bb, oo + i * 7 + 1, none⟩ = some (.int .i64 d) ∧ W.cell? ⟨bb, oo + i * 7 + 2, none⟩ = some (.int .i64 a) ∧ W.cell? ⟨bb, oo + i * 7 + 3, none⟩ = some (.int .i64 b0) ∧ W.cell? ⟨bb, oo + i * 7 + 4, none⟩ = some (.int .i64 c0) ∧ W.cell? ⟨bb, oo + i * 7 + 5, none⟩ = some (.int .i64 nn) ∧ W.cell? ⟨bb, oo + i * 7 + 6, none⟩ = some (.string t) ∧ W.cell? ⟨gp, i * 4, none⟩ = some (.int .i64 pr) ∧ W.cell? ⟨gp, i * 4 + 1, none⟩ = some (.int .i64 pi) ∧ W.cell? ⟨gp, i * 4 + 2, none⟩ = some (.int .i64 pj) ∧ W.cell? ⟨gp, i * 4 + 3, none⟩ = some (.int .i64 po)) := fun W hW => by
        obtain ⟨b2, o2, op2, d2, a2, b02, c02, nn2, t2, hu2, _, _, he2, z0, z1, z2, z3, z4, z5, z6, _⟩ := Ins_get (HC.out.stays InsKeeps hW) i hic
        rw [he] at he2
        injection he2 with y0 y1 y2 y3 y4 y5 y6
        subst y0 y1 y2 y3 y4 y5 y6
        injection hu2 with hu2
        injection hu2 with v0 v1
        subst v0 v1
        have x := pla_at (HP.out.stays hW) i hip
        rw [hP] at x
        exact ⟨z0, z1, z2, z3, z4, z5, z6, x.1, x.2.1, x.2.2.1, x.2.2.2⟩
      rw [he, hP] at UP
      have HLL := hideP hLl
      have HOL := hideP hOl
      clear hi hL hO he hP hS hLl hOl FEW FEW2
      obtain ⟨q0, q1, q2, q3, q4, q5, q6, p0, p1, p2, p3⟩ := CE.out wr hS2.out.bel
      by_cases h4 : op = 4
      · subst h4
        have MU : Hid (∀ W, OwnE PlE W w.heap.size u6 L → Calls Tryz.prog 74 #[u6, .agg #[.int .i64 pr, .int .i64 pi, .int .i64 pj, .int .i64 po]] W fun e w' => e = .returned (.bool (mustP L ⟨pr, pi, pj, po⟩)) ∧ Below W.heap.size W w') := fun W hW => must8_any L ⟨pr, pi, pj, po⟩ W _ u6 hW (by have := HLL.out; omega)
        obtain ⟨mm, hmm⟩ : ∃ mm, mustP L ⟨pr, pi, pj, po⟩ = mm := ⟨_, rfl⟩
        have K4 : Hid (backUp (dsF code ps) [] code (k + 1) = (L ++ [⟨pr, pi, pj, po⟩], if mm = true then O else (⟨4, d, a, b0, c0, nn, t⟩ : Ins) :: O)) := by
          show _ = _
          rw [UP.out]
          simp only [dsOver, dsKeep, if_pos, hmm]
          cases mm <;> rfl
        rw [hmm] at MU
        clear hmm UP
        obtain ⟨gl, cl, hl0, _⟩ := id hS2.out.lst
        subst hl0
        go_wp2_with fail
        refine (MU.out _ hS2.out.lst).mono ?_
        rintro e5 w5 ⟨rfl, b5⟩
        have S5 := hideP (hS2.out.stays b5)
        clear b5 hS2 MU
        clear q0 q1 q2 q3 q4 q5 q6 p0 p1 p2 p3
        obtain ⟨q0, q1, q2, q3, q4, q5, q6, p0, p1, p2, p3⟩ := CE.out w5 S5.out.bel
        have al := (Below.refl w5.heap.size w5).alloc (Nat.le_refl _) (.cells #[.int .i64 pr, .int .i64 pi, .int .i64 pj, .int .i64 po] 92)
        have OA := hideP (S5.out.lst.stays al)
        have CQ : Hid (∀ r, r < PlE.sz → (w5.alloc (.cells #[.int .i64 pr, .int .i64 pi, .int .i64 pj, .int .i64 po] 92)).cell? ⟨w5.heap.size, 0 + r, none⟩ = (PlE.cs (⟨pr, pi, pj, po⟩ : Pla))[r]?) := fun r _ => by
          have := (cells_of (heap_alloc_new w5 (.cells #[.int .i64 pr, .int .i64 pi, .int .i64 pj, .int .i64 po] 92))).1 r
          rw [Nat.zero_add, this]; simp [PlE]
        have hsz1 : Hid (w.heap.size ≤ (w5.alloc (.cells #[.int .i64 pr, .int .i64 pi, .int .i64 pj, .int .i64 po] 92)).heap.size) := Nat.le_trans S5.out.bel.size al.size
        have AP := hideP (fun l' W' hl' hg => S5.out.app (l' := l') (W' := W') (L' := L ++ [⟨pr, pi, pj, po⟩]) al hl' hg)
        clear al
        go_upto_region 15 with (at_builtin; refine list_appE PlOk _ rfl _ _ rfl w.heap.size _ L (⟨pr, pi, pj, po⟩ : Pla) w5.heap.size 0 1 rfl rfl OA.out CQ.out (by have := HLL.out; omega) hsz1.out ?_; intro v6 w6 o6 grow6 loc6)
        have S6 := hideP (AP.out v6 w6 o6 grow6)
        clear o6 grow6 loc6 OA CQ hsz1 AP S5
        clear q0 q1 q2 q3 q4 q5 q6 p0 p1 p2 p3
        obtain ⟨q0, q1, q2, q3, q4, q5, q6, p0, p1, p2, p3⟩ := CE.out w6 S6.out.bel
        cases mm with
        | true =>
          have K5 : Hid (backUp (dsF code ps) [] code (k + 1) = (L ++ [⟨pr, pi, pj, po⟩], O)) := K4.out
          go_wp2
          go_roundg (n - (k + 1))
          case rel => exact ⟨k + 1, by omega, by have := HI.out; go_num, by rw [K5.out]; exact S6.out⟩
          case measure => omega
        | false =>
          have K5 : Hid (backUp (dsF code ps) [] code (k + 1) = (L ++ [⟨pr, pi, pj, po⟩], (⟨4, d, a, b0, c0, nn, t⟩ : Ins) :: O)) := K4.out
          clear K4
          obtain ⟨go, co, ho0, _⟩ := id S6.out.out
          subst ho0
          have al := (Below.refl w6.heap.size w6).alloc (Nat.le_refl _) (.cells #[.int .i64 4, .int .i64 d, .int .i64 a, .int .i64 b0, .int .i64 c0, .int .i64 nn, .string t] 56)
          have LT : Hid (OwnE InE (w6.alloc (.cells #[.int .i64 4, .int .i64 d, .int .i64 a, .int .i64 b0, .int .i64 c0, .int .i64 nn, .string t] 56)) w.heap.size (.slice (some ⟨w6.heap.size, 0, none⟩) 1 1) [(⟨4, d, a, b0, c0, nn, t⟩ : Ins)]) := (own_one InOk w6 ⟨4, d, a, b0, c0, nn, t⟩ #[.int .i64 4, .int .i64 d, .int .i64 a, .int .i64 b0, .int .i64 c0, .int .i64 nn, .string t] rfl).mono S6.out.bel.size
          have OC := hideP (fun j hj r hr => (S6.out.out.stays al).at InOk j hj r hr)
          have hsz1 : Hid (w.heap.size ≤ (w6.alloc (.cells #[.int .i64 4, .int .i64 d, .int .i64 a, .int .i64 b0, .int .i64 c0, .int .i64 nn, .string t] 56)).heap.size) := Nat.le_trans S6.out.bel.size al.size
          have PRE := hideP (fun v' w' (ho : OwnE InE w' w.heap.size v' ([(⟨4, d, a, b0, c0, nn, t⟩ : Ins)] ++ O)) hg => S6.out.pre (x := ⟨4, d, a, b0, c0, nn, t⟩) (o0 := .cells #[.int .i64 4, .int .i64 d, .int .i64 a, .int .i64 b0, .int .i64 c0, .int .i64 nn, .string t] 56) ho hg)
          clear al
          go_wp2_with (at_builtin; refine list_appEs InOk _ rfl _ _ rfl w.heap.size _ [(⟨4, d, a, b0, c0, nn, t⟩ : Ins)] O _ go 0 co rfl rfl rfl LT.out OC.out (by have := HOL.out; simp only [List.length_singleton]; omega) hsz1.out ?_; intro v9 w9 o9 grow9 loc9)
          have S9 := hideP (PRE.out v9 w9 o9 grow9)
          clear o9 grow9 loc9 LT OC hsz1 PRE S6
          clear q0 q1 q2 q3 q4 q5 q6 p0 p1 p2 p3
          go_wp2
          go_roundg (n - (k + 1))
          case rel => exact ⟨k + 1, by omega, by have := HI.out; go_num, by rw [K5.out]; exact S9.out⟩
          case measure => omega
      · by_cases h3 : op = 3
        · subst h3
          have K5 : Hid (backUp (dsF code ps) [] code (k + 1) = (farP L ⟨pr, pi, pj, po⟩, (⟨3, d, a, b0, c0, nn, t⟩ : Ins) :: O)) := by show _ = _; rw [UP.out, (ds_load rfl).1, (ds_load rfl).2]; rfl
          have FA : Hid (∀ W, OwnE PlE W w.heap.size u6 L → Calls Tryz.prog 75 #[u6, .agg #[.int .i64 pr, .int .i64 pi, .int .i64 pj, .int .i64 po]] W fun e w' => ∃ v', e = .returned v' ∧ OwnE PlE w' W.heap.size v' (farP L ⟨pr, pi, pj, po⟩) ∧ Below W.heap.size W w') := fun W hW => far8_any L ⟨pr, pi, pj, po⟩ W _ u6 hW (by have := HLL.out; omega)
          clear UP
          go_wp2_with fail
          refine (FA.out _ hS2.out.lst).mono ?_
          rintro e5 w5 ⟨v5, rfl, o5, b5⟩
          have S6 := hideP (hS2.out.list b5 o5)
          clear o5 b5 hS2 FA
          clear q0 q1 q2 q3 q4 q5 q6 p0 p1 p2 p3
          obtain ⟨q0, q1, q2, q3, q4, q5, q6, p0, p1, p2, p3⟩ := CE.out w5 S6.out.bel
          obtain ⟨go, co, ho0, _⟩ := id S6.out.out
          subst ho0
          have al := (Below.refl w5.heap.size w5).alloc (Nat.le_refl _) (.cells #[.int .i64 3, .int .i64 d, .int .i64 a, .int .i64 b0, .int .i64 c0, .int .i64 nn, .string t] 56)
          have LT : Hid (OwnE InE (w5.alloc (.cells #[.int .i64 3, .int .i64 d, .int .i64 a, .int .i64 b0, .int .i64 c0, .int .i64 nn, .string t] 56)) w.heap.size (.slice (some ⟨w5.heap.size, 0, none⟩) 1 1) [(⟨3, d, a, b0, c0, nn, t⟩ : Ins)]) := (own_one InOk w5 ⟨3, d, a, b0, c0, nn, t⟩ #[.int .i64 3, .int .i64 d, .int .i64 a, .int .i64 b0, .int .i64 c0, .int .i64 nn, .string t] rfl).mono S6.out.bel.size
          have OC := hideP (fun j hj r hr => (S6.out.out.stays al).at InOk j hj r hr)
          have hsz1 : Hid (w.heap.size ≤ (w5.alloc (.cells #[.int .i64 3, .int .i64 d, .int .i64 a, .int .i64 b0, .int .i64 c0, .int .i64 nn, .string t] 56)).heap.size) := Nat.le_trans S6.out.bel.size al.size
          have PRE := hideP (fun v' w' (ho : OwnE InE w' w.heap.size v' ([(⟨3, d, a, b0, c0, nn, t⟩ : Ins)] ++ O)) hg => S6.out.pre (x := ⟨3, d, a, b0, c0, nn, t⟩) (o0 := .cells #[.int .i64 3, .int .i64 d, .int .i64 a, .int .i64 b0, .int .i64 c0, .int .i64 nn, .string t] 56) ho hg)
          clear al
          go_wp2_with (at_builtin; refine list_appEs InOk _ rfl _ _ rfl w.heap.size _ [(⟨3, d, a, b0, c0, nn, t⟩ : Ins)] O _ go 0 co rfl rfl rfl LT.out OC.out (by have := HOL.out; simp only [List.length_singleton]; omega) hsz1.out ?_; intro v9 w9 o9 grow9 loc9)
          have S9 := hideP (PRE.out v9 w9 o9 grow9)
          clear o9 grow9 loc9 LT OC hsz1 PRE S6
          clear q0 q1 q2 q3 q4 q5 q6 p0 p1 p2 p3
          go_wp2
          go_roundg (n - (k + 1))
          case rel => exact ⟨k + 1, by omega, by have := HI.out; go_num, by rw [K5.out]; exact S9.out⟩
          case measure => omega
        · by_cases h6 : op = 6
          · subst h6
            have K5 : Hid (backUp (dsF code ps) [] code (k + 1) = (([] : List Pla), (⟨6, d, a, b0, c0, nn, t⟩ : Ins) :: O)) := by show _ = _; rw [UP.out, (ds_put rfl).1, (ds_put rfl).2]; rfl
            clear UP
            have al := (Below.refl wr.heap.size wr).alloc (Nat.le_refl _) (.cells #[] 92)
            have S6 := hideP (hS2.out.list al (own_nil PlOk wr wr.heap.size rfl))
            clear al hS2
            go_upto_region 15 with fail
            obtain ⟨w6, hw6⟩ : ∃ w6, wr.alloc (.cells #[] 92) = w6 := ⟨_, rfl⟩
            rw [hw6] at S6 ⊢
            clear hw6
            clear q0 q1 q2 q3 q4 q5 q6 p0 p1 p2 p3
            obtain ⟨q0, q1, q2, q3, q4, q5, q6, p0, p1, p2, p3⟩ := CE.out w6 S6.out.bel
            obtain ⟨go, co, ho0, _⟩ := id S6.out.out
            subst ho0
            have al := (Below.refl w6.heap.size w6).alloc (Nat.le_refl _) (.cells #[.int .i64 6, .int .i64 d, .int .i64 a, .int .i64 b0, .int .i64 c0, .int .i64 nn, .string t] 56)
            have LT : Hid (OwnE InE (w6.alloc (.cells #[.int .i64 6, .int .i64 d, .int .i64 a, .int .i64 b0, .int .i64 c0, .int .i64 nn, .string t] 56)) w.heap.size (.slice (some ⟨w6.heap.size, 0, none⟩) 1 1) [(⟨6, d, a, b0, c0, nn, t⟩ : Ins)]) := (own_one InOk w6 ⟨6, d, a, b0, c0, nn, t⟩ #[.int .i64 6, .int .i64 d, .int .i64 a, .int .i64 b0, .int .i64 c0, .int .i64 nn, .string t] rfl).mono S6.out.bel.size
            have OC := hideP (fun j hj r hr => (S6.out.out.stays al).at InOk j hj r hr)
            have hsz1 : Hid (w.heap.size ≤ (w6.alloc (.cells #[.int .i64 6, .int .i64 d, .int .i64 a, .int .i64 b0, .int .i64 c0, .int .i64 nn, .string t] 56)).heap.size) := Nat.le_trans S6.out.bel.size al.size
            have PRE := hideP (fun v' w' (ho : OwnE InE w' w.heap.size v' ([(⟨6, d, a, b0, c0, nn, t⟩ : Ins)] ++ O)) hg => S6.out.pre (x := ⟨6, d, a, b0, c0, nn, t⟩) (o0 := .cells #[.int .i64 6, .int .i64 d, .int .i64 a, .int .i64 b0, .int .i64 c0, .int .i64 nn, .string t] 56) ho hg)
            clear al
            go_wp2_with (at_builtin; refine list_appEs InOk _ rfl _ _ rfl w.heap.size _ [(⟨6, d, a, b0, c0, nn, t⟩ : Ins)] O _ go 0 co rfl rfl rfl LT.out OC.out (by have := HOL.out; simp only [List.length_singleton]; omega) hsz1.out ?_; intro v9 w9 o9 grow9 loc9)
            have S9 := hideP (PRE.out v9 w9 o9 grow9)
            clear o9 grow9 loc9 LT OC hsz1 PRE S6
            clear q0 q1 q2 q3 q4 q5 q6 p0 p1 p2 p3
            go_wp2
            go_roundg (n - (k + 1))
            case rel => exact ⟨k + 1, by omega, by have := HI.out; go_num, by rw [K5.out]; exact S9.out⟩
            case measure => omega
          · have K5 : Hid (backUp (dsF code ps) [] code (k + 1) = (L, (⟨op, d, a, b0, c0, nn, t⟩ : Ins) :: O)) := by show _ = _; rw [UP.out, (ds_else h4 h3 h6).1, (ds_else h4 h3 h6).2]; rfl
            have S6 := hideP hS2.out
            clear UP hS2
            obtain ⟨go, co, ho0, _⟩ := id S6.out.out
            subst ho0
            have al := (Below.refl wr.heap.size wr).alloc (Nat.le_refl _) (.cells #[.int .i64 op, .int .i64 d, .int .i64 a, .int .i64 b0, .int .i64 c0, .int .i64 nn, .string t] 56)
            have LT : Hid (OwnE InE (wr.alloc (.cells #[.int .i64 op, .int .i64 d, .int .i64 a, .int .i64 b0, .int .i64 c0, .int .i64 nn, .string t] 56)) w.heap.size (.slice (some ⟨wr.heap.size, 0, none⟩) 1 1) [(⟨op, d, a, b0, c0, nn, t⟩ : Ins)]) := (own_one InOk wr ⟨op, d, a, b0, c0, nn, t⟩ #[.int .i64 op, .int .i64 d, .int .i64 a, .int .i64 b0, .int .i64 c0, .int .i64 nn, .string t] rfl).mono S6.out.bel.size
            have OC := hideP (fun j hj r hr => (S6.out.out.stays al).at InOk j hj r hr)
            have hsz1 : Hid (w.heap.size ≤ (wr.alloc (.cells #[.int .i64 op, .int .i64 d, .int .i64 a, .int .i64 b0, .int .i64 c0, .int .i64 nn, .string t] 56)).heap.size) := Nat.le_trans S6.out.bel.size al.size
            have PRE := hideP (fun v' w' (ho : OwnE InE w' w.heap.size v' ([(⟨op, d, a, b0, c0, nn, t⟩ : Ins)] ++ O)) hg => S6.out.pre (x := ⟨op, d, a, b0, c0, nn, t⟩) (o0 := .cells #[.int .i64 op, .int .i64 d, .int .i64 a, .int .i64 b0, .int .i64 c0, .int .i64 nn, .string t] 56) ho hg)
            clear al
            go_wp2_with (at_builtin; refine list_appEs InOk _ rfl _ _ rfl w.heap.size _ [(⟨op, d, a, b0, c0, nn, t⟩ : Ins)] O _ go 0 co rfl rfl rfl LT.out OC.out (by have := HOL.out; simp only [List.length_singleton]; omega) hsz1.out ?_; intro v9 w9 o9 grow9 loc9)
            have S9 := hideP (PRE.out v9 w9 o9 grow9)
            clear o9 grow9 loc9 LT OC hsz1 PRE S6
            clear q0 q1 q2 q3 q4 q5 q6 p0 p1 p2 p3
            go_wp2
            go_roundg (n - (k + 1))
            case rel => exact ⟨k + 1, by omega, by have := HI.out; go_num, by rw [K5.out]; exact S9.out⟩
            case measure => omega
    · have hkn : k = n := by omega
      subst hkn
      go_wp2
      go_ret
      exact ⟨_, rfl, hS.out.out, hS.out.bel⟩
end Go.Proofs.YtelkpikbjfkpcaaGreat

/- The contract of spec.Forward (written by wip/mkfwdsc.py). -/
namespace Go.Proofs.YtelkpikbjfkpcaaGreat
open Go.ChangeShapes Go.WideShapes Go.ChangeAt Go.RowKit
theorem OwnE.sl {w : World} {B g n cap : Nat} {l : List Ins} (h : OwnE InE w B (.slice (some ⟨g, 0, none⟩) n cap) l) (hw : ∀ z ∈ l, z.wf ∧ z.t.size ≤ maxLen) (hl : l.length ≤ maxLen) : SlIs InsIs 7 w B (some ⟨g, 0, none⟩) l := by
  obtain ⟨g', cap', cur, hv, hB, hh, _, _, _, hx⟩ := h.parts InOk
  injection hv with e1
  injection e1 with e1
  injection e1 with e1
  subst e1
  refine ⟨hl, fun i => insV (l[i]!), Or.inr ⟨g, 0, rfl, hB, hltP hh, fun _ => ⟨cur, _, hh⟩, fun i hi => ⟨rfl, fun j hj => ?_⟩⟩, fun i hi => ?_⟩
  · have := hx i hi j hj
    simp only [World.cell?, hh, Nat.zero_add, getElem!_pos l i hi]
    rw [show InE.sz = 7 from rfl] at this
    refine Eq.trans this ?_
    simp [InE, insV]
  · simp only [getElem!_pos l i hi]
    exact ⟨rfl, hw _ (List.getElem_mem hi)⟩
theorem CpAt.put {base : Nat} {x : Gr} {sa : Option Addr} {kS gq cq : Nat} {rows : List BRow} {W : World} (h : CpAt base x sa kS gq cq rows W) {j : Nat} (hj : j < x.blocks.length) {gn n' kn : Nat} {code' : List Ins} (ho : SlIs InsIs 7 W base (some ⟨gn, 0, none⟩) code') (hne : gn ≠ gq) (hn : n' = code'.length) :
    ∃ rows', CpAt base { x with blocks := x.blocks.set j { x.blocks[j] with code := code' } } sa kS gq cq rows' (W.setCell ⟨gq, j * 5, none⟩ (.slice (some ⟨gn, 0, none⟩) n' kn)) := by
  subst hn
  have hjr : j < rows.length := by rw [h.len]; exact hj
  have hb : But gq W (W.setCell ⟨gq, j * 5, none⟩ (.slice (some ⟨gn, 0, none⟩) code'.length kn)) := (But.refl gq W).set _ _
  obtain ⟨h1, h2, _⟩ := h.code j hjr
  rw [getElem!_pos x.blocks j hj] at h1
  refine ⟨rows.set j (some ⟨gn, 0, none⟩, kn, { x.blocks[j] with code := code' }), ?_, ?_, h.wf, h.szs.butne h.szne hb, h.szne, fun i hi => ?_, fun i hi h0 => ?_⟩
  · have := OwnE.setR BlE_ok h.own hjr (r := 0) (by decide) (u := .slice (some ⟨gn, 0, none⟩) code'.length kn) (x' := (some ⟨gn, 0, none⟩, kn, { x.blocks[j] with code := code' })) (by rw [← h1]; rfl)
    simp only [List.length_set]
    exact this
  · rw [List.length_set, List.length_set]; exact h.len
  · rw [List.length_set] at hi
    have hib : i < x.blocks.length := by rw [← h.len]; exact hi
    rw [getElem!_pos (x.blocks.set j _) i (by rw [List.length_set]; exact hib)]
    by_cases e : j = i
    · subst e
      rw [List.getElem_set_self, List.getElem_set_self]
      refine ⟨rfl, ?_, ho.butne (fun _ b o e => by cases e; exact hne) hb⟩
      rw [h1] at h2
      exact h2
    · rw [List.getElem_set_ne e, List.getElem_set_ne e]
      obtain ⟨k1, k2, k3⟩ := h.code i hi
      rw [getElem!_pos x.blocks i hib] at k1
      exact ⟨k1, k2, k3.butne (h.cone i hi) hb⟩
  · rw [List.length_set] at hi
    by_cases e : j = i
    · subst e
      rw [List.getElem_set_self]
      intro b o e
      cases e
      exact hne
    · rw [List.getElem_set_ne e] at h0 ⊢
      exact h.cone i hi h0
theorem CpAt.gr {base : Nat} {x : Gr} {sa : Option Addr} {kS gq cq : Nat} {rows : List BRow} {W : World} (h : CpAt base x sa kS gq cq rows W) (hl : x.blocks.length ≤ maxLen) : GrIs W base #[.slice sa x.sizes.length kS, .int .i64 x.params, .int .i64 x.vars, .int .i64 x.slots, .slice (some ⟨gq, 0, none⟩) x.blocks.length cq] x := by
  refine ⟨sa, kS, _, cq, rfl, h.wf, h.szs, hl, ?_⟩
  obtain ⟨g', cap, cur, hv, hB', hh, _, _, _, hx⟩ := h.own.parts BlE_ok
  injection hv with e1
  injection e1 with e1
  injection e1 with e1
  subst e1
  have hlen := h.len
  refine ⟨fun i => (BlE.cs (rows[i]!)).toArray, Or.inr ⟨gq, 0, rfl, hB', hltH hh, fun _ => ⟨cur, _, hh⟩, fun i hi => ⟨rfl, fun j hj => ?_⟩⟩, fun i hi => ?_⟩
  · have := hx i (by omega) j hj
    simp only [World.cell?, hh, Nat.zero_add, getElem!_pos rows i (show i < rows.length by omega)]
    rw [show BlE.sz = 5 from rfl] at this
    simpa using this
  · have hi' : i < rows.length := by omega
    obtain ⟨h1, h2, h3⟩ := h.code i hi'
    rw [getElem!_pos x.blocks i hi] at h1
    simp only [getElem!_pos rows i hi']
    rw [← h1]
    exact ⟨_, _, rfl, h2, h3⟩
/-- Between two rounds. -/
structure SfAt (w : World) (o : Nat) (bv zv ov : Array Value) (x : Gr) (sa : Option Addr) (kS gq cq : Nat) (wr : World) : Prop where
  cp : ∃ rows, CpAt (w.heap.size + 2) x sa kS gq cq rows wr
  bP : wr.heap[w.heap.size]? = some (.cells bv 29 (0, 0))
  bR : wr.heap[w.heap.size + 1]? = some (.cells zv 29 (0, 0))
  bO : wr.heap[o]? = some (.cells ov 29 (0, 0))
  bel : Below w.heap.size w wr
theorem SfAt.stays {w wr wr' : World} {o : Nat} {bv zv ov : Array Value} {x : Gr} {sa : Option Addr} {kS gq cq : Nat} (h : SfAt w o bv zv ov x sa kS gq cq wr) (b : Below wr.heap.size wr wr') : SfAt w o bv zv ov x sa kS gq cq wr' :=
  let ⟨rows, hr⟩ := h.cp
  ⟨⟨rows, hr.stays b⟩, (b.block _ (hltP h.bP)).trans h.bP, (b.block _ (hltP h.bR)).trans h.bR, (b.block _ (hltP h.bO)).trans h.bO, below_trans h.bel b⟩
theorem SfAt.put {w wr : World} {o : Nat} {bv zv ov : Array Value} {x : Gr} {sa : Option Addr} {kS gq cq : Nat} (h : SfAt w o bv zv ov x sa kS gq cq wr) {j : Nat} (hj : j < x.blocks.length) {gn n' kn : Nat} {code' : List Ins} (ho : SlIs InsIs 7 wr (w.heap.size + 2) (some ⟨gn, 0, none⟩) code') (hne : gn ≠ gq) (hn : n' = code'.length) (lo : w.heap.size + 2 ≤ gq ∧ gq < o) :
    SfAt w o bv zv ov { x with blocks := x.blocks.set j { x.blocks[j] with code := code' } } sa kS gq cq (wr.setCell ⟨gq, j * 5, none⟩ (.slice (some ⟨gn, 0, none⟩) n' kn)) :=
  let ⟨_, hr⟩ := h.cp
  have hb : But gq wr (wr.setCell ⟨gq, j * 5, none⟩ (.slice (some ⟨gn, 0, none⟩) n' kn)) := (But.refl gq wr).set _ _
  ⟨hr.put hj ho hne hn, hb.keepB h.bP (by omega), hb.keepB h.bR (by omega), hb.keepB h.bO (by omega), h.bel.trans (hb.below (by omega) h.bel.size)⟩
/-- All blocks but one are as they were. -/
def KpG (wr : World) (g : Nat) (W : World) : Prop := ∀ k, k < wr.heap.size → k ≠ g → W.heap[k]? = wr.heap[k]?
theorem KpG.of {wr W : World} {g : Nat} (h : Below wr.heap.size wr W) : KpG wr g W := fun k hk _ => h.block k hk
theorem KpG.drew (wr : World) (g : Nat) : KpG wr g wr.drew := fun _ _ _ => rfl
theorem KpG.set {wr W : World} {g : Nat} (h : Below wr.heap.size wr W) (i : Nat) (u : Value) : KpG wr g (W.setCell ⟨g, i, none⟩ u) := fun k hk hne => (Below.heap_setCell W ⟨g, i, none⟩ u k hne).trans (h.block k hk)
/-- The answer is this graph. -/
def SpGrF (w : World) (x : Gr) (en : Ending) (w' : World) : Prop := ∃ v', en = .returned (.agg v') ∧ GrIs w' w.heap.size v' x ∧ Below w.heap.size w w'
set_option maxRecDepth 100000 in
set_option maxHeartbeats 8000000 in
theorem spec_forward0 (x : Gr) (w : World) (B : Nat) (v : Array Value) (h : GrIs w B v x) (GO : OkIs 14 x) (hf : Fits x) :
    Calls Tryz.prog 18 #[.agg v] w fun en w' => SpGrF w (fwdP x) en w' := by
  have HG0 := hideP h
  have HGO := hideP GO
  obtain ⟨y, hy⟩ : ∃ y, grOk x = y := ⟨_, rfl⟩
  have HY := hideP hy
  have CY : Hid (∀ W, Below w.heap.size w W → Calls Tryz.prog 14 #[.agg v] W fun en w' => en = .returned (.bool y) ∧ Below W.heap.size W w') := fun W hW => by rw [← hy]; exact GO W B v (GrKeeps.stays h hW)
  have CC : Hid (∀ W, Below w.heap.size w W → Calls Tryz.prog 13 #[.agg v] W fun en w' => ∃ v', en = .returned (.agg v') ∧ GrIs w' W.heap.size v' x ∧ Below W.heap.size W w' ∧ CpGr W.heap.size x v' w') := fun W hW => spec_copyX x W B v (GrKeeps.stays h hW) hf
  obtain ⟨X, hX⟩ : ∃ X, fwdP x = X := ⟨_, rfl⟩
  have HX := hideP hX
  rw [hX]
  clear hy hX GO hf
  obtain ⟨sizes, p, q, r, blocks⟩ := x
  obtain ⟨us, cs, ub, cb, rfl, _, _, hbb⟩ := h
  simp only at *
  have hbm := hbb.1
  have HBB := hideP hbb
  have AL := hideP (below2 w (.cells #[.slice us sizes.length cs, .int .i64 p, .int .i64 q, .int .i64 r, .slice ub blocks.length cb] 29) (.cells #[.slice none 0 0, .int .i64 0, .int .i64 0, .int .i64 0, .slice none 0 0] 29))
  have TW := hideP (fun w1 => two (w := w) (w1 := w1) (o1 := .cells #[.slice us sizes.length cs, .int .i64 p, .int .i64 q, .int .i64 r, .slice ub blocks.length cb] 29) (o2 := .cells #[.slice none 0 0, .int .i64 0, .int .i64 0, .int .i64 0, .slice none 0 0] 29))
  have HZ2 : Hid (((w.alloc (.cells #[.slice us sizes.length cs, .int .i64 p, .int .i64 q, .int .i64 r, .slice ub blocks.length cb] 29)).alloc (.cells #[.slice none 0 0, .int .i64 0, .int .i64 0, .int .i64 0, .slice none 0 0] 29)).heap.size = w.heap.size + 2) := by show _ = _; simp
  clear hbb
  go_enter Tryz.func18, Tryz.ntmps18
  go_wp2_with fail
  refine (CC.out _ AL.out).mono ?_
  rintro e1 w1 ⟨v1, rfl, _, bel1, sa, kS, gq, cq, rows1, rfl, cp1⟩
  obtain ⟨P1, RR, L1, hw⟩ := TW.out w1 bel1
  rw [HZ2.out] at cp1
  simp only at cp1 ⊢
  have al2 := (Below.refl w1.heap.size w1).alloc (Nat.le_refl _) (.cells #[.slice sa sizes.length kS, .int .i64 p, .int .i64 q, .int .i64 r, .slice (some ⟨gq, 0, none⟩) blocks.length cq] 29)
  have LO : Hid (w.heap.size + 2 ≤ gq ∧ gq < w1.heap.size) := cp1.own.low gq rfl
  have I0 : Hid (SfAt w w1.heap.size #[.slice us sizes.length cs, .int .i64 p, .int .i64 q, .int .i64 r, .slice ub blocks.length cb] #[.slice none 0 0, .int .i64 0, .int .i64 0, .int .i64 0, .slice none 0 0] #[.slice sa sizes.length kS, .int .i64 p, .int .i64 q, .int .i64 r, .slice (some ⟨gq, 0, none⟩) blocks.length cq] ⟨sizes, p, q, r, blocks⟩ sa kS gq cq (w1.alloc (.cells #[.slice sa sizes.length kS, .int .i64 p, .int .i64 q, .int .i64 r, .slice (some ⟨gq, 0, none⟩) blocks.length cq] 29))) := ⟨⟨rows1, cp1.stays al2⟩, (al2.block _ (hltP P1)).trans P1, (al2.block _ (hltP RR)).trans RR, blk_newG w1 _, below_trans hw al2⟩
  clear bel1 P1 RR hw TW AL CC al2 cp1 HZ2 L1
  go_upto_region 2 with fail
  obtain ⟨Wb, hWb⟩ : ∃ Wb, w1.alloc (.cells #[.slice sa sizes.length kS, .int .i64 p, .int .i64 q, .int .i64 r, .slice (some ⟨gq, 0, none⟩) blocks.length cq] 29) = Wb := ⟨_, rfl⟩
  rw [hWb] at I0 ⊢
  clear hWb
  have c0 := (cells_of I0.out.bP).1 0
  have c1 := (cells_of I0.out.bP).1 1
  have c2 := (cells_of I0.out.bP).1 2
  have c3 := (cells_of I0.out.bP).1 3
  have c4 := (cells_of I0.out.bP).1 4
  simp at c0 c1 c2 c3 c4
  go_wp2_with fail
  refine (CY.out _ I0.out.bel).mono ?_
  rintro e2 w2 ⟨rfl, bel2⟩
  have I2 := hideP (I0.out.stays bel2)
  clear CY c0 c1 c2 c3 c4 I0 bel2
  cases y with
  | false =>
    have E : Hid (X = ⟨sizes, p, q, r, blocks⟩) := by show _ = _; rw [← HX.out]; exact fwdP_no (by rw [HY.out]; simp)
    have z := I2.out.bR
    have d0 := (cells_of I2.out.bO).1 0
    have d1 := (cells_of I2.out.bO).1 1
    have d2 := (cells_of I2.out.bO).1 2
    have d3 := (cells_of I2.out.bO).1 3
    have d4 := (cells_of I2.out.bO).1 4
    have r0 := (cells_of z).1 0
    have r1 := (cells_of z).1 1
    have r2 := (cells_of z).1 2
    have r3 := (cells_of z).1 3
    have r4 := (cells_of z).1 4
    have rf := (cells_of z).2
    simp at d0 d1 d2 d3 d4 r0 r1 r2 r3 r4
    have z0 := heap_setCell_same w2 _ 0 _ _ (.slice sa sizes.length kS) z
    have z1 := heap_setCell_same _ _ 1 _ _ (.int .i64 p) z0
    have z2 := heap_setCell_same _ _ 2 _ _ (.int .i64 q) z1
    have z3 := heap_setCell_same _ _ 3 _ _ (.int .i64 r) z2
    have z4 : (((((w2.setCell ⟨w.heap.size + 1, 0, none⟩ (.slice sa sizes.length kS)).setCell ⟨w.heap.size + 1, 1, none⟩ (.int .i64 p)).setCell ⟨w.heap.size + 1, 2, none⟩ (.int .i64 q)).setCell ⟨w.heap.size + 1, 3, none⟩ (.int .i64 r)).setCell ⟨w.heap.size + 1, 4, none⟩ (.slice (some ⟨gq, 0, none⟩) blocks.length cq)).heap[w.heap.size + 1]? = some (.cells #[.slice sa sizes.length kS, .int .i64 p, .int .i64 q, .int .i64 r, .slice (some ⟨gq, 0, none⟩) blocks.length cq] 29 (0, 0)) := heap_setCell_same _ _ 4 _ _ (.slice (some ⟨gq, 0, none⟩) blocks.length cq) z3
    have ZF := hideP z4
    have BU : Hid (But (w.heap.size + 1) w2 (((((w2.setCell ⟨w.heap.size + 1, 0, none⟩ (.slice sa sizes.length kS)).setCell ⟨w.heap.size + 1, 1, none⟩ (.int .i64 p)).setCell ⟨w.heap.size + 1, 2, none⟩ (.int .i64 q)).setCell ⟨w.heap.size + 1, 3, none⟩ (.int .i64 r)).setCell ⟨w.heap.size + 1, 4, none⟩ (.slice (some ⟨gq, 0, none⟩) blocks.length cq))) := ((((((But.refl (w.heap.size + 1) w2).set 0 (.slice sa sizes.length kS)).set 1 (.int .i64 p)).set 2 (.int .i64 q)).set 3 (.int .i64 r)).set 4 (.slice (some ⟨gq, 0, none⟩) blocks.length cq))
    clear z z0 z1 z2 z3 z4
    go_wp2
    refine bodyPost_ret (results_cell_row rfl _ _ (w.heap.size + 1) 29 #[.slice sa sizes.length kS, .int .i64 p, .int .i64 q, .int .i64 r, .slice (some ⟨gq, 0, none⟩) blocks.length cq] (0, 0) _ rfl ZF.out Tryz.underlying29 rfl (by kernel_rfl)) rfl ?_
    rw [E.out]
    have hlt9 := hltP I2.out.bR
    obtain ⟨rows9, hr9⟩ := I2.out.cp
    exact ⟨_, rfl, GrKeeps.mono (GrKeeps.but (hr9.gr hbm) (by omega) BU.out) (by omega), I2.out.bel.trans (BU.out.below (by omega) (by omega))⟩
  | true =>
    have hok : Hid (grOk ⟨sizes, p, q, r, blocks⟩ = true) := HY.out
    have hbl : blocks.length ≤ 300 := by have := hok.out; simp only [grOk, Bool.and_eq_true, decide_eq_true_eq] at this; omega
    obtain ⟨V, hV⟩ : ∃ V : Nat, r = (V : Int) := by
      have := hok.out
      simp only [grOk, frOk, Bool.and_eq_true, decide_eq_true_eq] at this
      exact ⟨r.toNat, by omega⟩
    subst hV
    have E : Hid (X = ⟨sizes, p, q, (V : Int), blocks.map (fwdB V)⟩) := by show _ = _; rw [← HX.out]; exact fwdP_ok hok.out
    have HAS : Hid (∀ j (hj : j < blocks.length), hasB6 ⟨sizes, p, q, (V : Int), blocks⟩ (j : Int) ∧ (blocks[j]).code.length ≤ 1000 ∧ V ≤ 1000 ∧ (∀ z ∈ (blocks[j]).code, insOk (sizes.length : Nat) (V : Nat) z = true) ∧ placesP ⟨sizes, p, q, (V : Int), blocks⟩ (j : Int) = placesUp V (blocks[j]).code (blocks[j]).code.length) := fun j hj => by
      have hb6 : hasB6 ⟨sizes, p, q, (V : Int), blocks⟩ (j : Int) := ⟨hok.out, by omega, by simp only; omega⟩
      obtain ⟨i, V', e1, e2, e3, hi, e4, e5, e6⟩ := hasB6_ok hb6
      obtain rfl : i = j := by omega
      have e2' : (V : Int) = (V' : Int) := e2
      obtain rfl : V = V' := by omega
      refine ⟨hb6, e5, e3, e6, ?_⟩
      unfold placesP
      rw [if_pos hb6, e4]
      rfl
    clear HX HY
    go_wp2
    go_loopg [4] blocks.length (fun gk ix wr => ∃ j : Nat, gk + j = blocks.length ∧ ix = .int .i64 j ∧ Hid (SfAt w w1.heap.size #[.slice us sizes.length cs, .int .i64 p, .int .i64 q, .int .i64 (V : Int), .slice ub blocks.length cb] #[.slice none 0 0, .int .i64 0, .int .i64 0, .int .i64 0, .slice none 0 0] #[.slice sa sizes.length kS, .int .i64 p, .int .i64 q, .int .i64 (V : Int), .slice (some ⟨gq, 0, none⟩) blocks.length cq] ⟨sizes, p, q, (V : Int), midB V blocks j⟩ sa kS gq cq wr))
    case atStart => exact ⟨0, by simp, rfl, I2.out⟩
    case round =>
      obtain ⟨j, hj, rfl, hI⟩ := hrel
      clear I2
      have b4 := (cells_of hI.out.bP).1 4
      simp at b4
      by_cases hlt : j < blocks.length
      · obtain ⟨bb, oo, uc, kc, rfl, hbbw, hcell, hcode⟩ := code_of HBB.out j hlt
        obtain ⟨hb6, hcl, hV1, hins, hpp⟩ := HAS.out j hlt
        obtain ⟨BK, hBK⟩ : ∃ BK, blocks[j] = BK := ⟨_, rfl⟩
        have HBK := hideP hBK
        rw [hBK] at hcell hcode hcl hins hpp
        obtain ⟨code, jump, a, t0, els⟩ := BK
        simp only at hcell hcode hcl hins hpp
        have hw := ins_all hcode
        have CO : Hid (CodeOk (sizes.length : Nat) V code) := ⟨hcl, hV1, fun z hz => ⟨hins z hz, ins_i64 hcode z hz⟩⟩
        have HWF := hideP hw
        have HC := hideP hcode
        have hpl := placesUp_len V code code.length (Nat.le_refl _)
        obtain ⟨ps, hps⟩ : ∃ ps, placesUp V code code.length = ps := ⟨_, rfl⟩
        rw [hps] at hpp hpl
        have PL : Hid (∀ W, Below wr.heap.size wr W → Calls Tryz.prog 42 #[.agg #[.slice us sizes.length cs, .int .i64 p, .int .i64 q, .int .i64 (V : Int), .slice (some ⟨bb, oo, none⟩) blocks.length cb], .int .i64 (j : Int)] W fun en w' => ∃ gp kp, en = .returned (.slice (some ⟨gp, 0, none⟩) code.length kp) ∧ OwnE PlE w' 0 (.slice (some ⟨gp, 0, none⟩) code.length kp) ps ∧ Below wr.heap.size wr w') := fun W hW => by
          refine (spec_places ⟨sizes, p, q, (V : Int), blocks⟩ (j : Int) W B _ (GrKeeps.stays HG0.out (below_trans hI.out.bel hW)) HGO.out).mono ?_
          rintro en w' ⟨v', he, ho, hb'⟩
          rw [hpp] at ho
          obtain ⟨gp, kp, hv', _⟩ := id ho
          rw [hpl] at hv'
          subst hv'
          exact ⟨gp, kp, he, ho.mono (Nat.zero_le _), below_trans hW hb'⟩
        have BL : Hid (∀ W gp kp, Below wr.heap.size wr W → OwnE PlE W 0 (.slice (some ⟨gp, 0, none⟩) code.length kp) ps → Calls Tryz.prog 43 #[.slice uc code.length kc, .slice (some ⟨gp, 0, none⟩) code.length kp] W fun en w' => ∃ gn kn, en = .returned (.slice (some ⟨gn, 0, none⟩) code.length kn) ∧ wr.heap.size ≤ gn ∧ SlIs InsIs 7 w' (w.heap.size + 2) (some ⟨gn, 0, none⟩) (fwdCode V code) ∧ Below wr.heap.size wr w') := fun W gp kp hW ho => by
          have hF : fwdCode V code = (fwdUp code ps code.length).2 := by unfold fwdCode; rw [hps]
          have hb7 := block07_any code ps W B 0 gp kp kc uc (HC.out.stays InsKeeps (below_trans hI.out.bel hW)) (by rw [hpl]; exact ho) hpl hcl
          rw [hpl] at hb7
          refine hb7.mono ?_
          rintro en w' ⟨v', he, ho', hb'⟩
          rw [← hF] at ho'
          obtain ⟨gn, kn, hv', _⟩ := id ho'
          have hln := fwdCode_len V code
          rw [hln] at hv'
          subst hv'
          have hlow := (ho'.low gn rfl).1
          have hsz := hW.size
          have hwz := hltP hI.out.bR
          refine ⟨gn, kn, he, by omega, (ho'.mono (show w.heap.size + 2 ≤ W.heap.size by omega)).sl (fwdCode_wf CO.out HWF.out) (by rw [hln]; unfold maxLen; omega), below_trans hW hb'⟩
        have SK : Hid (∀ (W' : World), KpG wr gq W' → W'.cell? ⟨w1.heap.size, 4, none⟩ = some (.slice (some ⟨gq, 0, none⟩) blocks.length cq) ∧ W'.cell? ⟨w.heap.size, 0, none⟩ = some (.slice us sizes.length cs) ∧ W'.cell? ⟨w.heap.size, 1, none⟩ = some (.int .i64 p) ∧ W'.cell? ⟨w.heap.size, 2, none⟩ = some (.int .i64 q) ∧ W'.cell? ⟨w.heap.size, 3, none⟩ = some (.int .i64 (V : Int)) ∧ W'.cell? ⟨w.heap.size, 4, none⟩ = some (.slice (some ⟨bb, oo, none⟩) blocks.length cb) ∧ W'.cell? ⟨bb, oo + j * 5, none⟩ = some (.slice uc code.length kc)) := fun W' hk => by
          have lo := LO.out
          have hP := (hk w.heap.size (hltP hI.out.bP) (by omega)).trans hI.out.bP
          have hO := (hk w1.heap.size (hltP hI.out.bO) (by omega)).trans hI.out.bO
          have hcw : wr.cell? ⟨bb, oo + j * 5, none⟩ = some (.slice uc code.length kc) := (hI.out.bel.cell (p := ⟨bb, _, none⟩) hbbw).trans hcell
          have c := (cells_of hP).1
          exact ⟨(cells_of hO).1 4, c 0, c 1, c 2, c 3, c 4, (World.cell?_of_block (a := ⟨bb, oo + j * 5, none⟩) (hk bb (Nat.lt_of_lt_of_le hbbw hI.out.bel.size) (by omega))).trans hcw⟩
        have ROW : Hid (∀ W, Below wr.heap.size wr W → ∃ u0, W.cell? ⟨gq, j * 5, none⟩ = some u0 ∧ W.frozen? ⟨gq, j * 5, none⟩ = false) := fun W hW => by
          obtain ⟨rows, hr⟩ := (hI.out.stays hW).cp
          have hjr : j < rows.length := by rw [hr.len]; simp only [midB_len]; exact hlt
          obtain ⟨g', cap', cur, hv, _, hh, _⟩ := hr.own.parts BlE_ok
          have h0 := hr.own.at BlE_ok j hjr 0 (by decide)
          injection hv with e1
          injection e1 with e1
          injection e1 with e1
          subst e1
          exact ⟨_, by simpa [BlE] using h0, (cells_of hh).2 _⟩
        have NX : Hid (∀ W gn kn, Below wr.heap.size wr W → wr.heap.size ≤ gn → SlIs InsIs 7 W (w.heap.size + 2) (some ⟨gn, 0, none⟩) (fwdCode V code) → SfAt w w1.heap.size #[.slice us sizes.length cs, .int .i64 p, .int .i64 q, .int .i64 (V : Int), .slice (some ⟨bb, oo, none⟩) blocks.length cb] #[.slice none 0 0, .int .i64 0, .int .i64 0, .int .i64 0, .slice none 0 0] #[.slice sa sizes.length kS, .int .i64 p, .int .i64 q, .int .i64 (V : Int), .slice (some ⟨gq, 0, none⟩) blocks.length cq] ⟨sizes, p, q, (V : Int), midB V blocks (j + 1)⟩ sa kS gq cq (W.setCell ⟨gq, j * 5, none⟩ (.slice (some ⟨gn, 0, none⟩) code.length kn))) := fun W gn kn hW hgn hs => by
          have hmj : (midB V blocks j)[j]'(by rw [midB_len]; exact hlt) = ⟨code, jump, a, t0, els⟩ := (midB_ge V blocks j j (Nat.le_refl _) hlt).trans HBK.out
          have lo := LO.out
          have hwo := hltP hI.out.bO
          have hr := (hI.out.stays hW).put (j := j) (by simp only [midB_len]; exact hlt) hs (kn := kn) (by omega) (fwdCode_len V code).symm lo
          simp only [hmj] at hr
          have e9 : midB V blocks (j + 1) = (midB V blocks j).set j ⟨fwdCode V code, jump, a, t0, els⟩ := by
            show (midB V blocks j).set j (fwdB V (blocks[j]!)) = _
            rw [getElem!_pos blocks j hlt, HBK.out]; rfl
          rw [e9]
          exact hr
        clear hb6 hcl hins hpp hw hcode hcell hps hpl hBK hI
        go_upto_region 7 with fail
        go_region_held3 (fun W' => W'.cell? ⟨w1.heap.size, 4, none⟩ = some (.slice (some ⟨gq, 0, none⟩) blocks.length cq) ∧ W'.cell? ⟨w.heap.size, 0, none⟩ = some (.slice us sizes.length cs) ∧ W'.cell? ⟨w.heap.size, 1, none⟩ = some (.int .i64 p) ∧ W'.cell? ⟨w.heap.size, 2, none⟩ = some (.int .i64 q) ∧ W'.cell? ⟨w.heap.size, 3, none⟩ = some (.int .i64 (V : Int)) ∧ W'.cell? ⟨w.heap.size, 4, none⟩ = some (.slice (some ⟨bb, oo, none⟩) blocks.length cb) ∧ W'.cell? ⟨bb, oo + j * 5, none⟩ = some (.slice uc code.length kc)) (first | with_reducible exact SK.out _ (KpG.set F6.out _ _) | with_reducible exact SK.out _ (KpG.of F6.out) | with_reducible exact SK.out _ (KpG.of F5.out) | with_reducible exact SK.out _ (KpG.drew _ _)) (first
          | (go_at_call 42; refine (PL.out _ (Below.refl _ _).drew).mono ?_; rintro e5 w5 ⟨gp, kp5, rfl, o5, b5⟩; have F5 := hideP b5; have O5 := hideP o5; clear b5 o5)
          | (go_at_call 43; refine (BL.out _ gp kp5 F5.out O5.out).mono ?_; rintro e6 w6 ⟨gn, kn, rfl, hgn, hs6, b6⟩; have F6 := hideP b6; have N6 := hideP (NX.out w6 gn kn b6 hgn hs6); obtain ⟨u0, q0, qf⟩ := ROW.out w6 b6; clear b6 hs6))
        clear SK PL BL ROW NX F5 F6 O5 q0 qf b4
        go_wp2
        go_roundg (blocks.length - (j + 1))
        case rel => exact ⟨j + 1, by omega, by go_num, N6.out⟩
        case measure => omega
      · have hjn : j = blocks.length := by omega
        subst hjn
        have MA : Hid (midB V blocks blocks.length = blocks.map (fwdB V)) := midB_all V blocks
        rw [MA.out] at hI
        have z := hI.out.bR
        have d0 := (cells_of hI.out.bO).1 0
        have d1 := (cells_of hI.out.bO).1 1
        have d2 := (cells_of hI.out.bO).1 2
        have d3 := (cells_of hI.out.bO).1 3
        have d4 := (cells_of hI.out.bO).1 4
        have r0 := (cells_of z).1 0
        have r1 := (cells_of z).1 1
        have r2 := (cells_of z).1 2
        have r3 := (cells_of z).1 3
        have r4 := (cells_of z).1 4
        have rf := (cells_of z).2
        simp at d0 d1 d2 d3 d4 r0 r1 r2 r3 r4
        have z0 := heap_setCell_same wr _ 0 _ _ (.slice sa sizes.length kS) z
        have z1 := heap_setCell_same _ _ 1 _ _ (.int .i64 p) z0
        have z2 := heap_setCell_same _ _ 2 _ _ (.int .i64 q) z1
        have z3 := heap_setCell_same _ _ 3 _ _ (.int .i64 (V : Int)) z2
        have z4 : (((((wr.setCell ⟨w.heap.size + 1, 0, none⟩ (.slice sa sizes.length kS)).setCell ⟨w.heap.size + 1, 1, none⟩ (.int .i64 p)).setCell ⟨w.heap.size + 1, 2, none⟩ (.int .i64 q)).setCell ⟨w.heap.size + 1, 3, none⟩ (.int .i64 (V : Int))).setCell ⟨w.heap.size + 1, 4, none⟩ (.slice (some ⟨gq, 0, none⟩) blocks.length cq)).heap[w.heap.size + 1]? = some (.cells #[.slice sa sizes.length kS, .int .i64 p, .int .i64 q, .int .i64 (V : Int), .slice (some ⟨gq, 0, none⟩) blocks.length cq] 29 (0, 0)) := heap_setCell_same _ _ 4 _ _ (.slice (some ⟨gq, 0, none⟩) blocks.length cq) z3
        have ZF := hideP z4
        have BU : Hid (But (w.heap.size + 1) wr (((((wr.setCell ⟨w.heap.size + 1, 0, none⟩ (.slice sa sizes.length kS)).setCell ⟨w.heap.size + 1, 1, none⟩ (.int .i64 p)).setCell ⟨w.heap.size + 1, 2, none⟩ (.int .i64 q)).setCell ⟨w.heap.size + 1, 3, none⟩ (.int .i64 (V : Int))).setCell ⟨w.heap.size + 1, 4, none⟩ (.slice (some ⟨gq, 0, none⟩) blocks.length cq))) := ((((((But.refl (w.heap.size + 1) wr).set 0 (.slice sa sizes.length kS)).set 1 (.int .i64 p)).set 2 (.int .i64 q)).set 3 (.int .i64 (V : Int))).set 4 (.slice (some ⟨gq, 0, none⟩) blocks.length cq))
        clear z z0 z1 z2 z3 z4
        go_wp2
        refine bodyPost_ret (results_cell_row rfl _ _ (w.heap.size + 1) 29 #[.slice sa sizes.length kS, .int .i64 p, .int .i64 q, .int .i64 (V : Int), .slice (some ⟨gq, 0, none⟩) blocks.length cq] (0, 0) _ rfl ZF.out Tryz.underlying29 rfl (by kernel_rfl)) rfl ?_
        rw [E.out]
        have hlt9 := hltP hI.out.bR
        obtain ⟨rows9, hr9⟩ := hI.out.cp
        have gr9 := hr9.gr (by simp only [List.length_map]; exact hbm)
        simp only [List.length_map] at gr9
        exact ⟨_, rfl, GrKeeps.mono (GrKeeps.but gr9 (by omega) BU.out) (by omega), hI.out.bel.trans (BU.out.below (by omega) (by omega))⟩
theorem spec_forward (x : Gr) (w : World) (B : Nat) (v : Array Value) (h : GrIs w B v x) (GO : OkIs 14 x) (hf : Fits x) :
    Calls Tryz.prog 18 #[.agg v] w fun en w' => ∃ v', en = .returned (.agg v') ∧ GrIs w' w.heap.size v' (fwdP x) ∧ Below w.heap.size w w' := spec_forward0 x w B v h GO hf
end Go.Proofs.YtelkpikbjfkpcaaGreat

/- The contract of spec.DeadStores (written by wip/mkdssc.py). -/
namespace Go.Proofs.YtelkpikbjfkpcaaGreat
open Go.ChangeShapes Go.WideShapes Go.ChangeAt Go.RowKit
set_option maxRecDepth 100000 in
set_option maxHeartbeats 8000000 in
theorem spec_deadStores0 (x : Gr) (w : World) (B : Nat) (v : Array Value) (h : GrIs w B v x) (GO : OkIs 14 x) (hf : Fits x) :
    Calls Tryz.prog 17 #[.agg v] w fun en w' => SpGrF w (dsP x) en w' := by
  have HG0 := hideP h
  have HGO := hideP GO
  obtain ⟨y, hy⟩ : ∃ y, grOk x = y := ⟨_, rfl⟩
  have HY := hideP hy
  have CY : Hid (∀ W, Below w.heap.size w W → Calls Tryz.prog 14 #[.agg v] W fun en w' => en = .returned (.bool y) ∧ Below W.heap.size W w') := fun W hW => by rw [← hy]; exact GO W B v (GrKeeps.stays h hW)
  have CC : Hid (∀ W, Below w.heap.size w W → Calls Tryz.prog 13 #[.agg v] W fun en w' => ∃ v', en = .returned (.agg v') ∧ GrIs w' W.heap.size v' x ∧ Below W.heap.size W w' ∧ CpGr W.heap.size x v' w') := fun W hW => spec_copyX x W B v (GrKeeps.stays h hW) hf
  obtain ⟨X, hX⟩ : ∃ X, dsP x = X := ⟨_, rfl⟩
  have HX := hideP hX
  rw [hX]
  clear hy hX GO hf
  obtain ⟨sizes, p, q, r, blocks⟩ := x
  obtain ⟨us, cs, ub, cb, rfl, _, _, hbb⟩ := h
  simp only at *
  have hbm := hbb.1
  have HBB := hideP hbb
  have AL := hideP (below2 w (.cells #[.slice us sizes.length cs, .int .i64 p, .int .i64 q, .int .i64 r, .slice ub blocks.length cb] 29) (.cells #[.slice none 0 0, .int .i64 0, .int .i64 0, .int .i64 0, .slice none 0 0] 29))
  have TW := hideP (fun w1 => two (w := w) (w1 := w1) (o1 := .cells #[.slice us sizes.length cs, .int .i64 p, .int .i64 q, .int .i64 r, .slice ub blocks.length cb] 29) (o2 := .cells #[.slice none 0 0, .int .i64 0, .int .i64 0, .int .i64 0, .slice none 0 0] 29))
  have HZ2 : Hid (((w.alloc (.cells #[.slice us sizes.length cs, .int .i64 p, .int .i64 q, .int .i64 r, .slice ub blocks.length cb] 29)).alloc (.cells #[.slice none 0 0, .int .i64 0, .int .i64 0, .int .i64 0, .slice none 0 0] 29)).heap.size = w.heap.size + 2) := by show _ = _; simp
  clear hbb
  go_enter Tryz.func17, Tryz.ntmps17
  go_wp2_with fail
  refine (CC.out _ AL.out).mono ?_
  rintro e1 w1 ⟨v1, rfl, _, bel1, sa, kS, gq, cq, rows1, rfl, cp1⟩
  obtain ⟨P1, RR, L1, hw⟩ := TW.out w1 bel1
  rw [HZ2.out] at cp1
  simp only at cp1 ⊢
  have al2 := (Below.refl w1.heap.size w1).alloc (Nat.le_refl _) (.cells #[.slice sa sizes.length kS, .int .i64 p, .int .i64 q, .int .i64 r, .slice (some ⟨gq, 0, none⟩) blocks.length cq] 29)
  have LO : Hid (w.heap.size + 2 ≤ gq ∧ gq < w1.heap.size) := cp1.own.low gq rfl
  have I0 : Hid (SfAt w w1.heap.size #[.slice us sizes.length cs, .int .i64 p, .int .i64 q, .int .i64 r, .slice ub blocks.length cb] #[.slice none 0 0, .int .i64 0, .int .i64 0, .int .i64 0, .slice none 0 0] #[.slice sa sizes.length kS, .int .i64 p, .int .i64 q, .int .i64 r, .slice (some ⟨gq, 0, none⟩) blocks.length cq] ⟨sizes, p, q, r, blocks⟩ sa kS gq cq (w1.alloc (.cells #[.slice sa sizes.length kS, .int .i64 p, .int .i64 q, .int .i64 r, .slice (some ⟨gq, 0, none⟩) blocks.length cq] 29))) := ⟨⟨rows1, cp1.stays al2⟩, (al2.block _ (hltP P1)).trans P1, (al2.block _ (hltP RR)).trans RR, blk_newG w1 _, below_trans hw al2⟩
  clear bel1 P1 RR hw TW AL CC al2 cp1 HZ2 L1
  go_upto_region 2 with fail
  obtain ⟨Wb, hWb⟩ : ∃ Wb, w1.alloc (.cells #[.slice sa sizes.length kS, .int .i64 p, .int .i64 q, .int .i64 r, .slice (some ⟨gq, 0, none⟩) blocks.length cq] 29) = Wb := ⟨_, rfl⟩
  rw [hWb] at I0 ⊢
  clear hWb
  have c0 := (cells_of I0.out.bP).1 0
  have c1 := (cells_of I0.out.bP).1 1
  have c2 := (cells_of I0.out.bP).1 2
  have c3 := (cells_of I0.out.bP).1 3
  have c4 := (cells_of I0.out.bP).1 4
  simp at c0 c1 c2 c3 c4
  go_wp2_with fail
  refine (CY.out _ I0.out.bel).mono ?_
  rintro e2 w2 ⟨rfl, bel2⟩
  have I2 := hideP (I0.out.stays bel2)
  clear CY c0 c1 c2 c3 c4 I0 bel2
  cases y with
  | false =>
    have E : Hid (X = ⟨sizes, p, q, r, blocks⟩) := by show _ = _; rw [← HX.out]; exact dsP_no (by rw [HY.out]; simp)
    have z := I2.out.bR
    have d0 := (cells_of I2.out.bO).1 0
    have d1 := (cells_of I2.out.bO).1 1
    have d2 := (cells_of I2.out.bO).1 2
    have d3 := (cells_of I2.out.bO).1 3
    have d4 := (cells_of I2.out.bO).1 4
    have r0 := (cells_of z).1 0
    have r1 := (cells_of z).1 1
    have r2 := (cells_of z).1 2
    have r3 := (cells_of z).1 3
    have r4 := (cells_of z).1 4
    have rf := (cells_of z).2
    simp at d0 d1 d2 d3 d4 r0 r1 r2 r3 r4
    have z0 := heap_setCell_same w2 _ 0 _ _ (.slice sa sizes.length kS) z
    have z1 := heap_setCell_same _ _ 1 _ _ (.int .i64 p) z0
    have z2 := heap_setCell_same _ _ 2 _ _ (.int .i64 q) z1
    have z3 := heap_setCell_same _ _ 3 _ _ (.int .i64 r) z2
    have z4 : (((((w2.setCell ⟨w.heap.size + 1, 0, none⟩ (.slice sa sizes.length kS)).setCell ⟨w.heap.size + 1, 1, none⟩ (.int .i64 p)).setCell ⟨w.heap.size + 1, 2, none⟩ (.int .i64 q)).setCell ⟨w.heap.size + 1, 3, none⟩ (.int .i64 r)).setCell ⟨w.heap.size + 1, 4, none⟩ (.slice (some ⟨gq, 0, none⟩) blocks.length cq)).heap[w.heap.size + 1]? = some (.cells #[.slice sa sizes.length kS, .int .i64 p, .int .i64 q, .int .i64 r, .slice (some ⟨gq, 0, none⟩) blocks.length cq] 29 (0, 0)) := heap_setCell_same _ _ 4 _ _ (.slice (some ⟨gq, 0, none⟩) blocks.length cq) z3
    have ZF := hideP z4
    have BU : Hid (But (w.heap.size + 1) w2 (((((w2.setCell ⟨w.heap.size + 1, 0, none⟩ (.slice sa sizes.length kS)).setCell ⟨w.heap.size + 1, 1, none⟩ (.int .i64 p)).setCell ⟨w.heap.size + 1, 2, none⟩ (.int .i64 q)).setCell ⟨w.heap.size + 1, 3, none⟩ (.int .i64 r)).setCell ⟨w.heap.size + 1, 4, none⟩ (.slice (some ⟨gq, 0, none⟩) blocks.length cq))) := ((((((But.refl (w.heap.size + 1) w2).set 0 (.slice sa sizes.length kS)).set 1 (.int .i64 p)).set 2 (.int .i64 q)).set 3 (.int .i64 r)).set 4 (.slice (some ⟨gq, 0, none⟩) blocks.length cq))
    clear z z0 z1 z2 z3 z4
    go_wp2
    refine bodyPost_ret (results_cell_row rfl _ _ (w.heap.size + 1) 29 #[.slice sa sizes.length kS, .int .i64 p, .int .i64 q, .int .i64 r, .slice (some ⟨gq, 0, none⟩) blocks.length cq] (0, 0) _ rfl ZF.out Tryz.underlying29 rfl (by kernel_rfl)) rfl ?_
    rw [E.out]
    have hlt9 := hltP I2.out.bR
    obtain ⟨rows9, hr9⟩ := I2.out.cp
    exact ⟨_, rfl, GrKeeps.mono (GrKeeps.but (hr9.gr hbm) (by omega) BU.out) (by omega), I2.out.bel.trans (BU.out.below (by omega) (by omega))⟩
  | true =>
    have hok : Hid (grOk ⟨sizes, p, q, r, blocks⟩ = true) := HY.out
    have hbl : blocks.length ≤ 300 := by have := hok.out; simp only [grOk, Bool.and_eq_true, decide_eq_true_eq] at this; omega
    obtain ⟨V, hV⟩ : ∃ V : Nat, r = (V : Int) := by
      have := hok.out
      simp only [grOk, frOk, Bool.and_eq_true, decide_eq_true_eq] at this
      exact ⟨r.toNat, by omega⟩
    subst hV
    have E : Hid (X = ⟨sizes, p, q, (V : Int), blocks.map (dsB V)⟩) := by show _ = _; rw [← HX.out]; exact dsP_ok hok.out
    have HAS : Hid (∀ j (hj : j < blocks.length), hasB6 ⟨sizes, p, q, (V : Int), blocks⟩ (j : Int) ∧ (blocks[j]).code.length ≤ 1000 ∧ V ≤ 1000 ∧ (∀ z ∈ (blocks[j]).code, insOk (sizes.length : Nat) (V : Nat) z = true) ∧ placesP ⟨sizes, p, q, (V : Int), blocks⟩ (j : Int) = placesUp V (blocks[j]).code (blocks[j]).code.length) := fun j hj => by
      have hb6 : hasB6 ⟨sizes, p, q, (V : Int), blocks⟩ (j : Int) := ⟨hok.out, by omega, by simp only; omega⟩
      obtain ⟨i, V', e1, e2, e3, hi, e4, e5, e6⟩ := hasB6_ok hb6
      obtain rfl : i = j := by omega
      have e2' : (V : Int) = (V' : Int) := e2
      obtain rfl : V = V' := by omega
      refine ⟨hb6, e5, e3, e6, ?_⟩
      unfold placesP
      rw [if_pos hb6, e4]
      rfl
    clear HX HY
    go_wp2
    go_loopg [4] blocks.length (fun gk ix wr => ∃ j : Nat, gk + j = blocks.length ∧ ix = .int .i64 j ∧ Hid (SfAt w w1.heap.size #[.slice us sizes.length cs, .int .i64 p, .int .i64 q, .int .i64 (V : Int), .slice ub blocks.length cb] #[.slice none 0 0, .int .i64 0, .int .i64 0, .int .i64 0, .slice none 0 0] #[.slice sa sizes.length kS, .int .i64 p, .int .i64 q, .int .i64 (V : Int), .slice (some ⟨gq, 0, none⟩) blocks.length cq] ⟨sizes, p, q, (V : Int), midH (dsB V) blocks j⟩ sa kS gq cq wr))
    case atStart => exact ⟨0, by simp, rfl, I2.out⟩
    case round =>
      obtain ⟨j, hj, rfl, hI⟩ := hrel
      clear I2
      have b4 := (cells_of hI.out.bP).1 4
      simp at b4
      by_cases hlt : j < blocks.length
      · obtain ⟨bb, oo, uc, kc, rfl, hbbw, hcell, hcode⟩ := code_of HBB.out j hlt
        obtain ⟨hb6, hcl, hV1, hins, hpp⟩ := HAS.out j hlt
        obtain ⟨BK, hBK⟩ : ∃ BK, blocks[j] = BK := ⟨_, rfl⟩
        have HBK := hideP hBK
        rw [hBK] at hcell hcode hcl hins hpp
        obtain ⟨code, jump, a, t0, els⟩ := BK
        simp only at hcell hcode hcl hins hpp
        have hw := ins_all hcode
        have CO : Hid (CodeOk (sizes.length : Nat) V code) := ⟨hcl, hV1, fun z hz => ⟨hins z hz, ins_i64 hcode z hz⟩⟩
        have HWF := hideP hw
        have HC := hideP hcode
        have hpl := placesUp_len V code code.length (Nat.le_refl _)
        obtain ⟨ps, hps⟩ : ∃ ps, placesUp V code code.length = ps := ⟨_, rfl⟩
        rw [hps] at hpp hpl
        have PL : Hid (∀ W, Below wr.heap.size wr W → Calls Tryz.prog 42 #[.agg #[.slice us sizes.length cs, .int .i64 p, .int .i64 q, .int .i64 (V : Int), .slice (some ⟨bb, oo, none⟩) blocks.length cb], .int .i64 (j : Int)] W fun en w' => ∃ gp kp, en = .returned (.slice (some ⟨gp, 0, none⟩) code.length kp) ∧ OwnE PlE w' 0 (.slice (some ⟨gp, 0, none⟩) code.length kp) ps ∧ Below wr.heap.size wr w') := fun W hW => by
          refine (spec_places ⟨sizes, p, q, (V : Int), blocks⟩ (j : Int) W B _ (GrKeeps.stays HG0.out (below_trans hI.out.bel hW)) HGO.out).mono ?_
          rintro en w' ⟨v', he, ho, hb'⟩
          rw [hpp] at ho
          obtain ⟨gp, kp, hv', _⟩ := id ho
          rw [hpl] at hv'
          subst hv'
          exact ⟨gp, kp, he, ho.mono (Nat.zero_le _), below_trans hW hb'⟩
        have DC : Hid (dsCode V code = (backUp (dsF code ps) [] code code.length).2) := by show _ = _; unfold dsCode; rw [hps]
        have HWD : Hid ((dsCode V code).length ≤ maxLen ∧ ∀ z ∈ dsCode V code, z.wf ∧ z.t.size ≤ maxLen) := ⟨by have h1 := dsCode_few V code; have h2 := CO.out.1; unfold maxLen; omega, fun z hz => HWF.out z (dsCode_mem z hz)⟩
        have BL : Hid (∀ W gp kp, Below wr.heap.size wr W → OwnE PlE W 0 (.slice (some ⟨gp, 0, none⟩) code.length kp) ps → Calls Tryz.prog 41 #[.slice uc code.length kc, .slice (some ⟨gp, 0, none⟩) code.length kp] W fun en w' => ∃ gn kn, en = .returned (.slice (some ⟨gn, 0, none⟩) (dsCode V code).length kn) ∧ wr.heap.size ≤ gn ∧ SlIs InsIs 7 w' (w.heap.size + 2) (some ⟨gn, 0, none⟩) (dsCode V code) ∧ Below wr.heap.size wr w') := fun W gp kp hW ho => by
          have hb7 := block08_any code ps W B gp kp kc uc (HC.out.stays InsKeeps (below_trans hI.out.bel hW)) (by rw [hpl]; exact ho) hpl hcl
          rw [hpl, ← DC.out] at hb7
          refine hb7.mono ?_
          rintro en w' ⟨v', he, ho', hb'⟩
          obtain ⟨gn, kn, hv', _⟩ := id ho'
          subst hv'
          have hlow := (ho'.low gn rfl).1
          have hsz := hW.size
          have hwz := hltP hI.out.bR
          refine ⟨gn, kn, he, by omega, (ho'.mono (show w.heap.size + 2 ≤ W.heap.size by omega)).sl HWD.out.2 HWD.out.1, below_trans hW hb'⟩
        obtain ⟨dc, hdc⟩ : ∃ dc, dsCode V code = dc := ⟨_, rfl⟩
        obtain ⟨dn, hdn⟩ : ∃ dn, dc.length = dn := ⟨_, rfl⟩
        rw [hdc] at BL
        rw [hdn] at BL
        have SK : Hid (∀ (W' : World), KpG wr gq W' → W'.cell? ⟨w1.heap.size, 4, none⟩ = some (.slice (some ⟨gq, 0, none⟩) blocks.length cq) ∧ W'.cell? ⟨w.heap.size, 0, none⟩ = some (.slice us sizes.length cs) ∧ W'.cell? ⟨w.heap.size, 1, none⟩ = some (.int .i64 p) ∧ W'.cell? ⟨w.heap.size, 2, none⟩ = some (.int .i64 q) ∧ W'.cell? ⟨w.heap.size, 3, none⟩ = some (.int .i64 (V : Int)) ∧ W'.cell? ⟨w.heap.size, 4, none⟩ = some (.slice (some ⟨bb, oo, none⟩) blocks.length cb) ∧ W'.cell? ⟨bb, oo + j * 5, none⟩ = some (.slice uc code.length kc)) := fun W' hk => by
          have lo := LO.out
          have hP := (hk w.heap.size (hltP hI.out.bP) (by omega)).trans hI.out.bP
          have hO := (hk w1.heap.size (hltP hI.out.bO) (by omega)).trans hI.out.bO
          have hcw : wr.cell? ⟨bb, oo + j * 5, none⟩ = some (.slice uc code.length kc) := (hI.out.bel.cell (p := ⟨bb, _, none⟩) hbbw).trans hcell
          have c := (cells_of hP).1
          exact ⟨(cells_of hO).1 4, c 0, c 1, c 2, c 3, c 4, (World.cell?_of_block (a := ⟨bb, oo + j * 5, none⟩) (hk bb (Nat.lt_of_lt_of_le hbbw hI.out.bel.size) (by omega))).trans hcw⟩
        have ROW : Hid (∀ W, Below wr.heap.size wr W → ∃ u0, W.cell? ⟨gq, j * 5, none⟩ = some u0 ∧ W.frozen? ⟨gq, j * 5, none⟩ = false) := fun W hW => by
          obtain ⟨rows, hr⟩ := (hI.out.stays hW).cp
          have hjr : j < rows.length := by rw [hr.len]; simp only [midH_len]; exact hlt
          obtain ⟨g', cap', cur, hv, _, hh, _⟩ := hr.own.parts BlE_ok
          have h0 := hr.own.at BlE_ok j hjr 0 (by decide)
          injection hv with e1
          injection e1 with e1
          injection e1 with e1
          subst e1
          exact ⟨_, by simpa [BlE] using h0, (cells_of hh).2 _⟩
        have NX : Hid (∀ W gn kn, Below wr.heap.size wr W → wr.heap.size ≤ gn → SlIs InsIs 7 W (w.heap.size + 2) (some ⟨gn, 0, none⟩) dc → SfAt w w1.heap.size #[.slice us sizes.length cs, .int .i64 p, .int .i64 q, .int .i64 (V : Int), .slice (some ⟨bb, oo, none⟩) blocks.length cb] #[.slice none 0 0, .int .i64 0, .int .i64 0, .int .i64 0, .slice none 0 0] #[.slice sa sizes.length kS, .int .i64 p, .int .i64 q, .int .i64 (V : Int), .slice (some ⟨gq, 0, none⟩) blocks.length cq] ⟨sizes, p, q, (V : Int), midH (dsB V) blocks (j + 1)⟩ sa kS gq cq (W.setCell ⟨gq, j * 5, none⟩ (.slice (some ⟨gn, 0, none⟩) dn kn))) := fun W gn kn hW hgn hs => by
          have hmj : (midH (dsB V) blocks j)[j]'(by rw [midH_len]; exact hlt) = ⟨code, jump, a, t0, els⟩ := (midH_ge (dsB V) blocks j j (Nat.le_refl _) hlt).trans HBK.out
          have lo := LO.out
          have hwo := hltP hI.out.bO
          have hr := (hI.out.stays hW).put (j := j) (by simp only [midH_len]; exact hlt) hs (kn := kn) (by omega) hdn.symm lo
          simp only [hmj] at hr
          have e9 : midH (dsB V) blocks (j + 1) = (midH (dsB V) blocks j).set j ⟨dc, jump, a, t0, els⟩ := by
            show (midH (dsB V) blocks j).set j (dsB V (blocks[j]!)) = _
            rw [getElem!_pos blocks j hlt, HBK.out, ← hdc]; rfl
          rw [e9]
          exact hr
        clear hdc hdn HWD DC hb6 hcl hins hpp hw hcode hcell hps hpl hBK hI
        go_upto_region 7 with fail
        go_region_held3 (fun W' => W'.cell? ⟨w1.heap.size, 4, none⟩ = some (.slice (some ⟨gq, 0, none⟩) blocks.length cq) ∧ W'.cell? ⟨w.heap.size, 0, none⟩ = some (.slice us sizes.length cs) ∧ W'.cell? ⟨w.heap.size, 1, none⟩ = some (.int .i64 p) ∧ W'.cell? ⟨w.heap.size, 2, none⟩ = some (.int .i64 q) ∧ W'.cell? ⟨w.heap.size, 3, none⟩ = some (.int .i64 (V : Int)) ∧ W'.cell? ⟨w.heap.size, 4, none⟩ = some (.slice (some ⟨bb, oo, none⟩) blocks.length cb) ∧ W'.cell? ⟨bb, oo + j * 5, none⟩ = some (.slice uc code.length kc)) (first | with_reducible exact SK.out _ (KpG.set F6.out _ _) | with_reducible exact SK.out _ (KpG.of F6.out) | with_reducible exact SK.out _ (KpG.of F5.out) | with_reducible exact SK.out _ (KpG.drew _ _)) (first
          | (go_at_call 42; refine (PL.out _ (Below.refl _ _).drew).mono ?_; rintro e5 w5 ⟨gp, kp5, rfl, o5, b5⟩; have F5 := hideP b5; have O5 := hideP o5; clear b5 o5)
          | (go_at_call 41; refine (BL.out _ gp kp5 F5.out O5.out).mono ?_; rintro e6 w6 ⟨gn, kn, rfl, hgn, hs6, b6⟩; have F6 := hideP b6; have N6 := hideP (NX.out w6 gn kn b6 hgn hs6); obtain ⟨u0, q0, qf⟩ := ROW.out w6 b6; clear b6 hs6))
        clear SK PL BL ROW NX F5 F6 O5 q0 qf b4
        go_wp2
        go_roundg (blocks.length - (j + 1))
        case rel => exact ⟨j + 1, by omega, by go_num, N6.out⟩
        case measure => omega
      · have hjn : j = blocks.length := by omega
        subst hjn
        have MA : Hid (midH (dsB V) blocks blocks.length = blocks.map (dsB V)) := midH_all (dsB V) blocks
        rw [MA.out] at hI
        have z := hI.out.bR
        have d0 := (cells_of hI.out.bO).1 0
        have d1 := (cells_of hI.out.bO).1 1
        have d2 := (cells_of hI.out.bO).1 2
        have d3 := (cells_of hI.out.bO).1 3
        have d4 := (cells_of hI.out.bO).1 4
        have r0 := (cells_of z).1 0
        have r1 := (cells_of z).1 1
        have r2 := (cells_of z).1 2
        have r3 := (cells_of z).1 3
        have r4 := (cells_of z).1 4
        have rf := (cells_of z).2
        simp at d0 d1 d2 d3 d4 r0 r1 r2 r3 r4
        have z0 := heap_setCell_same wr _ 0 _ _ (.slice sa sizes.length kS) z
        have z1 := heap_setCell_same _ _ 1 _ _ (.int .i64 p) z0
        have z2 := heap_setCell_same _ _ 2 _ _ (.int .i64 q) z1
        have z3 := heap_setCell_same _ _ 3 _ _ (.int .i64 (V : Int)) z2
        have z4 : (((((wr.setCell ⟨w.heap.size + 1, 0, none⟩ (.slice sa sizes.length kS)).setCell ⟨w.heap.size + 1, 1, none⟩ (.int .i64 p)).setCell ⟨w.heap.size + 1, 2, none⟩ (.int .i64 q)).setCell ⟨w.heap.size + 1, 3, none⟩ (.int .i64 (V : Int))).setCell ⟨w.heap.size + 1, 4, none⟩ (.slice (some ⟨gq, 0, none⟩) blocks.length cq)).heap[w.heap.size + 1]? = some (.cells #[.slice sa sizes.length kS, .int .i64 p, .int .i64 q, .int .i64 (V : Int), .slice (some ⟨gq, 0, none⟩) blocks.length cq] 29 (0, 0)) := heap_setCell_same _ _ 4 _ _ (.slice (some ⟨gq, 0, none⟩) blocks.length cq) z3
        have ZF := hideP z4
        have BU : Hid (But (w.heap.size + 1) wr (((((wr.setCell ⟨w.heap.size + 1, 0, none⟩ (.slice sa sizes.length kS)).setCell ⟨w.heap.size + 1, 1, none⟩ (.int .i64 p)).setCell ⟨w.heap.size + 1, 2, none⟩ (.int .i64 q)).setCell ⟨w.heap.size + 1, 3, none⟩ (.int .i64 (V : Int))).setCell ⟨w.heap.size + 1, 4, none⟩ (.slice (some ⟨gq, 0, none⟩) blocks.length cq))) := ((((((But.refl (w.heap.size + 1) wr).set 0 (.slice sa sizes.length kS)).set 1 (.int .i64 p)).set 2 (.int .i64 q)).set 3 (.int .i64 (V : Int))).set 4 (.slice (some ⟨gq, 0, none⟩) blocks.length cq))
        clear z z0 z1 z2 z3 z4
        go_wp2
        refine bodyPost_ret (results_cell_row rfl _ _ (w.heap.size + 1) 29 #[.slice sa sizes.length kS, .int .i64 p, .int .i64 q, .int .i64 (V : Int), .slice (some ⟨gq, 0, none⟩) blocks.length cq] (0, 0) _ rfl ZF.out Tryz.underlying29 rfl (by kernel_rfl)) rfl ?_
        rw [E.out]
        have hlt9 := hltP hI.out.bR
        obtain ⟨rows9, hr9⟩ := hI.out.cp
        have gr9 := hr9.gr (by simp only [List.length_map]; exact hbm)
        simp only [List.length_map] at gr9
        exact ⟨_, rfl, GrKeeps.mono (GrKeeps.but gr9 (by omega) BU.out) (by omega), hI.out.bel.trans (BU.out.below (by omega) (by omega))⟩
theorem spec_deadStores (x : Gr) (w : World) (B : Nat) (v : Array Value) (h : GrIs w B v x) (GO : OkIs 14 x) (hf : Fits x) :
    Calls Tryz.prog 17 #[.agg v] w fun en w' => ∃ v', en = .returned (.agg v') ∧ GrIs w' w.heap.size v' (dsP x) ∧ Below w.heap.size w w' := spec_deadStores0 x w B v h GO hf
end Go.Proofs.YtelkpikbjfkpcaaGreat
