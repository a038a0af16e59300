/- The contracts of has and add of a set of numbers; of impl.jumpUses, onlyMakes, goAhead. -/
import Derived.Test.YtelkpikbjfkpcaaGreatSetAll
import Derived.Test.YtelkpikbjfkpcaaGreatLivAll
import Derived.Deep.LoopGhost
import Derived.Test.YtelkpikbjfkpcaaGreatNextIS
import Derived.Test.YtelkpikbjfkpcaaGreatDsIF
import Derived.Deep.RegionHeld3
import Derived.Deep.CutRange
import Derived.Conc.WalkWords
import Derived.Test.YtelkpikbjfkpcaaGreatRowC
import Derived.WalkMore
import Derived.Test.YtelkpikbjfkpcaaGreatKepAll
import Derived.Test.YtelkpikbjfkpcaaGreatFwdPQ
import Derived.Test.YtelkpikbjfkpcaaGreatCpyAll
namespace Go.Proofs.YtelkpikbjfkpcaaGreat
open Go.ChangeShapes Go.WideShapes Go.ChangeAt Go.RowKit Go.Maps
theorem newB8 (w : World) (o : Obj) : (w.alloc o).heap[w.heap.size]? = some o := by show (w.heap.push _)[w.heap.size]? = _; exact Array.getElem?_push_size
theorem lawI : Keyed Tryz.prog 3 := int_keyed Tryz.underlying3
open Classical in
noncomputable def inL (l : List Int) (s : Int) : Bool := decide (s ∈ l)
theorem inL_iff {l : List Int} {s : Int} : inL l s = true ↔ s ∈ l := by unfold inL; exact decide_eq_true_iff
theorem SetIs.int {w : World} {b n : Nat} {l : List Int} (h : SetIs InK w b n l) {s : Int} (hs : I64 s) : ∃ (D : DataW Unit) (kl : Lit), w.ownsMap Tryz.prog 3 unitElem b n D ∧ keyOf Tryz.prog 3 (.int .i64 s) = some kl ∧ Maps.has D kl = inL l s ∧ (∀ W, W.ownsMap Tryz.prog 3 unitElem b (n + 1) (D.put kl (.agg [])) → SetIs InK W b (n + 1) (l ++ [s])) ∧ ∀ W, W.ownsMap Tryz.prog 3 unitElem b n (D.del kl) → SetIs InK W b n (l.filter (fun q => decide (q ≠ s))) := by
  obtain ⟨ok, pk, F, D, hown, hrd⟩ := h
  refine ⟨D, pk s, hown, F.key hs, Bool.eq_iff_iff.2 ((readsS_has F hrd ok hs).trans inL_iff.symm), fun W hW => ⟨fun q hq => ?_, pk, F, _, hW, readsS_put F hown.isMap hrd hs _⟩, fun W hW => ⟨fun q hq => ok q (List.mem_filter.1 hq).1, pk, F, _, hW, readsS_del F hrd ok hs (fun q => by simp [List.mem_filter])⟩⟩
  rcases List.mem_append.1 hq with hq | hq
  · exact ok q hq
  · rw [List.mem_singleton.1 hq]; exact hs
set_option maxRecDepth 100000 in
set_option maxHeartbeats 4000000 in
theorem hasI_any (l : List Int) (s : Int) (w : World) (b n : Nat) (h : SetIs InK w b n l) (hs : I64 s) :
    Calls Tryz.prog 96 #[.map (some b), .int .i64 s] w fun e w' => e = .returned (.bool (inL l s)) ∧ Below w.heap.size w w' := by
  obtain ⟨D, kl, hown, hkey, hm, _⟩ := h.int hs
  have HM := hideP hm
  obtain ⟨m, hmm⟩ : ∃ m, inL l s = m := ⟨_, rfl⟩
  rw [hmm] at HM ⊢
  have AL2 : Hid (Below w.heap.size w (w.alloc (.cells #[] 116))) := (Below.refl w.heap.size w).alloc (Nat.le_refl _) _
  clear hm hmm h
  go_enter Tryz.func96, Tryz.ntmps96
  go_wp2_with (at_lookup; refine wpList_lookup_own_unit _ rfl _ _ 72 rfl 3 116 lawI Tryz.underlying72 (zeroU _) b n D rfl hown _ _ rfl hkey ?_; rw [HM.out])
  go_ret
  exact ⟨rfl, AL2.out⟩
set_option maxRecDepth 100000 in
set_option maxHeartbeats 4000000 in
theorem addI_any (l us : List Int) (w : World) (b n B : Nat) (v : Value) (h : SetIs InK w b n l) (hv : OwnI w B v us) (hus : ∀ s ∈ us, I64 s) (hn : n ≤ 100000000) (hl : us.length ≤ 1000) :
    Calls Tryz.prog 53 #[.map (some b), v] w fun e w' => e = .returned (.tuple #[]) ∧ SetIs InK w' b (n + us.length) (l ++ us) ∧ But b w w' := by
  obtain ⟨g, cap, rfl, _⟩ := id hv
  have HV := hideP hv
  have hgb : g ≠ b := fun e => by
    obtain ⟨_, _, cur, hv2, _, hh, _⟩ := hv.parts
    obtain ⟨_, _, _, _, ⟨es, clock, h1, _⟩, _⟩ := h
    injection hv2 with e1
    injection e1 with e1
    injection e1 with e1
    subst e1
    rw [e, h1] at hh
    cases hh
  have HS := hideP h
  have HU := hideP hus
  have hu : unitElem (H := Unit) (.agg #[]) = some (.agg [], []) := unitElem_mk
  obtain ⟨N, hN⟩ : ∃ N, us.length = N := ⟨_, rfl⟩
  have HN := hideP hN
  rw [hN] at hl ⊢
  clear h hv hus hN
  go_enter Tryz.func53, Tryz.ntmps53
  go_wp2
  go_loopg [8] N (fun gk ix wr => ∃ k : Nat, gk + k = N ∧ ix = .int .i64 k ∧ Hid (SetIs InK wr b (n + k) (l ++ us.take k)) ∧ Hid (But b w wr))
  case atStart => exact ⟨0, by simp, rfl, by show SetIs _ _ _ _ _; simp; exact HS.out, But.refl _ _⟩
  case round =>
    obtain ⟨k, hk, rfl, hS, hB⟩ := hrel
    by_cases hlt : k < N
    · have hkl : k < us.length := by rw [HN.out]; exact hlt
      obtain ⟨s, hs⟩ : ∃ s, us[k] = s := ⟨_, rfl⟩
      have x0 := ints_at (HV.out.butG hB.out (by simp [Value.ownBlock]; omega)) k hkl
      rw [hs] at x0
      obtain ⟨D, kl, hown, hkey, _, hput, _⟩ := hS.out.int (HU.out s (by rw [← hs]; exact List.getElem_mem hkl))
      have TK : Hid (us.take (k + 1) = us.take k ++ [s]) := by show _ = _; rw [List.take_succ_eq_append_getElem hkl, hs]
      have PUT := hideP hput
      clear hs hput hS
      go_wp2_with (at_mapUpdate; refine wpList_mapUpdate_in _ rfl _ _ _ 72 rfl 3 116 lawI Tryz.underlying72 _ b (n + k) _ rfl hown (by unfold maxLen; omega) _ _ _ rfl rfl hkey _ [] hu ?_; intro w5 hown5 hturn5)
      have S5 : Hid (SetIs InK w5 b (n + (k + 1)) (l ++ us.take (k + 1))) := by
        have := PUT.out _ hown5
        rw [TK.out, ← List.append_assoc, ← Nat.add_assoc]
        exact this
      have B5 := hideP (hB.out.twice (But.ofG hturn5.grown))
      clear hown5 hturn5 hown PUT TK hB x0
      go_wp2
      go_roundg (N - (k + 1))
      case rel => exact ⟨k + 1, by omega, by go_num, S5.out, B5.out⟩
      case measure => omega
    · have hkn : k = N := by omega
      subst hkn
      have E : Hid (SetIs InK wr b (n + k) (l ++ us)) := by
        have := hS.out
        rw [show us.take k = us by rw [← HN.out]; exact List.take_length] at this
        exact this
      go_wp2
      go_end0
      exact ⟨rfl, E.out, hB.out⟩
theorem jumpUses_any (code : List Ins) (jump a t0 els : Int) (w : World) (vc : Value) :
    Calls Tryz.prog 54 #[.agg #[vc, .int .i64 jump, .int .i64 a, .int .i64 t0, .int .i64 els]] w fun e w' => ∃ v, e = .returned v ∧ OwnI w' w.heap.size v (jumpP ⟨code, jump, a, t0, els⟩) ∧ Below w.heap.size w w' := by
  have L1 := hideP (lit2 w (.cells #[vc, .int .i64 jump, .int .i64 a, .int .i64 t0, .int .i64 els] 51) [a] #[.int .i64 a] (w.heap.size + 1) 1 rfl rfl rfl (by simp))
  have L0 := hideP (lit2 w (.cells #[vc, .int .i64 jump, .int .i64 a, .int .i64 t0, .int .i64 els] 51) [] #[] (w.heap.size + 1) 0 rfl rfl rfl (by simp))
  have B1 := hideP (fun o => below2 w (.cells #[vc, .int .i64 jump, .int .i64 a, .int .i64 t0, .int .i64 els] 51) o)
  have E1 : Hid ((jump = 1 ∨ jump = 2) → jumpP ⟨code, jump, a, t0, els⟩ = [a]) := fun h => if_pos h
  have E0 : Hid (¬ (jump = 1 ∨ jump = 2) → jumpP ⟨code, jump, a, t0, els⟩ = []) := fun h => if_neg h
  obtain ⟨J, hJ⟩ : ∃ J, jumpP ⟨code, jump, a, t0, els⟩ = J := ⟨_, rfl⟩
  rw [hJ] at E1 E0 ⊢
  clear hJ
  go_enter Tryz.func54, Tryz.ntmps54
  by_cases h1 : jump = 1
  · have E := E1.out (Or.inl h1)
    subst E h1
    go_wp2
    go_ret
    exact ⟨_, rfl, L1.out.mono (Nat.le_succ _), B1.out _⟩
  · have h1b : (jump == 1) = false := by simpa using h1
    by_cases h2 : jump = 2
    · have E := E1.out (Or.inr h2)
      subst E h2
      go_wp2
      go_ret
      exact ⟨_, rfl, L1.out.mono (Nat.le_succ _), B1.out _⟩
    · have h2b : (jump == 2) = false := by simpa using h2
      have E := E0.out (by omega)
      subst E
      go_wp2
      go_ret
      exact ⟨_, rfl, L0.out.mono (Nat.le_succ _), B1.out _⟩
theorem onlyMakes_any (x : Ins) (w : World) :
    Calls Tryz.prog 95 #[.agg (insV x)] w fun e w' => e = .returned (.bool (decide (x.op = 0 ∨ x.op = 1 ∨ x.op = 2))) ∧ Below w.heap.size w w' := by
  obtain ⟨op, d, a, b, c, n, t⟩ := x
  simp only [insV]
  have AL := hideP (fun o => (Below.refl w.heap.size w).alloc (Nat.le_refl _) o)
  go_enter Tryz.func95, Tryz.ntmps95
  by_cases h0 : op = 0
  · subst h0
    go_wp2
    go_ret
    exact ⟨by simp, AL.out _⟩
  · have h0b : (op == 0) = false := by simpa using h0
    by_cases h1 : op = 1
    · subst h1
      go_wp2
      go_ret
      exact ⟨by simp, AL.out _⟩
    · have h1b : (op == 1) = false := by simpa using h1
      by_cases h2 : op = 2
      · subst h2
        go_wp2
        go_ret
        exact ⟨by simp, AL.out _⟩
      · have h2b : (op == 2) = false := by simpa using h2
        go_wp2
        go_ret
        exact ⟨by simp [h0, h1, h2], AL.out _⟩
def aheadI (x : Ins) (l : List Int) : List Int := l.filter (fun q => decide (q ≠ makesP x)) ++ usesP x
theorem mem_aheadI {x : Ins} {l : List Int} (s : Int) : s ∈ aheadI x l ↔ aheadQ x (fun q => q ∈ l) s := by
  unfold aheadI aheadQ
  rw [List.mem_append, List.mem_filter]
  simp only [decide_eq_true_eq]
  exact or_comm
theorem uses_len3 (x : Ins) : (usesP x).length ≤ 3 := by
  unfold usesP cellP
  repeat' split
  all_goals simp
set_option maxRecDepth 100000 in
set_option maxHeartbeats 4000000 in
theorem goAhead_any (x : Ins) (l : List Int) (w : World) (b n : Nat) (h : SetIs InK w b n l) (hu : ∀ s ∈ usesP x, I64 s) (hm : I64 (makesP x)) (hw : x.wf ∧ x.t.size ≤ maxLen) (hn : n ≤ 10000000) :
    Calls Tryz.prog 97 #[.map (some b), .agg (insV x)] w fun e w' => e = .returned (.tuple #[]) ∧ SetIs InK w' b (n + 3) (aheadI x l) ∧ But b w w' := by
  have MK : Hid (∀ W, Calls Tryz.prog 106 #[.agg (insV x)] W fun e w' => e = .returned (.int .i64 (makesP x)) ∧ Below W.heap.size W w') := fun W => impl_makes x W 0 (insV x) ⟨rfl, hw⟩
  have US : Hid (∀ W, Calls Tryz.prog 132 #[.agg (insV x)] W fun en w' => ∃ v', en = .returned v' ∧ OwnI w' W.heap.size v' (usesP x) ∧ Below W.heap.size W w') := fun W => impl_uses x W 0 (insV x) ⟨rfl, hw⟩
  have AD : Hid (∀ W l' B v, SetIs InK W b n l' → OwnI W B v (usesP x) → Calls Tryz.prog 53 #[.map (some b), v] W fun e w' => e = .returned (.tuple #[]) ∧ SetIs InK w' b (n + (usesP x).length) (l' ++ usesP x) ∧ But b W w') := fun W l' B v h1 h2 => addI_any l' (usesP x) W b n B v h1 h2 hu (by omega) (by have := uses_len3 x; omega)
  have U3 := hideP (uses_len3 x)
  have AE : Hid (aheadI x l = l.filter (fun q => decide (q ≠ makesP x)) ++ usesP x) := rfl
  obtain ⟨MM, hMM⟩ : ∃ MM, makesP x = MM := ⟨_, rfl⟩
  obtain ⟨UU, hUU⟩ : ∃ UU, usesP x = UU := ⟨_, rfl⟩
  obtain ⟨AA, hAA⟩ : ∃ AA, aheadI x l = AA := ⟨_, rfl⟩
  rw [hMM] at MK AE hm
  rw [hUU] at US AD AE U3
  rw [hAA] at AE ⊢
  clear hMM hUU hAA hu
  obtain ⟨op, d, a, b0, c0, nn, t⟩ := x
  simp only [insV] at *
  have hbw := h.lt
  have al := (Below.refl w.heap.size w).alloc (Nat.le_refl _) (.cells #[.int .i64 op, .int .i64 d, .int .i64 a, .int .i64 b0, .int .i64 c0, .int .i64 nn, .string t] 56)
  have S1 : Hid ((w.alloc (.cells #[.int .i64 op, .int .i64 d, .int .i64 a, .int .i64 b0, .int .i64 c0, .int .i64 nn, .string t] 56)).heap[w.heap.size]? = some (.cells #[.int .i64 op, .int .i64 d, .int .i64 a, .int .i64 b0, .int .i64 c0, .int .i64 nn, .string t] 56 (0, 0)) ∧ SetIs InK (w.alloc (.cells #[.int .i64 op, .int .i64 d, .int .i64 a, .int .i64 b0, .int .i64 c0, .int .i64 nn, .string t] 56)) b n l ∧ But b w (w.alloc (.cells #[.int .i64 op, .int .i64 d, .int .i64 a, .int .i64 b0, .int .i64 c0, .int .i64 nn, .string t] 56))) := ⟨newB8 w _, h.stays al, But.ofBelowP al⟩
  clear al h
  go_enter Tryz.func97, Tryz.ntmps97
  go_wp2_with fail
  refine (MK.out _).mono ?_
  rintro e2 w2 ⟨rfl, b2⟩
  have S2 : Hid (w2.heap[w.heap.size]? = some (.cells #[.int .i64 op, .int .i64 d, .int .i64 a, .int .i64 b0, .int .i64 c0, .int .i64 nn, .string t] 56 (0, 0)) ∧ SetIs InK w2 b n l ∧ But b w w2) := ⟨(b2.block _ (hltP S1.out.1)).trans S1.out.1, S1.out.2.1.stays b2, S1.out.2.2.on b2⟩
  clear S1 b2 MK
  obtain ⟨D, kl, hown, hkey, _, _, hdel⟩ := S2.out.2.1.int hm
  have DEL := hideP hdel
  clear hdel
  go_upto_region 2 with (at_delete; refine wpList_delete_own _ rfl _ _ 72 3 rfl 116 lawI Tryz.underlying72 _ b n D rfl hown _ _ rfl hkey ?_; intro w3 hown3 hturn3)
  have S3 : Hid (w3.heap[w.heap.size]? = some (.cells #[.int .i64 op, .int .i64 d, .int .i64 a, .int .i64 b0, .int .i64 c0, .int .i64 nn, .string t] 56 (0, 0)) ∧ SetIs InK w3 b n (l.filter (fun q => decide (q ≠ MM))) ∧ But b w w3) := by
    have hb := But.ofG hturn3.grown
    exact ⟨hb.keepB S2.out.1 (by omega), DEL.out _ hown3, S2.out.2.2.twice hb⟩
  clear S2 DEL hown hown3 hturn3
  have z := (cells_of S3.out.1).1
  have z0 := z 0
  have z1 := z 1
  have z2 := z 2
  have z3 := z 3
  have z4 := z 4
  have z5 := z 5
  have z6 := z 6
  simp at z0 z1 z2 z3 z4 z5 z6
  clear z
  go_wp2_with fail
  refine (US.out _).mono ?_
  rintro e4 w4 ⟨v4, rfl, o4, b4⟩
  have C5 := hideP (AD.out w4 _ _ v4 (S3.out.2.1.stays b4) o4)
  have B4 := hideP (S3.out.2.2.on b4)
  clear o4 b4 US AD S3 z0 z1 z2 z3 z4 z5 z6
  go_wp2_with fail
  refine C5.out.mono ?_
  rintro e5 w5 ⟨rfl, s5, b5⟩
  have S5 : Hid (SetIs InK w5 b (n + 3) AA ∧ But b w w5) := ⟨by rw [AE.out]; exact s5.up (by have := U3.out; omega), B4.out.twice b5⟩
  clear s5 b5 C5 B4
  go_wp2
  go_end0
  exact ⟨rfl, S5.out⟩
end Go.Proofs.YtelkpikbjfkpcaaGreat

/- The contract of impl.usedFirst. -/
namespace Go.Proofs.YtelkpikbjfkpcaaGreat
open Go.ChangeShapes Go.WideShapes Go.ChangeAt Go.RowKit Go.Maps
def SetMade (w : World) (N : Nat) (P : Int → Prop) (e : Ending) (w' : World) : Prop := ∃ m n l, e = .returned (.map (some m)) ∧ w.heap.size ≤ m ∧ SetIs InK w' m n l ∧ n ≤ N ∧ (∀ s, s ∈ l ↔ P s) ∧ Below w.heap.size w w'
theorem ahead_mem {x : Ins} {l : List Int} {P : Int → Prop} (h : ∀ s, s ∈ l ↔ P s) (s : Int) : s ∈ aheadI x l ↔ aheadQ x P s := by
  rw [mem_aheadI]
  simp only [aheadQ, h s]
theorem slot_i64 {V : Nat} (hV : V ≤ 1000) {s : Int} (h : 0 ≤ s ∧ s < V) : I64 s := by unfold I64; omega
theorem made_i64 {V : Nat} (hV : V ≤ 1000) {x : Ins} (h : makesP x = -1 ∧ (x.op = 4 ∨ x.op = 6) ∨ 0 ≤ makesP x ∧ makesP x < V ∧ makesP x = x.d ∧ ¬ (x.op = 4 ∨ x.op = 6)) : I64 (makesP x) := by unfold I64; omega
set_option maxRecDepth 100000 in
set_option maxHeartbeats 4000000 in
theorem usedFirst_any (code : List Ins) (jump a t0 els : Int) (w : World) (V kc B : Nat) (uc : Option Addr) (hc : SlIs InsIs 7 w B uc code) (hl : code.length ≤ 1000) (hx : ∀ x ∈ code, (∀ s ∈ usesP x, 0 ≤ s ∧ s < V) ∧ (makesP x = -1 ∧ (x.op = 4 ∨ x.op = 6) ∨ 0 ≤ makesP x ∧ makesP x < V ∧ makesP x = x.d ∧ ¬ (x.op = 4 ∨ x.op = 6)))
    (hs : ∀ s ∈ jumpP ⟨code, jump, a, t0, els⟩, 0 ≤ s ∧ s < V) (hV : V ≤ 1000) :
    Calls Tryz.prog 91 #[.agg #[.slice uc code.length kc, .int .i64 jump, .int .i64 a, .int .i64 t0, .int .i64 els]] w fun e w' => SetMade w 3001 (usedQ ⟨code, jump, a, t0, els⟩) e w' := by
  have HC := hideP hc
  have HX := hideP hx
  have FI : Hid (usedQ ⟨code, jump, a, t0, els⟩ = code.foldr aheadQ (fun s => s ∈ jumpP ⟨code, jump, a, t0, els⟩)) := by
    show _ = _
    unfold usedQ inQ behindQ
    simp
  have JU := hideP (fun W => jumpUses_any code jump a t0 els W (.slice uc code.length kc))
  obtain ⟨R, hR⟩ : ∃ R, usedQ ⟨code, jump, a, t0, els⟩ = R := ⟨_, rfl⟩
  obtain ⟨J, hJ⟩ : ∃ J, jumpP ⟨code, jump, a, t0, els⟩ = J := ⟨_, rfl⟩
  have hJl : J.length ≤ 1 := by rw [← hJ]; unfold jumpP; split <;> simp
  rw [hR] at FI ⊢
  rw [hJ] at FI JU hs
  have HS := hideP hs
  have two2 := two (w := w) (o1 := .cells #[.slice uc code.length kc, .int .i64 jump, .int .i64 a, .int .i64 t0, .int .i64 els] 51) (o2 := .map #[] 0) (Below.refl _ _)
  have al := below2 w (.cells #[.slice uc code.length kc, .int .i64 jump, .int .i64 a, .int .i64 t0, .int .i64 els] 51) (.map #[] 0)
  obtain ⟨W2, hW2⟩ : ∃ W2, (w.alloc (.cells #[.slice uc code.length kc, .int .i64 jump, .int .i64 a, .int .i64 t0, .int .i64 els] 51)).alloc (.map #[] 0) = W2 := ⟨_, rfl⟩
  rw [hW2] at two2 al
  have S2 : Hid (W2.heap[w.heap.size]? = some (.cells #[.slice uc code.length kc, .int .i64 jump, .int .i64 a, .int .i64 t0, .int .i64 els] 51 (0, 0)) ∧ SetIs InK W2 (w.heap.size + 1) 0 [] ∧ Below w.heap.size w W2) := by
    refine ⟨two2.1, ?_, al⟩
    obtain ⟨pk, F⟩ := InK_ok.fn
    exact ⟨by simp, pk, F, _, ⟨#[], 0, two2.2.1, ⟨by simp, MapKept.stamped_empty 0, by simp⟩, Nat.le_refl _, rfl⟩, readsS_nil⟩
  have HW := hideP hW2
  have hmm := @run_makeMap Tryz.prog
  have AD : Hid (∀ W B v, SetIs InK W (w.heap.size + 1) 0 [] → OwnI W B v J → Calls Tryz.prog 53 #[.map (some (w.heap.size + 1)), v] W fun e w' => e = .returned (.tuple #[]) ∧ SetIs InK w' (w.heap.size + 1) (0 + J.length) ([] ++ J) ∧ But (w.heap.size + 1) W w') := fun W B v h1 h2 => addI_any [] J W _ 0 B v h1 h2 (fun s hs' => slot_i64 hV (HS.out s hs')) (by omega) (by omega)
  obtain ⟨N, hN⟩ : ∃ N, code.length = N := ⟨_, rfl⟩
  have HN := hideP hN
  rw [hN] at JU S2 HW hl ⊢
  clear hR hJ hc hx hs hN two2 al hW2
  go_enter Tryz.func91, Tryz.ntmps91
  go_upto_region 2 with fail
  rw [HW.out]
  clear HW hmm
  have z := (cells_of S2.out.1).1
  have z0 := z 0
  have z1 := z 1
  have z2 := z 2
  have z3 := z 3
  have z4 := z 4
  simp at z0 z1 z2 z3 z4
  clear z
  go_wp2_with fail
  refine (JU.out _).mono ?_
  rintro e3 w3 ⟨v3, rfl, o3, b3⟩
  have C4 := hideP (AD.out w3 _ v3 (S2.out.2.1.stays b3) o3)
  have S3 : Hid (w3.heap[w.heap.size]? = some (.cells #[.slice uc N kc, .int .i64 jump, .int .i64 a, .int .i64 t0, .int .i64 els] 51 (0, 0)) ∧ Below w.heap.size w w3) := ⟨(b3.block _ (hltP S2.out.1)).trans S2.out.1, below_trans S2.out.2.2 b3⟩
  clear z0 z1 z2 z3 z4 o3 b3 AD JU S2
  go_wp2_with fail
  refine C4.out.mono ?_
  rintro e4 w4 ⟨rfl, s4, b4⟩
  have S4 : Hid (w4.heap[w.heap.size]? = some (.cells #[.slice uc N kc, .int .i64 jump, .int .i64 a, .int .i64 t0, .int .i64 els] 51 (0, 0)) ∧ SetIs InK w4 (w.heap.size + 1) 1 J ∧ Below w.heap.size w w4) := ⟨b4.keepB S3.out.1 (by omega), by simpa using s4.up (by omega), S3.out.2.trans (b4.below (by omega) S3.out.2.size)⟩
  clear s4 b4 C4 S3
  have z0 := (cells_of S4.out.1).1 0
  simp at z0
  go_wp2
  clear z0
  go_loopg [4] N (fun gk i wr => ∃ (k : Nat) (l : List Int), gk + k = N ∧ i = .int .i64 ((N : Int) - 1 - k) ∧ Hid (SetIs InK wr (w.heap.size + 1) (1 + 3 * k) l) ∧ Hid (∀ s, s ∈ l ↔ (code.drop (code.length - k)).foldr aheadQ (fun s => s ∈ J) s) ∧ Hid (But (w.heap.size + 1) w4 wr))
  case atStart => exact ⟨0, J, by simp, by simp, S4.out.2.1, fun s => by simp, But.refl _ _⟩
  case round =>
    obtain ⟨k, l, hk, rfl, hS, hM, hB⟩ := hrel
    have BX2 := hideP (hB.out.keepB S4.out.1 (by omega))
    by_cases hlt : k < N
    · obtain ⟨i, hi⟩ : ∃ i : Nat, (N : Int) - 1 - k = i := ⟨N - 1 - k, by omega⟩
      rw [hi]
      have HI : Hid ((N : Int) - 1 - k = i) := hi
      have hin : i < N := by omega
      have hic : i < code.length := by rw [HN.out]; exact hin
      have hx := HX.out _ (List.getElem_mem hic)
      have DR : Hid ((code.drop (code.length - (k + 1))).foldr aheadQ (fun s => s ∈ J) = aheadQ code[i] ((code.drop (code.length - k)).foldr aheadQ (fun s => s ∈ J))) := drop_fold hic (by rw [HN.out]; omega)
      obtain ⟨PK, hPK⟩ : ∃ PK, (code.drop (code.length - k)).foldr aheadQ (fun s => s ∈ J) = PK := ⟨_, rfl⟩
      rw [hPK] at DR hM
      have hcw := HC.out.stays InsKeeps (S4.out.2.2.trans (hB.out.below (by omega) S4.out.2.2.size))
      obtain ⟨bb, oo, op, d, a2, b0, c0, nn, t, hu, _, hbl, he, q0, q1, q2, q3, q4, q5, q6, hins⟩ := Ins_get hcw i hic
      subst hu
      rw [he] at DR hx
      have AH := hideP (goAhead_any ⟨op, d, a2, b0, c0, nn, t⟩ l wr (w.heap.size + 1) (1 + 3 * k) hS.out (fun s hs => slot_i64 hV (hx.1 s hs)) (made_i64 hV hx.2) hins.2 (by omega))
      simp only [insV] at AH
      have z := (cells_of BX2.out).1 0
      simp at z
      clear hi hx hPK hcw he hins hS HX
      go_wp2_with fail
      refine AH.out.mono ?_
      rintro e5 w5 ⟨rfl, s5, b5⟩
      have S5 : Hid (SetIs InK w5 (w.heap.size + 1) (1 + 3 * (k + 1)) (aheadI ⟨op, d, a2, b0, c0, nn, t⟩ l) ∧ (∀ s, s ∈ aheadI ⟨op, d, a2, b0, c0, nn, t⟩ l ↔ (code.drop (code.length - (k + 1))).foldr aheadQ (fun s => s ∈ J) s) ∧ But (w.heap.size + 1) w4 w5) := by rw [DR.out]; exact ⟨s5.up (by omega), ahead_mem hM.out, hB.out.twice b5⟩
      clear s5 b5 AH DR q0 q1 q2 q3 q4 q5 q6 z BX2 hB hM
      go_wp2
      go_roundg (N - (k + 1))
      case rel => exact ⟨k + 1, _, by omega, by have := HI.out; go_num, S5.out.1, S5.out.2.1, S5.out.2.2⟩
      case measure => omega
    · have hkn : k = N := by omega
      subst hkn
      have E : Hid ((∀ s, s ∈ l ↔ R s) ∧ Below w.heap.size w wr) := by
        rw [HN.out, Nat.sub_self, List.drop_zero, ← FI.out] at hM
        exact ⟨hM.out, S4.out.2.2.trans (hB.out.below (by omega) S4.out.2.2.size)⟩
      clear BX2 hM
      go_wp2
      go_ret
      exact ⟨w.heap.size + 1, _, l, rfl, Nat.le_succ _, hS.out, by omega, E.out⟩
end Go.Proofs.YtelkpikbjfkpcaaGreat

/- The rows of a flow: lists of numbers, and sets. -/
namespace Go.Proofs.YtelkpikbjfkpcaaGreat
open Go.ChangeShapes Go.WideShapes Go.ChangeAt Go.RowKit Go.Maps
/-- A list of numbers that a call owns, or nil. -/
def NumN (w : World) (lo : Nat) (v : Value) (l : List Int) : Prop := (v = .slice none 0 0 ∧ l = []) ∨ OwnI w lo v l
theorem NumN.keep {w w' : World} {lo : Nat} {v : Value} {l : List Int} (h : NumN w lo v l) (hk : ∀ g, v.ownBlock = some g → g < w.heap.size → w'.heap[g]? = w.heap[g]?) : NumN w' lo v l := by
  rcases h with h | h
  · exact Or.inl h
  · right
    obtain ⟨g, cap, cur, rfl, hB, hh, hc, hm, hs, hx⟩ := h.parts
    exact OwnI.of_parts hB ((hk g rfl (hltP hh)).trans hh) hc hm hs hx
theorem NumN.low {w : World} {lo : Nat} {v : Value} {l : List Int} (h : NumN w lo v l) : ∀ b, v.ownBlock = some b → lo ≤ b ∧ b < w.heap.size ∧ ∃ cur, w.heap[b]? = some (.cells cur 3 (0, 0)) := fun b hb => by
  rcases h with ⟨rfl, _⟩ | h
  · cases hb
  · obtain ⟨g, cap, cur, rfl, hB, hh, _⟩ := h.parts
    have : g = b := by simpa [Value.ownBlock] using hb
    subst this
    exact ⟨hB, hltP hh, cur, hh⟩
theorem run_appN {w : World} {lo : Nat} {v : Value} {l : List Int} {x : Int} {b o cap2 : Nat} (ty : TypeId) (h1 : NumN w lo v l) (h2 : w.cell? ⟨b, o, none⟩ = some (.int .i64 x)) (hn : l.length + 1 ≤ 8000000) (hB : lo ≤ w.heap.size) :
    ∃ v' w', (Builtin.append_ #[22, 22] ty #[v, .slice (some ⟨b, o, none⟩) 1 cap2]).run Tryz.prog w = .ok v' w' ∧ OwnI w' lo v' (l ++ [x]) ∧ w.grownBy w' v.ownBlock ∧ (v'.ownBlock = v.ownBlock ∨ v'.ownBlock = some w.heap.size) := by
  rcases h1 with ⟨rfl, rfl⟩ | h1
  · obtain ⟨i0, hi, hz0, hz1, hz2⟩ := info_parts infoInt
    obtain ⟨v', w', hr, ho, hg, hnil, hloc⟩ := run_append_own_at (P := Tryz.prog) w lo 22 ty 3 i0 (.int .i64 0) 1 8 Tryz.underlying22 hi hz0 hz1 hz2 rfl (by omega) (.slice none 0 0) 0 [] (World.ownsRow_nil _ _ _ _) ⟨b, o, none⟩ 1 cap2 [.int .i64 x] rfl (fun j u hj => by
      have hj0 : j = 0 := by have := (List.getElem?_eq_some_iff.1 hj).1; simpa using this
      subst hj0
      simp at hj
      rw [addr_add', Nat.add_zero, h2, hj]) (fun u hu => by simp at hu; rw [hu]; rfl) (by unfold maxLen; omega) (by omega) hB
    refine ⟨v', w', hr, ?_, hg, hloc⟩
    obtain ⟨_, ⟨h0, _⟩ | ⟨g', cap', _, hv', _⟩⟩ := id ho
    · have := (hnil.1 h0).2; omega
    · exact ⟨g', cap', hv', by simpa using ho⟩
  · exact run_appI (l2 := [x]) ty h1 (fun j hj => by
      have hj0 : j = 0 := by simpa using hj
      subst hj0
      simpa using h2) (by simpa using hn) hB
theorem step_appN {ops : Array Oper} {o : Oper} {a : Act} {Q : Exit → Act → World → Prop} {K : Act → World → Prop} {F : Prop} (w : World) (hgd : o.guard = none) (s y : Operand) (ho : o.op = .call { callee := .builtin .append, args := #[s, y], argTypes := #[22, 22] })
    (lo : Nat) (v : Value) (l : List Int) (x : Int) (b o2 cap2 : Nat) (hs : a.eval s = v) (hx : a.eval y = .slice (some ⟨b, o2, none⟩) 1 cap2) (h1 : NumN w lo v l) (h2 : w.cell? ⟨b, o2, none⟩ = some (.int .i64 x)) (hn : l.length + 1 ≤ 8000000) (hB : lo ≤ w.heap.size)
    (h : ∀ v' w', OwnI w' lo v' (l ++ [x]) → w.grownBy w' v.ownBlock → (v'.ownBlock = v.ownBlock ∨ v'.ownBlock = some w.heap.size) → K (a.put o.dst v') w') :
    if Region.wanted o (yielded ops a.tmps) = true then Oper.wp Tryz.prog o a w K Q else F := by
  have hw : Region.wanted o (yielded ops a.tmps) = true := by simp [Region.wanted, hgd]
  rw [if_pos hw]
  obtain ⟨v', w', hr, r1, r2, r3⟩ := run_appN (cap2 := cap2) o.type h1 h2 hn hB
  unfold Oper.wp execOp
  simp only [ho, resolve, invoke, builtin, Sem.run_bind, Sem.run_pure, Result.andThen_ok, List.map_toArray, List.map_cons, List.map_nil, hs, hx, hr]
  exact h v' w' r1 r2 r3
/-- Row ga: for each block a list of numbers, each in a block of its own. -/
structure AhAt (lo n ga : Nat) (av : Nat → Value) (pre : Nat → List Int) (W : World) : Prop where
  row : ∃ cur, W.heap[ga]? = some (.cells cur 22 (0, 0)) ∧ cur.size = n ∧ ∀ t, t < n → cur[t]? = some (av t)
  own : ∀ t, t < n → NumN W lo (av t) (pre t)
  dis : ∀ t u, t < n → u < n → t ≠ u → ∀ g, (av t).ownBlock = some g → (av u).ownBlock ≠ some g
section
variable {lo n ga : Nat} {av : Nat → Value} {pre : Nat → List Int} {W W' : World}
theorem AhAt.keep (h : AhAt lo n ga av pre W) (hk : ∀ (g : Nat) c T, W.heap[g]? = some (.cells c T (0, 0)) → (T = 3 ∨ T = 22) → W'.heap[g]? = W.heap[g]?) : AhAt lo n ga av pre W' := by
  obtain ⟨cur, h1, h2⟩ := h.row
  refine ⟨⟨cur, (hk ga _ _ h1 (Or.inr rfl)).trans h1, h2⟩, fun t ht => (h.own t ht).keep (fun g hg _ => ?_), h.dis⟩
  obtain ⟨_, _, c, hc⟩ := (h.own t ht).low g hg
  exact hk g _ _ hc (Or.inl rfl)
theorem AhAt.stays (h : AhAt lo n ga av pre W) (b : Below W.heap.size W W') : AhAt lo n ga av pre W' := h.keep (fun g _ _ hg _ => b.block g (hltP hg))
theorem AhAt.other (h : AhAt lo n ga av pre W) {b : Nat} (hb : But b W W') (hne : ∀ c T, W.heap[b]? = some (.cells c T (0, 0)) → ¬ (T = 3 ∨ T = 22)) : AhAt lo n ga av pre W' := h.keep (fun g c T hg hT => hb.block g (hltP hg) (fun e => by subst e; exact hne c T hg hT))
theorem AhAt.at (h : AhAt lo n ga av pre W) {t : Nat} (ht : t < n) : W.cell? ⟨ga, t, none⟩ = some (av t) ∧ ∀ i, W.frozen? ⟨ga, i, none⟩ = false := by
  obtain ⟨cur, h1, _, h3⟩ := h.row
  exact ⟨by simp only [World.cell?, h1]; exact h3 t ht, (cells_of h1).2⟩
/-- One number more in list t. -/
theorem AhAt.app (h : AhAt lo n ga av pre W) {t : Nat} (ht : t < n) {W1 W2 : World} (b1 : Below W.heap.size W W1) {v' : Value} {x : Int} (ho : OwnI W2 lo v' (pre t ++ [x])) (hg : W1.grownBy W2 (av t).ownBlock) (hl : v'.ownBlock = (av t).ownBlock ∨ v'.ownBlock = some W1.heap.size) :
    AhAt lo n ga (fun u => if u = t then v' else av u) (fun u => if u = t then pre t ++ [x] else pre u) (W2.setCell ⟨ga, t, none⟩ v') := by
  have h1 := h.stays b1
  obtain ⟨cur, r1, r2, r3⟩ := h1.row
  have hga : (av t).ownBlock ≠ some ga := fun e => by
    obtain ⟨_, _, c, hc⟩ := (h1.own t ht).low ga e
    rw [r1] at hc
    injection hc with hc
    injection hc with _ e2
    exact absurd e2 (by decide)
  have r1' : W2.heap[ga]? = some (.cells cur 22 (0, 0)) := (hg.block _ (hltP r1) (fun e => hga e.symm)).trans r1
  have hb : But ga W2 (W2.setCell ⟨ga, t, none⟩ v') := (But.refl ga W2).set _ _
  have notga : ∀ g, v'.ownBlock = some g → g ≠ ga := fun g hg2 e => by
    subst e
    rcases hl with hl | hl
    · rw [hl] at hg2; exact hga hg2
    · rw [hl] at hg2
      have : W1.heap.size = g := by simpa using hg2
      have := hltP r1
      omega
  refine ⟨⟨cur.setIfInBounds t v', heap_setCell_same W2 ga t cur _ _ r1', by simpa using r2, fun u hu => ?_⟩, fun u hu => ?_, fun u s hu hs hus g hg1 => ?_⟩
  · rw [Array.getElem?_setIfInBounds]
    by_cases e : t = u
    · subst e
      rw [if_pos rfl, if_pos (by omega), if_pos rfl]
    · rw [if_neg e, if_neg (fun e2 => e e2.symm)]
      exact r3 u hu
  · by_cases e : u = t
    · subst e
      simp only [if_pos]
      exact NumN.keep (Or.inr ho) (fun g hg2 hlt => hb.block g hlt (notga g hg2))
    · simp only [if_neg e]
      refine (h1.own u hu).keep (fun g hg2 hlt => ?_)
      have hne : g ≠ ga := fun e2 => by
        subst e2
        obtain ⟨_, _, c, hc⟩ := (h1.own u hu).low g hg2
        rw [r1] at hc
        injection hc with hc
        injection hc with _ e2
        exact absurd e2 (by decide)
      have hnt : (av t).ownBlock ≠ some g := fun e2 => h.dis t u ht hu (fun e3 => e e3.symm) g e2 hg2
      exact (hb.block g (Nat.lt_of_lt_of_le hlt hg.size) hne).trans (hg.block g hlt (fun e2 => hnt e2.symm))
  · by_cases e1 : u = t
    · subst e1
      simp only [if_pos] at hg1
      rw [if_neg (fun e2 => hus e2.symm)]
      intro h2
      rcases hl with hl | hl
      · rw [hl] at hg1
        exact h.dis u s hu hs hus g hg1 h2
      · rw [hl] at hg1
        have e3 : W1.heap.size = g := by simpa using hg1
        have := ((h1.own s hs).low g h2).2.1
        omega
    · simp only [if_neg e1] at hg1
      by_cases e2 : s = t
      · subst e2
        rw [if_pos rfl]
        intro h2
        rcases hl with hl | hl
        · rw [hl] at h2
          exact h.dis s u hs hu (fun e3 => hus e3.symm) g h2 hg1
        · rw [hl] at h2
          have e3 : W1.heap.size = g := by simpa using h2
          have := ((h1.own u hu).low g hg1).2.1
          omega
      · rw [if_neg e2]
        exact h.dis u s hu hs hus g hg1
end
/-- Row gm: the first k cells name sets, each in a block of its own. -/
structure BhAt (lo n gm : Nat) (ms : Nat → Nat) (k : Nat) (c : Nat → Nat) (ls : Nat → List Int) (W : World) : Prop where
  row : ∃ cur, W.heap[gm]? = some (.cells cur 72 (0, 0)) ∧ cur.size = n ∧ (∀ i, i < k → cur[i]? = some (.map (some (ms i))))
  set : ∀ i, i < k → SetIs InK W (ms i) (c i) (ls i) ∧ lo ≤ ms i
  dis : ∀ i j, i < k → j < k → i ≠ j → ms i ≠ ms j
section
variable {lo n gm : Nat} {ms : Nat → Nat} {k : Nat} {c c' : Nat → Nat} {ls ls' : Nat → List Int} {W W' : World}
theorem SetIs.isMap {w : World} {b n : Nat} {l : List Int} (h : SetIs InK w b n l) : ∃ es clock, w.heap[b]? = some (.map es clock) := let ⟨_, _, _, _, ⟨es, clock, h1, _⟩, _⟩ := h; ⟨es, clock, h1⟩
theorem BhAt.keep (h : BhAt lo n gm ms k c ls W) (hm : ∀ (g : Nat) es cl, W.heap[g]? = some (.map es cl) → W'.heap[g]? = W.heap[g]?) (hc : ∀ (g : Nat) c, W.heap[g]? = some (.cells c 72 (0, 0)) → W'.heap[g]? = W.heap[g]?) : BhAt lo n gm ms k c ls W' := by
  obtain ⟨cur, h1, h2⟩ := h.row
  refine ⟨⟨cur, (hc gm _ h1).trans h1, h2⟩, fun i hi => ⟨?_, (h.set i hi).2⟩, h.dis⟩
  obtain ⟨es, cl, h3⟩ := (h.set i hi).1.isMap
  exact (h.set i hi).1.blk (hm _ _ _ h3)
theorem BhAt.stays (h : BhAt lo n gm ms k c ls W) (b : Below W.heap.size W W') : BhAt lo n gm ms k c ls W' := h.keep (fun g _ _ hg => b.block g (hltP hg)) (fun g _ hg => b.block g (hltP hg))
theorem BhAt.other (h : BhAt lo n gm ms k c ls W) {b : Option Nat} (hb : W.grownBy W' b) (hne : ∀ g, b = some g → ∃ c T, W.heap[g]? = some (.cells c T (0, 0)) ∧ T ≠ 72) : BhAt lo n gm ms k c ls W' := by
  refine h.keep (fun g _ _ hg => hb.block g (hltP hg) (fun e => ?_)) (fun g _ hg => hb.block g (hltP hg) (fun e => ?_))
  · obtain ⟨c, T, h1, _⟩ := hne g e.symm
    rw [hg] at h1; cases h1
  · obtain ⟨c, T, h1, h2⟩ := hne g e.symm
    rw [hg] at h1
    injection h1 with h1
    injection h1 with _ e2
    exact h2 e2.symm
theorem BhAt.at (h : BhAt lo n gm ms k c ls W) {i : Nat} (hi : i < k) : W.cell? ⟨gm, i, none⟩ = some (.map (some (ms i))) := by
  obtain ⟨cur, h1, _, h3⟩ := h.row
  simp only [World.cell?, h1]; exact h3 i hi
/-- One set is written. -/
theorem BhAt.put (h : BhAt lo n gm ms k c ls W) {i : Nat} (hi : i < k) (hb : But (ms i) W W') (hs : SetIs InK W' (ms i) (c' i) (ls' i)) (e : ∀ j, j ≠ i → c' j = c j ∧ ls' j = ls j) : BhAt lo n gm ms k c' ls' W' := by
  obtain ⟨cur, h1, h2⟩ := h.row
  have hne : gm ≠ ms i := fun e => by
    obtain ⟨es, cl, h3⟩ := (h.set i hi).1.isMap
    rw [← e, h1] at h3; cases h3
  refine ⟨⟨cur, (hb.block gm (hltP h1) hne).trans h1, h2⟩, fun j hj => ⟨?_, (h.set j hj).2⟩, h.dis⟩
  by_cases e1 : j = i
  · subst e1; exact hs
  · rw [(e j e1).1, (e j e1).2]
    exact (h.set j hj).1.blk (hb.block _ (h.set j hj).1.lt (h.dis j i hj hi e1))
/-- One set more. -/
theorem BhAt.more (h : BhAt lo n gm ms k c ls W) (hk : k < n) (hlo : lo ≤ W.heap.size) (hc : c k = 0) (hls : ls k = []) : BhAt lo n gm (fun i => if i = k then W.heap.size else ms i) (k + 1) c ls ((W.alloc (.map #[] 0)).setCell ⟨gm, k, none⟩ (.map (some W.heap.size))) := by
  have b1 : Below W.heap.size W (W.alloc (.map #[] 0)) := (Below.refl W.heap.size W).alloc (Nat.le_refl _) _
  have h1 := h.stays b1
  obtain ⟨cur, r1, r2, r3⟩ := h1.row
  obtain ⟨cur0, q1, _⟩ := h.row
  have hb : But gm (W.alloc (.map #[] 0)) ((W.alloc (.map #[] 0)).setCell ⟨gm, k, none⟩ (.map (some W.heap.size))) := (But.refl gm _).set _ _
  have hgm := hltP q1
  refine ⟨⟨cur.setIfInBounds k (.map (some W.heap.size)), heap_setCell_same _ gm k cur _ _ r1, by simpa using r2, fun i hi => ?_⟩, fun i hi => ?_, fun i j hi hj hij => ?_⟩
  · rw [Array.getElem?_setIfInBounds]
    by_cases e : k = i
    · subst e
      rw [if_pos rfl, if_pos (by omega), if_pos rfl]
    · rw [if_neg e, if_neg (fun e2 => e e2.symm)]
      exact r3 i (by omega)
  · by_cases e : i = k
    · subst e
      simp only [if_pos]
      refine ⟨?_, hlo⟩
      rw [hc, hls]
      exact (SetIs.made InK_ok W).blk (hb.block _ (by simp) (by omega))
    · simp only [if_neg e]
      obtain ⟨s1, s2⟩ := h1.set i (by omega)
      refine ⟨s1.blk (hb.block _ s1.lt (fun e2 => ?_)), s2⟩
      obtain ⟨es, cl, h3⟩ := s1.isMap
      rw [e2, r1] at h3; cases h3
  · have key : ∀ a, a < k → ms a ≠ W.heap.size := fun a ha => by have := (h.set a ha).1.lt; omega
    by_cases e1 : i = k
    · subst e1
      rw [if_pos rfl, if_neg (fun e2 => hij e2.symm)]
      exact fun e2 => key j (by omega) e2.symm
    · rw [if_neg e1]
      by_cases e2 : j = k
      · subst e2
        rw [if_pos rfl]
        exact key i (by omega)
      · rw [if_neg e2]
        exact h.dis i j (by omega) (by omega) hij
end
end Go.Proofs.YtelkpikbjfkpcaaGreat

/- The contract of impl.newFlow. -/
namespace Go.Proofs.YtelkpikbjfkpcaaGreat
open Go.ChangeShapes Go.WideShapes Go.ChangeAt Go.RowKit Go.Maps
theorem newB9 (w : World) (o : Obj) : ∀ (b : Nat) (ob : Obj), w.heap[b]? = some ob → (w.alloc o).heap[b]? = some ob := fun b _ h => (((Below.refl w.heap.size w).alloc (Nat.le_refl _) o).block b (hltP h)).trans h
theorem made_one (z : Value) (n : Nat) : ∀ t, t < n → (madeCells #[z] n)[t]? = some z := fun t ht => by simp [madeCells, ht, Nat.mod_one]
theorem infoIS : (Tryz.prog.info? 22).map (fun i => (i.zero, i.size, i.bytes)) = some (some (.slice none 0 0), 1, 24) := by kernel_rfl
theorem infoSI : (Tryz.prog.info? 72).map (fun i => (i.zero, i.size, i.bytes)) = some (some (.map none), 1, 8) := by kernel_rfl
theorem make_ints (n : Nat) (hn : n ≤ 1000) (W : World) : (Instr.makeSlice 113 (.int .i64 (n : Int)) (.int .i64 (n : Int))).run Tryz.prog W = .ok (.slice (some ⟨W.heap.size, 0, none⟩) n n) (W.alloc (.cells (madeCells #[.slice none 0 0] n) 22)) := by
  have := make_n (P := Tryz.prog) Tryz.underlying113 infoIS n (by omega) (by omega) W
  rw [Nat.mul_one] at this
  exact this
theorem make_sets (n : Nat) (hn : n ≤ 1000) (W : World) : (Instr.makeSlice 69 (.int .i64 (n : Int)) (.int .i64 (n : Int))).run Tryz.prog W = .ok (.slice (some ⟨W.heap.size, 0, none⟩) n n) (W.alloc (.cells (madeCells #[.map none] n) 72)) := by
  have := make_n (P := Tryz.prog) Tryz.underlying69 infoSI n (by omega) (by omega) W
  rw [Nat.mul_one] at this
  exact this
/-- A flow: its three lists, the rows. -/
structure FlAt (lo n f ga gm : Nat) (vb : Value) (av : Nat → Value) (pre : Nat → List Int) (ms : Nat → Nat) (k : Nat) (c : Nat → Nat) (ls : Nat → List Int) (W : World) : Prop where
  fl : W.heap[f]? = some (.cells #[vb, .slice (some ⟨ga, 0, none⟩) n n, .slice (some ⟨gm, 0, none⟩) n n] 115 (0, 0))
  ah : AhAt lo n ga av pre W
  bh : BhAt lo n gm ms k c ls W
  lof : lo ≤ f ∧ lo ≤ ga ∧ lo ≤ gm
section
variable {lo n f ga gm : Nat} {vb : Value} {av : Nat → Value} {pre : Nat → List Int} {ms : Nat → Nat} {k : Nat} {c : Nat → Nat} {ls : Nat → List Int} {W W' : World}
theorem FlAt.stays (h : FlAt lo n f ga gm vb av pre ms k c ls W) (b : Below W.heap.size W W') : FlAt lo n f ga gm vb av pre ms k c ls W' := ⟨(b.block _ (hltP h.fl)).trans h.fl, h.ah.stays b, h.bh.stays b, h.lof⟩
theorem FlAt.more (h : FlAt lo n f ga gm vb av pre ms k c ls W) (hk : k < n) (hlo : lo ≤ W.heap.size) (hc : c k = 0) (hls : ls k = []) : FlAt lo n f ga gm vb av pre (fun i => if i = k then W.heap.size else ms i) (k + 1) c ls ((W.alloc (.map #[] 0)).setCell ⟨gm, k, none⟩ (.map (some W.heap.size))) ∧ Below lo W ((W.alloc (.map #[] 0)).setCell ⟨gm, k, none⟩ (.map (some W.heap.size))) := by
  have b1 : Below W.heap.size W (W.alloc (.map #[] 0)) := (Below.refl W.heap.size W).alloc (Nat.le_refl _) _
  have hb : But gm (W.alloc (.map #[] 0)) ((W.alloc (.map #[] 0)).setCell ⟨gm, k, none⟩ (.map (some W.heap.size))) := (But.refl gm _).set _ _
  have h1 := h.stays b1
  obtain ⟨cur, r1, _⟩ := h1.bh.row
  refine ⟨⟨hb.keepB h1.fl (fun e => ?_), h1.ah.other hb (fun c T hc hT => ?_), h.bh.more hk hlo hc hls, h.lof⟩, (b1.mono hlo).trans (hb.below h.lof.2.2 (Nat.le_trans hlo b1.size))⟩
  · have := h1.fl
    rw [e, r1] at this
    injection this with this
    injection this with _ e2
    exact absurd e2 (by decide)
  · rw [r1] at hc
    injection hc with hc
    injection hc with _ e2
    rw [← e2] at hT
    exact absurd hT (by decide)
theorem FlAt.app (h : FlAt lo n f ga gm vb av pre ms k c ls W) {t : Nat} (ht : t < n) {W1 W2 : World} (b1 : Below W.heap.size W W1) {v' : Value} {x : Int} (ho : OwnI W2 lo v' (pre t ++ [x])) (hg : W1.grownBy W2 (av t).ownBlock) (hl : v'.ownBlock = (av t).ownBlock ∨ v'.ownBlock = some W1.heap.size) (hlo : lo ≤ W.heap.size) :
    FlAt lo n f ga gm vb (fun u => if u = t then v' else av u) (fun u => if u = t then pre t ++ [x] else pre u) ms k c ls (W2.setCell ⟨ga, t, none⟩ v') ∧ Below lo W (W2.setCell ⟨ga, t, none⟩ v') := by
  have h1 := h.stays b1
  obtain ⟨cur, r1, _⟩ := h1.ah.row
  have hown : ∀ g, (av t).ownBlock = some g → lo ≤ g ∧ ∃ cur, W1.heap[g]? = some (.cells cur 3 (0, 0)) := fun g hg2 => let ⟨a, _, b⟩ := (h1.ah.own t ht).low g hg2; ⟨a, b⟩
  have hb : But ga W2 (W2.setCell ⟨ga, t, none⟩ v') := (But.refl ga W2).set _ _
  have r1' : W2.heap[ga]? = some (.cells cur 22 (0, 0)) := (hg.block _ (hltP r1) (fun e => by
    obtain ⟨_, c2, hc2⟩ := hown ga e.symm
    rw [r1] at hc2
    injection hc2 with hc2
    injection hc2 with _ e2
    exact absurd e2 (by decide))).trans r1
  have fl2 : W2.heap[f]? = some (.cells #[vb, .slice (some ⟨ga, 0, none⟩) n n, .slice (some ⟨gm, 0, none⟩) n n] 115 (0, 0)) := (hg.block _ (hltP h1.fl) (fun e => by
    obtain ⟨_, c2, hc2⟩ := hown f e.symm
    rw [h1.fl] at hc2
    injection hc2 with hc2
    injection hc2 with _ e2
    exact absurd e2 (by decide))).trans h1.fl
  have hbel : Below lo W1 W2 := ⟨hg.os, hg.tape, hg.output, hg.size, fun k hk => hg.block k (by have := b1.size; omega) (fun e => by have := (hown k e.symm).1; omega)⟩
  refine ⟨⟨hb.keepB fl2 (fun e => ?_), h.ah.app ht b1 ho hg hl, (h1.bh.other hg (fun g hg2 => ?_)).other hb.grow (fun g hg2 => ?_), h.lof⟩, ((b1.mono hlo).trans hbel).trans (hb.below h.lof.2.1 (by have := b1.size; have := hg.size; omega))⟩
  · rw [e, r1'] at fl2
    injection fl2 with fl2
    injection fl2 with _ e2
    exact absurd e2 (by decide)
  · obtain ⟨_, c2, hc2⟩ := hown g hg2
    exact ⟨c2, _, hc2, by decide⟩
  · have e : ga = g := by simpa using hg2
    subst e
    exact ⟨cur, _, r1', by decide⟩
end
theorem flow0 {lo n f ga gm : Nat} {vb : Value} {W : World} (h1 : W.heap[f]? = some (.cells #[vb, .slice (some ⟨ga, 0, none⟩) n n, .slice (some ⟨gm, 0, none⟩) n n] 115 (0, 0))) (h2 : W.heap[ga]? = some (.cells (madeCells #[.slice none 0 0] n) 22 (0, 0))) (h3 : W.heap[gm]? = some (.cells (madeCells #[.map none] n) 72 (0, 0))) (hl : lo ≤ f ∧ lo ≤ ga ∧ lo ≤ gm) : FlAt lo n f ga gm vb (fun _ => .slice none 0 0) (fun _ => []) (fun _ => 0) 0 (fun _ => 0) (fun _ => []) W.drew :=
  ⟨h1, ⟨⟨_, h2, size_madeCells _ _, made_one _ n⟩, fun _ _ => Or.inl ⟨rfl, rfl⟩, fun _ _ _ _ _ g hg => by cases hg⟩, ⟨⟨_, h3, size_madeCells _ _, fun i hi => absurd hi (Nat.not_lt_zero _)⟩, fun i hi => absurd hi (Nat.not_lt_zero _), fun i j hi => absurd hi (Nat.not_lt_zero _)⟩, hl⟩
/-- Which blocks go to which, of the first j. -/
def PreOk (bs : List Blk) (j : Nat) (pre : Nat → List Int) : Prop := ∀ t, t < bs.length → (pre t).length ≤ 2 * j ∧ ∀ i : Int, i ∈ pre t ↔ ∃ (i' : Nat) (h : i' < bs.length), i = (i' : Int) ∧ i' < j ∧ (t : Int) ∈ nextP bs[i']
def FloMade (w : World) (bs : List Blk) (vb : Value) (e : Ending) (w' : World) : Prop := ∃ f ga gm av pre ms, e = .returned (.pointer (some ⟨f, 0, none⟩)) ∧ FlAt (w.heap.size + 1) bs.length f ga gm vb av pre ms bs.length (fun _ => 0) (fun _ => []) w' ∧ PreOk bs bs.length pre ∧ Below w.heap.size w w'
set_option maxRecDepth 100000 in
set_option maxHeartbeats 16000000 in
theorem newFlow_any (x : Gr) (V : Nat) (w : World) (B : Nat) (us : Option Addr) (cs : Nat) (ub : Option Addr) (cb : Nat) (h : GrIs w B #[.slice us x.sizes.length cs, .int .i64 x.params, .int .i64 x.vars, .int .i64 x.slots, .slice ub x.blocks.length cb] x) (hbb : SlIs BlkIs 5 w B ub x.blocks) (hok : grOk x = true) (hxV : x.slots = V) :
    Calls Tryz.prog 90 #[.agg #[.slice us x.sizes.length cs, .int .i64 x.params, .int .i64 x.vars, .int .i64 x.slots, .slice ub x.blocks.length cb]] w fun e w' => FloMade w x.blocks (.slice ub x.blocks.length cb) e w' := by
  have BOK := hideP (bsOk_of hok hxV)
  have hn : x.blocks.length ≤ 300 := by
    simp only [grOk, Bool.and_eq_true, decide_eq_true_eq] at hok
    omega
  obtain ⟨sizes, p, q, r, blocks⟩ := x
  simp only at *
  subst hxV
  have HBB := hideP hbb
  have hm1 := make_ints blocks.length (by omega)
  have hm2 := make_sets blocks.length (by omega)
  have AL : Hid (Below w.heap.size w (w.alloc (.cells #[.slice us sizes.length cs, .int .i64 p, .int .i64 q, .int .i64 (V : Int), .slice ub blocks.length cb] 29))) := (Below.refl w.heap.size w).alloc (Nat.le_refl _) _
  have BX := hideP (newB8 w (.cells #[.slice us sizes.length cs, .int .i64 p, .int .i64 q, .int .i64 (V : Int), .slice ub blocks.length cb] 29))
  obtain ⟨n, hnn⟩ : ∃ n, blocks.length = n := ⟨_, rfl⟩
  have HNN := hideP hnn
  have GOAL : Hid (∀ e w', FloMade w blocks (.slice ub n cb) e w' → FloMade w blocks (.slice ub n cb) e w') := fun _ _ h => h
  rw [hnn] at hn hm1 hm2 AL BX ⊢
  clear hbb hok hnn h
  go_enter Tryz.func90, Tryz.ntmps90
  go_upto_region 1 with fail
  obtain ⟨W1, hW1⟩ : ∃ W1, w.alloc (.cells #[.slice us sizes.length cs, .int .i64 p, .int .i64 q, .int .i64 (V : Int), .slice ub n cb] 29) = W1 := ⟨_, rfl⟩
  have hs1 : W1.heap.size = w.heap.size + 1 := by rw [← hW1]; simp
  rw [hW1] at AL BX ⊢
  clear hW1
  have HS1 := hideP hs1
  clear hs1
  have g4 := (cells_of BX.out).1 4
  simp at g4
  have hbw := hltP BX.out
  go_cut [3] from 8 to 18 (fun s3 wx => ∃ f ga gm, s3 = .pointer (some ⟨f, 0, none⟩) ∧ Hid (FlAt (w.heap.size + 1) n f ga gm (.slice ub n cb) (fun _ => .slice none 0 0) (fun _ => []) (fun _ => 0) 0 (fun _ => 0) (fun _ => []) wx) ∧ Hid (Below W1.heap.size W1 wx))
  case first =>
    have SK : Hid (∀ (W' : World), Below W1.heap.size W1 W' → W'.cell? ⟨w.heap.size, 4, none⟩ = some (.slice ub n cb)) := fun W' hk => (hk.cell (p := ⟨w.heap.size, 4, none⟩) hbw).trans g4
    have D0 : Hid (Below W1.heap.size W1 W1.drew) := (Below.refl _ _).drew
    have D1 : Hid (∀ o, Below W1.heap.size W1 ((W1.alloc o).drew)) := fun o => ((Below.refl _ _).alloc (Nat.le_refl _) o).drew
    have D2 : Hid (∀ o o', Below W1.heap.size W1 (((W1.alloc o).alloc o').drew)) := fun o o' => (below2 W1 o o').drew
    have D3 : Hid (∀ o o' o'', Below W1.heap.size W1 ((((W1.alloc o).alloc o').alloc o'').drew)) := fun o o' o'' => (below3 W1 o o' o'').drew
    go_region_held3 (fun W' => W'.cell? ⟨w.heap.size, 4, none⟩ = some (.slice ub n cb)) (first | with_reducible exact SK.out _ D0.out | with_reducible exact SK.out _ (D1.out _) | with_reducible exact SK.out _ (D2.out _ _) | with_reducible exact SK.out _ (D3.out _ _ _)) (first | fail)
    all_goals
      go_wp2_with fail
      go_meet
      case rel => first
        | exact ⟨W1.heap.size, W1.heap.size + 1, W1.heap.size + 1 + 1, rfl, flow0 (three (Below.refl _ _)).1 (three (Below.refl _ _)).2.1 (three (Below.refl _ _)).2.2.1 ⟨by rw [HS1.out]; omega, by rw [HS1.out]; omega, by rw [HS1.out]; omega⟩, D3.out _ _ _⟩
        | exact ⟨W1.heap.size, W1.heap.size + 1 + 1, W1.heap.size + 1, rfl, flow0 (three (Below.refl _ _)).1 (three (Below.refl _ _)).2.2.1 (three (Below.refl _ _)).2.1 ⟨by rw [HS1.out]; omega, by rw [HS1.out]; omega, by rw [HS1.out]; omega⟩, D3.out _ _ _⟩
        | exact ⟨W1.heap.size + 1, W1.heap.size, W1.heap.size + 1 + 1, rfl, flow0 (three (Below.refl _ _)).2.1 (three (Below.refl _ _)).1 (three (Below.refl _ _)).2.2.1 ⟨by rw [HS1.out]; omega, by rw [HS1.out]; omega, by rw [HS1.out]; omega⟩, D3.out _ _ _⟩
        | exact ⟨W1.heap.size + 1, W1.heap.size + 1 + 1, W1.heap.size, rfl, flow0 (three (Below.refl _ _)).2.1 (three (Below.refl _ _)).2.2.1 (three (Below.refl _ _)).1 ⟨by rw [HS1.out]; omega, by rw [HS1.out]; omega, by rw [HS1.out]; omega⟩, D3.out _ _ _⟩
        | exact ⟨W1.heap.size + 1 + 1, W1.heap.size, W1.heap.size + 1, rfl, flow0 (three (Below.refl _ _)).2.2.1 (three (Below.refl _ _)).1 (three (Below.refl _ _)).2.1 ⟨by rw [HS1.out]; omega, by rw [HS1.out]; omega, by rw [HS1.out]; omega⟩, D3.out _ _ _⟩
        | exact ⟨W1.heap.size + 1 + 1, W1.heap.size + 1, W1.heap.size, rfl, flow0 (three (Below.refl _ _)).2.2.1 (three (Below.refl _ _)).2.1 (three (Below.refl _ _)).1 ⟨by rw [HS1.out]; omega, by rw [HS1.out]; omega, by rw [HS1.out]; omega⟩, D3.out _ _ _⟩
  case rest =>
    obtain ⟨f, ga, gm, rfl, hF, hBw⟩ := hcut
    have BXc := hideP ((hBw.out.block _ hbw).trans BX.out)
    have BEc := hideP (below_trans AL.out hBw.out)
    have P0 : Hid (PreOk blocks 0 (fun _ => [])) := fun t _ => ⟨by simp, fun i => ⟨fun h => by simp at h, fun ⟨_, _, _, h, _⟩ => absurd h (Nat.not_lt_zero _)⟩⟩
    clear hm1 hm2 g4 BX AL hBw
    have g4 := (cells_of BXc.out).1 4
    simp at g4
    go_wp2
    clear g4
    go_loopg [22] n (fun gk ix wr => ∃ (j : Nat) (av : Nat → Value) (pre : Nat → List Int) (ms : Nat → Nat), gk + j = n ∧ ix = .int .i64 j ∧ Hid (FlAt (w.heap.size + 1) n f ga gm (.slice ub n cb) av pre ms j (fun _ => 0) (fun _ => []) wr) ∧ Hid (PreOk blocks j pre) ∧ Hid (wr.heap[w.heap.size]? = some (.cells #[.slice us sizes.length cs, .int .i64 p, .int .i64 q, .int .i64 (V : Int), .slice ub n cb] 29 (0, 0))) ∧ Hid (Below w.heap.size w wr))
    case atStart => exact ⟨0, _, _, _, by simp, rfl, hF.out, P0.out, BXc.out, BEc.out⟩
    case round =>
      obtain ⟨j, av, pre, ms, hj, rfl, hS, hP, hX, hE⟩ := hrel
      clear hF P0 BXc BEc
      by_cases hlt : j < n
      · have hjb : j < blocks.length := by rw [HNN.out]; exact hlt
        obtain ⟨bb, oo, code, jump, a, t0, els, uc, kc, hub, _, hbl, he, q0, q1, q2, q3, q4, hbk⟩ := Blk_get HBB.out j hjb
        subst hub
        have q0 := (hE.out.cell (p := ⟨bb, _, none⟩) hbl).trans q0
        have q1 := (hE.out.cell (p := ⟨bb, _, none⟩) hbl).trans q1
        have q2 := (hE.out.cell (p := ⟨bb, _, none⟩) hbl).trans q2
        have q3 := (hE.out.cell (p := ⟨bb, _, none⟩) hbl).trans q3
        have q4 := (hE.out.cell (p := ⟨bb, _, none⟩) hbl).trans q4
        have al := (Below.refl wr.heap.size wr).alloc (Nat.le_refl _) (.cells #[.slice uc code.length kc, .int .i64 jump, .int .i64 a, .int .i64 t0, .int .i64 els] 51)
        have S1 := hideP (hS.out.stays al)
        have X1 : Hid ((wr.alloc (.cells #[.slice uc code.length kc, .int .i64 jump, .int .i64 a, .int .i64 t0, .int .i64 els] 51)).heap[wr.heap.size]? = some (.cells #[.slice uc code.length kc, .int .i64 jump, .int .i64 a, .int .i64 t0, .int .i64 els] 51 (0, 0)) ∧ (wr.alloc (.cells #[.slice uc code.length kc, .int .i64 jump, .int .i64 a, .int .i64 t0, .int .i64 els] 51)).heap[w.heap.size]? = some (.cells #[.slice us sizes.length cs, .int .i64 p, .int .i64 q, .int .i64 (V : Int), .slice (some ⟨bb, oo, none⟩) n cb] 29 (0, 0)) ∧ Below w.heap.size w (wr.alloc (.cells #[.slice uc code.length kc, .int .i64 jump, .int .i64 a, .int .i64 t0, .int .i64 els] 51))) := ⟨newB8 wr _, (al.block _ (hltP hX.out)).trans hX.out, below_trans hE.out al⟩
        have NX : Hid (∀ W, Below w.heap.size w W → Calls Tryz.prog 130 #[.agg #[.slice uc code.length kc, .int .i64 jump, .int .i64 a, .int .i64 t0, .int .i64 els]] W fun en w' => ∃ v', en = .returned v' ∧ OwnI w' W.heap.size v' (nextP ⟨code, jump, a, t0, els⟩) ∧ Below W.heap.size W w') := fun W hW => impl_next ⟨code, jump, a, t0, els⟩ W B _ (BlkKeeps.stays hbk hW)
        have NT := hideP (BOK.out.next _ (List.getElem_mem hjb))
        obtain ⟨nx, hnx⟩ : ∃ nx, nextP blocks[j] = nx := ⟨_, rfl⟩
        have hnl : nx.length ≤ 2 := by rw [← hnx]; exact nextP_len _
        rw [hnx] at NT
        have HNX := hideP hnx
        rw [he] at hnx
        rw [hnx] at NX
        have hmm := @run_makeMap Tryz.prog
        clear al hS hX hE he hbk hnx
        go_upto_region 5 with fail
        obtain ⟨wb, hwb⟩ : ∃ wb, wr.alloc (.cells #[.slice uc code.length kc, .int .i64 jump, .int .i64 a, .int .i64 t0, .int .i64 els] 51) = wb := ⟨_, rfl⟩
        have AL : Hid (Below wr.heap.size wr wb) := hwb ▸ (Below.refl wr.heap.size wr).alloc (Nat.le_refl _) _
        rw [hwb] at S1 X1 ⊢
        clear hwb q0 q1 q2 q3 q4
        have M1 := hideP (S1.out.more hlt (hltP X1.out.2.1) rfl rfl)
        have f2 := (cells_of ((newB9 wb (.map #[] 0)) _ _ S1.out.fl)).1 2
        have f2' := (cells_of S1.out.fl).1 2
        simp at f2 f2'
        obtain ⟨uj, gc, gf⟩ : ∃ u, (wb.alloc (.map #[] 0)).cell? ⟨gm, j, none⟩ = some u ∧ (wb.alloc (.map #[] 0)).frozen? ⟨gm, j, none⟩ = false := by
          obtain ⟨cur, h1, h2, _⟩ := S1.out.bh.row
          have h1' := newB9 wb (.map #[] 0) _ _ h1
          exact ⟨cur[j]'(by omega), by simp only [World.cell?, h1']; exact Array.getElem?_eq_getElem _, (cells_of h1').2 _⟩
        have X2 : Hid (((wb.alloc (.map #[] 0)).setCell ⟨gm, j, none⟩ (.map (some wb.heap.size))).heap[wr.heap.size]? = some (.cells #[.slice uc code.length kc, .int .i64 jump, .int .i64 a, .int .i64 t0, .int .i64 els] 51 (0, 0)) ∧ ((wb.alloc (.map #[] 0)).setCell ⟨gm, j, none⟩ (.map (some wb.heap.size))).heap[w.heap.size]? = some (.cells #[.slice us sizes.length cs, .int .i64 p, .int .i64 q, .int .i64 (V : Int), .slice (some ⟨bb, oo, none⟩) n cb] 29 (0, 0)) ∧ Below w.heap.size w ((wb.alloc (.map #[] 0)).setCell ⟨gm, j, none⟩ (.map (some wb.heap.size))) ∧ Below wr.heap.size wr wb) := by
          have hb : But gm (wb.alloc (.map #[] 0)) ((wb.alloc (.map #[] 0)).setCell ⟨gm, j, none⟩ (.map (some wb.heap.size))) := (But.refl gm _).set _ _
          obtain ⟨cur, h1, _⟩ := S1.out.bh.row
          have hne : wr.heap.size ≠ gm := fun e => by
            have := X1.out.1
            rw [e, h1] at this
            injection this with this
            injection this with _ e2
            exact absurd e2 (by decide)
          have lo := S1.out.lof
          exact ⟨hb.keepB (newB9 wb (.map #[] 0) _ _ X1.out.1) hne, hb.keepB (newB9 wb (.map #[] 0) _ _ X1.out.2.1) (by omega), X1.out.2.2.trans (M1.out.2.mono (by omega)), AL.out⟩
        have MS := hideP M1.out.1
        clear M1 S1 X1 AL
        go_upto_region 6 with fail
        obtain ⟨wm, hwm⟩ : ∃ wm, (wb.alloc (.map #[] 0)).setCell ⟨gm, j, none⟩ (.map (some wb.heap.size)) = wm := ⟨_, rfl⟩
        rw [hwm] at X2 MS ⊢
        obtain ⟨ms2, hms2⟩ : ∃ ms2, (fun i => if i = j then wb.heap.size else ms i) = ms2 := ⟨_, rfl⟩
        rw [hms2] at MS
        obtain ⟨bx, hbx⟩ : ∃ bx, wr.heap.size = bx := ⟨_, rfl⟩
        rw [hbx] at X2 ⊢
        clear hwm hms2 hbx f2 f2' gc gf hmm
        have z := (cells_of X2.out.1).1
        have z0 := z 0
        have z1 := z 1
        have z2 := z 2
        have z3 := z 3
        have z4 := z 4
        simp at z0 z1 z2 z3 z4
        clear z
        go_wp2_with fail
        refine (NX.out _ X2.out.2.2.1).mono ?_
        rintro e7 w7 ⟨v7, rfl, o7, b7⟩
        obtain ⟨gu, cu, hv7, _⟩ := id o7
        subst hv7
        have lo7 := ints_low o7
        have S7 := hideP (MS.out.stays b7)
        have G7 : Hid (∀ t, t < n → (av t).ownBlock ≠ some gu) := fun t ht e => by have := ((MS.out.ah.own t ht).low gu e).2.1; omega
        have X7 : Hid (w7.heap[w.heap.size]? = some (.cells #[.slice us sizes.length cs, .int .i64 p, .int .i64 q, .int .i64 (V : Int), .slice (some ⟨bb, oo, none⟩) n cb] 29 (0, 0)) ∧ Below w.heap.size w w7) := ⟨(b7.block _ (hltP X2.out.2.1)).trans X2.out.2.1, below_trans X2.out.2.2.1 b7⟩
        have O7 := hideP (o7.mono (Nat.zero_le _))
        have Q7 : Hid (∀ t, t < blocks.length → (pre t).length ≤ 2 * j + 0 ∧ ∀ i : Int, i ∈ pre t ↔ (∃ (i' : Nat) (h : i' < blocks.length), i = (i' : Int) ∧ i' < j ∧ (t : Int) ∈ nextP blocks[i']) ∨ (i = (j : Int) ∧ (t : Int) ∈ nx.take 0)) := fun t ht => ⟨(hP.out t ht).1, fun i => ((hP.out t ht).2 i).trans ⟨Or.inl, fun h => h.elim id (fun h => by simp at h)⟩⟩
        obtain ⟨N2, hN2⟩ : ∃ N2, nx.length = N2 := ⟨_, rfl⟩
        have HN2 := hideP hN2
        rw [hN2] at O7 hnl ⊢
        clear o7 b7 MS X2 NX z0 z1 z2 z3 z4 hP lo7 hN2
        go_wp2
        go_loopg [35] N2 (fun gk2 ix wr => ∃ (r : Nat) (av : Nat → Value) (pre : Nat → List Int), gk2 + r = N2 ∧ ix = .int .i64 r ∧ Hid (FlAt (w.heap.size + 1) n f ga gm (.slice (some ⟨bb, oo, none⟩) n cb) av pre ms2 (j + 1) (fun _ => 0) (fun _ => []) wr) ∧ Hid (∀ t, t < blocks.length → (pre t).length ≤ 2 * j + r ∧ ∀ i : Int, i ∈ pre t ↔ (∃ (i' : Nat) (h : i' < blocks.length), i = (i' : Int) ∧ i' < j ∧ (t : Int) ∈ nextP blocks[i']) ∨ (i = (j : Int) ∧ (t : Int) ∈ nx.take r)) ∧ Hid (∀ t, t < n → (av t).ownBlock ≠ some gu) ∧ Hid (wr.heap[w.heap.size]? = some (.cells #[.slice us sizes.length cs, .int .i64 p, .int .i64 q, .int .i64 (V : Int), .slice (some ⟨bb, oo, none⟩) n cb] 29 (0, 0)) ∧ Below w.heap.size w wr) ∧ Hid (OwnI wr 0 (.slice (some ⟨gu, 0, none⟩) N2 cu) nx))
        case atStart => exact ⟨0, av, pre, by simp, rfl, S7.out, Q7.out, G7.out, X7.out, O7.out⟩
        case round =>
          obtain ⟨r, av, pre, hr, rfl, hS, hP, hG, hX, hO⟩ := hrel
          clear S7 Q7 G7 X7 O7
          by_cases hrlt : r < N2
          · have hrl : r < nx.length := by rw [HN2.out]; exact hrlt
            obtain ⟨tz, htz⟩ : ∃ tz, nx[r] = tz := ⟨_, rfl⟩
            have hrg := NT.out tz (by rw [← htz]; exact List.getElem_mem hrl)
            obtain ⟨tt, htt⟩ : ∃ tt : Nat, tz = (tt : Int) := ⟨tz.toNat, by omega⟩
            subst htt
            rw [HNN.out] at hrg
            have htn : tt < n := by omega
            have htb : tt < blocks.length := by rw [HNN.out]; exact htn
            have x0 := ints_at hO.out r hrl
            rw [htz] at x0
            have HTZ := hideP htz
            have TK : Hid (nx.take (r + 1) = nx.take r ++ [(tt : Int)]) := by show _ = _; rw [List.take_succ_eq_append_getElem hrl, htz]
            have f1 := (cells_of hS.out.fl).1 1
            simp at f1
            have a1 := (hS.out.ah.at htn).1
            have hgaw : ga < wr.heap.size := World.block_lt_of_cell? wr _ a1
            have hfw := hltP hS.out.fl
            obtain ⟨AV, hAV⟩ : ∃ AV, av tt = AV := ⟨_, rfl⟩
            obtain ⟨PR, hPR⟩ : ∃ PR, pre tt = PR := ⟨_, rfl⟩
            obtain ⟨PJ, hPJ⟩ : ∃ PJ, PR ++ [(j : Int)] = PJ := ⟨_, rfl⟩
            have hNum := hS.out.ah.own tt htn
            rw [hAV, hPR] at hNum
            rw [hAV] at a1
            have hPl : PR.length ≤ 1000 := by have := (hP.out tt htb).1; rw [hPR] at this; omega
            have al := (Below.refl wr.heap.size wr).alloc (Nat.le_refl _) (.cells #[.int .i64 (j : Int)] 3)
            have AL := hideP al
            have NA : Hid (NumN (wr.alloc (.cells #[.int .i64 (j : Int)] 3)).drew (w.heap.size + 1) AV PR) := hNum.keep (fun g _ hlt => al.block g hlt)
            have LC : Hid ((wr.alloc (.cells #[.int .i64 (j : Int)] 3)).drew.cell? ⟨wr.heap.size, 0, none⟩ = some (.int .i64 (j : Int))) := (cells_of (newB8 wr (.cells #[.int .i64 (j : Int)] 3))).1 0
            have a2 : (wr.alloc (.cells #[.int .i64 (j : Int)] 3)).cell? ⟨ga, tt, none⟩ = some AV := (al.cell (p := ⟨ga, tt, none⟩) hgaw).trans a1
            have hlo : Hid (w.heap.size + 1 ≤ (wr.alloc (.cells #[.int .i64 (j : Int)] 3)).drew.heap.size) := Nat.le_trans (hltP hX.out.1) al.size
            have QN : Hid (∀ t, t < blocks.length → ((fun u => if u = tt then PJ else pre u) t).length ≤ 2 * j + (r + 1) ∧ ∀ i : Int, i ∈ (fun u => if u = tt then PJ else pre u) t ↔ (∃ (i' : Nat) (h : i' < blocks.length), i = (i' : Int) ∧ i' < j ∧ (t : Int) ∈ nextP blocks[i']) ∨ (i = (j : Int) ∧ (t : Int) ∈ nx.take (r + 1))) := fun t ht => by
              obtain ⟨l1, l2⟩ := hP.out t ht
              rw [TK.out]
              by_cases e : t = tt
              · subst e
                simp only [if_pos]
                rw [← hPJ]
                rw [hPR] at l1 l2
                refine ⟨by rw [List.length_append, List.length_singleton]; omega, fun i => ?_⟩
                rw [List.mem_append, l2, List.mem_singleton]
                simp only [List.mem_append, List.mem_singleton]
                constructor
                · rintro ((h | ⟨h1, h2⟩) | h)
                  · exact Or.inl h
                  · exact Or.inr ⟨h1, Or.inl h2⟩
                  · exact Or.inr ⟨h, Or.inr trivial⟩
                · rintro (h | ⟨h1, h2 | _⟩)
                  · exact Or.inl (Or.inl h)
                  · exact Or.inl (Or.inr ⟨h1, h2⟩)
                  · exact Or.inr h1
              · simp only [if_neg e]
                refine ⟨by omega, fun i => ?_⟩
                rw [l2]
                simp only [List.mem_append, List.mem_singleton]
                have e2 : ¬ ((t : Int) = (tt : Int)) := by omega
                simp [e2]
            have FIN : Hid (∀ v' w6, OwnI w6 (w.heap.size + 1) v' PJ → (wr.alloc (.cells #[.int .i64 (j : Int)] 3)).drew.grownBy w6 AV.ownBlock → (v'.ownBlock = AV.ownBlock ∨ v'.ownBlock = some (wr.alloc (.cells #[.int .i64 (j : Int)] 3)).drew.heap.size) → ((fun wx => (FlAt (w.heap.size + 1) n f ga gm (.slice (some ⟨bb, oo, none⟩) n cb) (fun u => if u = tt then v' else av u) (fun u => if u = tt then PJ else pre u) ms2 (j + 1) (fun _ => 0) (fun _ => []) wx) ∧ (∀ t, t < n → (if t = tt then v' else av t).ownBlock ≠ some gu) ∧ (wx.heap[w.heap.size]? = some (.cells #[.slice us sizes.length cs, .int .i64 p, .int .i64 q, .int .i64 (V : Int), .slice (some ⟨bb, oo, none⟩) n cb] 29 (0, 0)) ∧ Below w.heap.size w wx) ∧ OwnI wx 0 (.slice (some ⟨gu, 0, none⟩) N2 cu) nx) (w6.setCell ⟨ga, tt, none⟩ v') ∧ w6.heap[f]? = wr.heap[f]? ∧ (w6.setCell ⟨ga, tt, none⟩ v').heap[f]? = wr.heap[f]?) ∧ w6.cell? ⟨ga, tt, none⟩ = some AV ∧ w6.frozen? ⟨ga, tt, none⟩ = false) := fun v' w6 o6 g6 l6 => by
              have hsz := AL.out.drew.size
              have hgl := hltP hX.out.1
              obtain ⟨cur, r1, _⟩ := hS.out.ah.row
              have hown : ∀ g, AV.ownBlock = some g → ∃ c, wr.heap[g]? = some (.cells c 3 (0, 0)) := fun g hg => let ⟨_, _, h⟩ := hNum.low g hg; h
              have hga : AV.ownBlock ≠ some ga := fun e => by
                obtain ⟨c2, hc2⟩ := hown ga e
                rw [r1] at hc2
                injection hc2 with hc2
                injection hc2 with _ e2
                exact absurd e2 (by decide)
              have hf : AV.ownBlock ≠ some f := fun e => by
                obtain ⟨c2, hc2⟩ := hown f e
                rw [hS.out.fl] at hc2
                injection hc2 with hc2
                injection hc2 with _ e2
                exact absurd e2 (by decide)
              have hfg : f ≠ ga := fun e => by
                have := hS.out.fl
                rw [e, r1] at this
                injection this with this
                injection this with _ e2
                exact absurd e2 (by decide)
              have hug : gu ≠ ga := fun e => by
                obtain ⟨g', _, cu', hv', _, hh', _⟩ := hO.out.parts
                injection hv' with e1
                injection e1 with e1
                injection e1 with e1
                subst e1
                rw [e, r1] at hh'
                injection hh' with hh'
                injection hh' with _ e2
                exact absurd e2 (by decide)
              have hgu := (ints_low hO.out).2.1
              have hb : But ga w6 (w6.setCell ⟨ga, tt, none⟩ v') := (But.refl ga w6).set _ _
              have ap := hS.out.app htn AL.out.drew (v' := v') (x := (j : Int)) (by rw [hPR, hPJ]; exact o6) (by rw [hAV]; exact g6) (by rw [hAV]; exact l6) hgl
              rw [hPR, hPJ] at ap
              have blk : ∀ k, k < wr.heap.size → AV.ownBlock ≠ some k → w6.heap[k]? = wr.heap[k]? := fun k hk hne => (g6.block k (Nat.lt_of_lt_of_le hk hsz) (fun e => hne e.symm)).trans (AL.out.drew.block k hk)
              have gub : AV.ownBlock ≠ some gu := by rw [← hAV]; exact hG.out tt htn
              refine ⟨⟨⟨ap.1, fun t ht => ?_, ⟨(ap.2.block _ (by omega)).trans hX.out.1, hX.out.2.trans (ap.2.mono (by omega))⟩, ?_⟩, blk f hfw hf, (hb.block f (Nat.lt_of_lt_of_le hfw (Nat.le_trans hsz g6.size)) hfg).trans (blk f hfw hf)⟩, ?_, ?_⟩
              · by_cases e : t = tt
                · rw [if_pos e]
                  rcases l6 with l6 | l6
                  · rw [l6]; exact gub
                  · rw [l6]
                    intro e2
                    have : wr.heap.size + 1 = gu := by simpa using e2
                    omega
                · rw [if_neg e]
                  exact hG.out t ht
              · have := ((hO.out.stays AL.out.drew).kept g6 (fun e => gub (by rw [← e]; rfl))).butG hb (by simp [Value.ownBlock]; omega)
                exact this
              · rw [World.cell?_of_block (a := ⟨ga, tt, none⟩) (blk ga hgaw hga)]; exact a1
              · have h1 := (blk ga hgaw hga).trans r1
                exact (cells_of h1).2 _
            have SK : Hid (∀ (W' : World), W'.heap[f]? = wr.heap[f]? → W'.cell? ⟨f, 1, none⟩ = some (.slice (some ⟨ga, 0, none⟩) n n)) := fun W' hk => (World.cell?_of_block (a := ⟨f, 1, none⟩) hk).trans f1
            clear al
            go_upto_region 9 with fail
            refine wp_region_held_drew (S := fun W' => W'.cell? ⟨f, 1, none⟩ = some (.slice (some ⟨ga, 0, none⟩) n n)) (by kernel_rfl) (SK.out _ rfl) (fun hHeld => ?_)
            refine wpAnyH_take (i := 0) (v := (.pointer (some ⟨f, 1, none⟩))) rfl (by kernel_rfl) (by kernel_rfl) (by kernel_rfl) (fun _ _ _ h => h) (Or.inl ⟨by rfl, ?_⟩) hHeld ?_
            · (intro w hSw; (try dsimp only at hSw); go_simp)
            walk_nrm
            refine wpAnyH_take (i := 1) (v := (.slice (some ⟨ga, 0, none⟩) n n)) rfl (by kernel_rfl) (by kernel_rfl) (by kernel_rfl) (fun _ _ _ h => h) (Or.inl ⟨by rfl, ?_⟩) hHeld ?_
            · (intro w hSw; (try dsimp only at hSw); go_simp)
            walk_nrm
            refine wpAnyH_take (i := 2) (v := (.int .i64 (tt : Int))) rfl (by kernel_rfl) (by kernel_rfl) (by kernel_rfl) (fun _ _ _ h => h) (Or.inl ⟨by rfl, ?_⟩) hHeld ?_
            · (intro w hSw; (try dsimp only at hSw); go_simp)
            walk_nrm
            refine wpAnyH_take (i := 3) (v := (.pointer (some ⟨f, 1, none⟩))) rfl (by kernel_rfl) (by kernel_rfl) (by kernel_rfl) (fun _ _ _ h => h) (Or.inl ⟨by rfl, ?_⟩) hHeld ?_
            · (intro w hSw; (try dsimp only at hSw); go_simp)
            walk_nrm
            refine wpAnyH_take (i := 4) (v := (.slice (some ⟨ga, 0, none⟩) n n)) rfl (by kernel_rfl) (by kernel_rfl) (by kernel_rfl) (fun _ _ _ h => h) (Or.inl ⟨by rfl, ?_⟩) hHeld ?_
            · (intro w hSw; (try dsimp only at hSw); go_simp)
            walk_nrm
            refine wpAnyH_take (i := 5) (v := (.int .i64 (tt : Int))) rfl (by kernel_rfl) (by kernel_rfl) (by kernel_rfl) (fun _ _ _ h => h) (Or.inl ⟨by rfl, ?_⟩) hHeld ?_
            · (intro w hSw; (try dsimp only at hSw); go_simp)
            walk_nrm
            refine wpAnyH_take (i := 6) (v := (.pointer (some ⟨ga, tt, none⟩))) rfl (by kernel_rfl) (by kernel_rfl) (by kernel_rfl) (fun _ _ _ h => h) (Or.inl ⟨by rfl, ?_⟩) hHeld ?_
            · (intro w hSw; (try dsimp only at hSw); go_simp)
            walk_nrm
            refine wpAnyH_take (i := 8) (v := (.int .i64 (j : Int))) rfl (by kernel_rfl) (by kernel_rfl) (by kernel_rfl) (fun _ _ _ h => h) (Or.inl ⟨by rfl, ?_⟩) hHeld ?_
            · (intro w hSw; (try dsimp only at hSw); go_simp)
            walk_nrm
            refine wpAnyH_ready (rs := [7, 9]) (by kernel_rfl) (by simp) ?_
            refine AllReadyH.cons rfl (fun K hK => ?_) (AllReadyH.cons rfl (fun K hK => ?_) AllReadyH.nil)
            · go_simp
              refine hK.out _ _ (SK.out _ rfl) (fun hHeld => ?_)
              clear hK K
              walk_nrm
              refine wpAnyH_ready (rs := [9]) (by kernel_rfl) (by simp) ?_
              refine AllReadyH.cons rfl (fun K hK => ?_) AllReadyH.nil
              go_simp
              refine hK.out _ _ (SK.out _ (AL.out.drew.block f hfw)) (fun hHeld => ?_)
              clear hK K
              walk_nrm
              refine wpAnyH_ready (rs := [10]) (by kernel_rfl) (by simp) ?_
              refine AllReadyH.cons rfl (fun K hK => ?_) AllReadyH.nil
              refine step_appN _ rfl _ _ rfl (w.heap.size + 1) AV PR (j : Int) wr.heap.size 0 1 rfl rfl NA.out LC.out (by omega) hlo.out ?_
              intro v6 w6 o6 grow6 loc6
              rw [hPJ] at o6
              obtain ⟨g6, c6, hv6, _⟩ := id o6
              subst hv6
              obtain ⟨F6, y6, yf6⟩ := FIN.out _ w6 o6 grow6 loc6
              have K6 := hideP F6.2
              have N6 := hideP F6.1
              clear F6 o6 grow6 loc6
              refine hK.out _ _ (SK.out _ K6.out.1) (fun hHeld => ?_)
              clear hK K
              walk_nrm
              refine wpAnyH_take (i := 11) (v := (.pointer (some ⟨ga, tt, none⟩))) rfl (by kernel_rfl) (by kernel_rfl) (by kernel_rfl) (fun _ _ _ h => h) (Or.inl ⟨by rfl, ?_⟩) hHeld ?_
              · (intro w hSw; (try dsimp only at hSw); go_simp)
              walk_nrm
              refine wpAnyH_ready (rs := [12]) (by kernel_rfl) (by simp) ?_
              refine AllReadyH.cons rfl (fun K hK => ?_) AllReadyH.nil
              go_simp
              refine hK.out _ _ (SK.out _ K6.out.2) (fun hHeld => ?_)
              clear hK K
              walk_nrm
              refine wpAnyH_done (by kernel_rfl) ?_ _
              clear NA LC hlo SK FIN a1 a2 f1 x0 K6 AL
              go_wp2
              go_roundg (N2 - (r + 1))
              case rel => exact ⟨r + 1, _, _, by omega, by go_num, N6.out.1, QN.out, N6.out.2.1, N6.out.2.2.1, N6.out.2.2.2⟩
              case measure => omega
            · go_simp
              refine hK.out _ _ (SK.out _ (AL.out.drew.block f hfw)) (fun hHeld => ?_)
              clear hK K
              walk_nrm
              refine wpAnyH_ready (rs := [7]) (by kernel_rfl) (by simp) ?_
              refine AllReadyH.cons rfl (fun K hK => ?_) AllReadyH.nil
              go_simp
              refine hK.out _ _ (SK.out _ (AL.out.drew.block f hfw)) (fun hHeld => ?_)
              clear hK K
              walk_nrm
              refine wpAnyH_ready (rs := [10]) (by kernel_rfl) (by simp) ?_
              refine AllReadyH.cons rfl (fun K hK => ?_) AllReadyH.nil
              refine step_appN _ rfl _ _ rfl (w.heap.size + 1) AV PR (j : Int) wr.heap.size 0 1 rfl rfl NA.out LC.out (by omega) hlo.out ?_
              intro v6 w6 o6 grow6 loc6
              rw [hPJ] at o6
              obtain ⟨g6, c6, hv6, _⟩ := id o6
              subst hv6
              obtain ⟨F6, y6, yf6⟩ := FIN.out _ w6 o6 grow6 loc6
              have K6 := hideP F6.2
              have N6 := hideP F6.1
              clear F6 o6 grow6 loc6
              refine hK.out _ _ (SK.out _ K6.out.1) (fun hHeld => ?_)
              clear hK K
              walk_nrm
              refine wpAnyH_take (i := 11) (v := (.pointer (some ⟨ga, tt, none⟩))) rfl (by kernel_rfl) (by kernel_rfl) (by kernel_rfl) (fun _ _ _ h => h) (Or.inl ⟨by rfl, ?_⟩) hHeld ?_
              · (intro w hSw; (try dsimp only at hSw); go_simp)
              walk_nrm
              refine wpAnyH_ready (rs := [12]) (by kernel_rfl) (by simp) ?_
              refine AllReadyH.cons rfl (fun K hK => ?_) AllReadyH.nil
              go_simp
              refine hK.out _ _ (SK.out _ K6.out.2) (fun hHeld => ?_)
              clear hK K
              walk_nrm
              refine wpAnyH_done (by kernel_rfl) ?_ _
              clear NA LC hlo SK FIN a1 a2 f1 x0 K6 AL
              go_wp2
              go_roundg (N2 - (r + 1))
              case rel => exact ⟨r + 1, _, _, by omega, by go_num, N6.out.1, QN.out, N6.out.2.1, N6.out.2.2.1, N6.out.2.2.2⟩
              case measure => omega
          · have hrn : r = N2 := by omega
            subst hrn
            have PN : Hid (PreOk blocks (j + 1) pre) := fun t ht => by
              obtain ⟨l1, l2⟩ := hP.out t ht
              refine ⟨by omega, fun i => ?_⟩
              rw [l2 i, ← HN2.out, List.take_length]
              constructor
              · rintro (⟨i', h, h1, h2, h3⟩ | ⟨h1, h2⟩)
                · exact ⟨i', h, h1, by omega, h3⟩
                · exact ⟨j, hjb, h1, by omega, by rw [HNX.out]; exact h2⟩
              · rintro ⟨i', h, h1, h2, h3⟩
                by_cases e : i' < j
                · exact Or.inl ⟨i', h, h1, e, h3⟩
                · have e2 : i' = j := by omega
                  subst e2
                  exact Or.inr ⟨h1, by rw [← HNX.out]; exact h3⟩
            clear hP hG hO
            go_wp2
            go_roundg (n - (j + 1))
            case rel => exact ⟨j + 1, av, pre, ms2, by omega, by go_num, hS.out, PN.out, hX.out.1, hX.out.2⟩
            case measure => omega
      · have hjn : j = n := by omega
        subst hjn
        have E : Hid (FloMade w blocks (.slice ub j cb) (.returned (.pointer (some ⟨f, 0, none⟩))) wr) := by
          refine ⟨f, ga, gm, av, pre, ms, rfl, ?_, ?_, hE.out⟩
          · rw [HNN.out]; exact hS.out
          · rw [HNN.out]; exact hP.out
        go_wp2
        go_ret
        exact E.out
end Go.Proofs.YtelkpikbjfkpcaaGreat

/- What impl.want asks of lists: a copy, a cut, an append. -/
namespace Go.Proofs.YtelkpikbjfkpcaaGreat
open Go.ChangeShapes Go.WideShapes Go.ChangeAt Go.RowKit Go.Maps
theorem cloneN_any (l : List Int) (w : World) (lo : Nat) (v : Value) (h : NumN w lo v l) (hl : l.length ≤ 1000) :
    Calls Tryz.prog 64 #[v] w fun e w' => ∃ v', e = .returned v' ∧ NumN w' w.heap.size v' l ∧ Below w.heap.size w w' := by
  rcases h with ⟨rfl, rfl⟩ | h
  · have nl := fun W => Lib.run_eql_slice_nil (P := Tryz.prog) W 22 3 none 0 0 0 0 Tryz.underlying22
    go_enter Tryz.func64, Tryz.ntmps64
    go_wp2
    go_ret
    exact ⟨_, rfl, Or.inl ⟨rfl, rfl⟩, Below.refl _ _⟩
  · obtain ⟨g, cap, rfl, _⟩ := id h
    have nl := fun W => Lib.run_eql_slice_nil (P := Tryz.prog) W 22 3 (some ⟨g, 0, none⟩) l.length cap 0 0 Tryz.underlying22
    have al := (Below.refl w.heap.size w).alloc (Nat.le_refl _) (.cells #[] 3)
    have OA := hideP (h.stays al)
    have OL := hideP (own_lit w [] #[] w.heap.size 0 rfl rfl rfl (by simp))
    have AL := hideP al
    have CE := hideP OA.out.at
    have hsz := hideP al.size
    obtain ⟨N, hN⟩ : ∃ N, l.length = N := ⟨_, rfl⟩
    have HN := hideP hN
    rw [hN] at nl hl OA ⊢
    clear h al hN
    go_enter Tryz.func64, Tryz.ntmps64
    go_wp2_with (at_builtin; refine list_appI _ rfl _ _ rfl w.heap.size _ [] l g 0 N cap HN.out rfl rfl OL.out CE.out (by simp [HN.out]; omega) hsz.out ?_; intro v6 w6 o6 grow6 loc6)
    have O6 : Hid (OwnI w6 w.heap.size v6 l) := by show OwnI _ _ _ _; simpa using o6
    replace grow6 : (w.alloc (.cells #[] 3)).grownBy w6 (some w.heap.size) := grow6
    have B6 : Hid (Below w.heap.size w w6) := AL.out.grown grow6 AL.out.size (fun b' hb' => by injection hb' with hb'; omega)
    clear o6 grow6 loc6
    go_ret
    exact ⟨_, rfl, Or.inr O6.out, B6.out⟩
/-- The last number is cut off. -/
theorem OwnI.cut {w : World} {B g n cap : Nat} {l : List Int} (h : OwnI w B (.slice (some ⟨g, 0, none⟩) n cap) l) {m : Nat} (hm : m + 1 = l.length) : OwnI w B (.slice (some ⟨g, 0, none⟩) m cap) l.dropLast ∧ n = m + 1 ∧ m + 1 ≤ cap := by
  obtain ⟨g', cap', cur, hv, hB, hh, hc, hmx, hs, hx⟩ := h.parts
  injection hv with e1 e2 e3
  injection e1 with e1
  injection e1 with e1
  subst e1 e3
  have hdl : l.dropLast.length = m := by rw [List.length_dropLast]; omega
  have := OwnI.of_parts (l := l.dropLast) hB hh (by omega) hmx hs (fun j hj => by rw [List.getElem_dropLast]; exact hx j (by omega))
  rw [hdl] at this
  exact ⟨this, by omega, by omega⟩
theorem run_app_nil (w : World) (ty : TypeId) (g n cap : Nat) (hc : n ≤ cap) : (Builtin.append_ #[22, 22] ty #[.slice (some ⟨g, 0, none⟩) n cap, .slice none 0 0]).run Tryz.prog w = .ok (.slice (some ⟨g, 0, none⟩) n cap) w := by
  obtain ⟨i0, hi, hz0, hz1, hz2⟩ := info_parts infoInt
  have hu := Tryz.underlying22
  simp [Builtin.append_, run_underlying hu, sizeOf, typeInfo, hi, Builtin.lenOf, Builtin.firstCells, storeCells, hc]
theorem list_appM {ops : Array Oper} {o : Oper} {a : Act} {Q : Exit → Act → World → Prop} {rest : List Oper} (w : World) (hgd : o.guard = none) (s y : Operand) (ho : o.op = .call { callee := .builtin .append, args := #[s, y], argTypes := #[22, 22] })
    (B lo g n cap : Nat) (l1 l2 : List Int) (v2 : Value) (hs : a.eval s = .slice (some ⟨g, 0, none⟩) n cap) (hx : a.eval y = v2) (h1 : OwnI w B (.slice (some ⟨g, 0, none⟩) n cap) l1) (h2 : NumN w lo v2 l2) (hn : l1.length + l2.length ≤ 1000000) (hB : B ≤ w.heap.size)
    (h : ∀ g' n' c' w', OwnI w' B (.slice (some ⟨g', 0, none⟩) n' c') (l1 ++ l2) → w.grownBy w' (some g) → (g' = g ∨ g' = w.heap.size) → wpList Tryz.prog ops Q rest (a.put o.dst (.slice (some ⟨g', 0, none⟩) n' c')) w') :
    wpList Tryz.prog ops Q (o :: rest) a w := by
  refine wpList_plain hgd fun K hK => ?_
  obtain ⟨g1, cap1, cur, hv1, _, _, hc1, _⟩ := h1.parts
  injection hv1 with _ e2 e3
  rcases h2 with ⟨rfl, rfl⟩ | h2
  · have hrun := run_app_nil w o.type g n cap (by omega)
    unfold Oper.wp execOp
    simp only [ho, resolve, invoke, builtin, Sem.run_bind, Sem.run_pure, Result.andThen_ok, List.map_toArray, List.map_cons, List.map_nil, hs, hx, hrun]
    exact hK _ _ (h _ _ _ _ (by simpa using h1) (World.grownBy.refl _ _) (Or.inl rfl))
  · obtain ⟨g2, cap2, rfl, _⟩ := id h2
    obtain ⟨v', w', hr, r1, r2, r3⟩ := run_appI (cap2 := cap2) o.type h1 h2.at (by omega) hB
    obtain ⟨g', c', rfl, _⟩ := id r1
    unfold Oper.wp execOp
    simp only [ho, resolve, invoke, builtin, Sem.run_bind, Sem.run_pure, Result.andThen_ok, List.map_toArray, List.map_cons, List.map_nil, hs, hx, hr]
    refine hK _ _ (h _ _ _ _ r1 r2 ?_)
    rcases r3 with r3 | r3
    · left; simpa [Value.ownBlock] using r3
    · right; simpa [Value.ownBlock] using r3
end Go.Proofs.YtelkpikbjfkpcaaGreat

/- What impl.want does: plain. -/
namespace Go.Proofs.YtelkpikbjfkpcaaGreat
open Go.ChangeShapes Go.WideShapes Go.ChangeAt Go.RowKit Go.Maps
/-- What is told is live; and what is live behind a block that does not make it is told of those ahead of it. -/
structure LsOk (bs : List Blk) (ls : Nat → List Int) : Prop where
  sound : ∀ i, i < bs.length → ∀ s ∈ ls i, LiveB bs i s
  closed : ∀ t (ht : t < bs.length), ∀ s ∈ ls t, ¬ madeQ bs[t] s → ∀ i (hi : i < bs.length), (t : Int) ∈ nextP bs[i] → s ∈ ls i
/-- While a slot goes back along the ways: work is what is still to be looked at. -/
structure WkOk (bs : List Blk) (slot : Int) (at' : Nat) (ls0 ls : Nat → List Int) (wk : List Int) : Prop where
  sound : ∀ i, i < bs.length → ∀ s ∈ ls i, LiveB bs i s
  work : ∀ i ∈ wk, ∃ i' : Nat, i = (i' : Int) ∧ i' < bs.length ∧ LiveB bs i' slot
  closed : ∀ t (ht : t < bs.length), ∀ s ∈ ls t, ¬ madeQ bs[t] s → ∀ i (hi : i < bs.length), (t : Int) ∈ nextP bs[i] → s ∈ ls i ∨ (s = slot ∧ (i : Int) ∈ wk)
  first : ∀ i (hi : i < bs.length), (at' : Int) ∈ nextP bs[i] → slot ∈ ls i ∨ (i : Int) ∈ wk
  mono : ∀ i, ∀ s ∈ ls0 i, s ∈ ls i
theorem WkOk.start {bs : List Blk} {slot : Int} {at' : Nat} {ls : Nat → List Int} (h : LsOk bs ls) (ha : at' < bs.length) (hu : usedQ bs[at'] slot) {wk : List Int} (hw : ∀ i : Int, i ∈ wk ↔ ∃ (i' : Nat) (h : i' < bs.length), i = (i' : Int) ∧ (at' : Int) ∈ nextP bs[i']) : WkOk bs slot at' ls ls wk :=
  ⟨h.sound, fun i hi => let ⟨i', h1, h2, h3⟩ := (hw i).1 hi; ⟨i', h2, h1, .use h1 ha h3 hu⟩, fun t ht s hs hm i hi hn => Or.inl (h.closed t ht s hs hm i hi hn), fun i hi hn => Or.inr ((hw i).2 ⟨i, hi, rfl, hn⟩), fun _ _ h => h⟩
/-- It is told of that one already. -/
theorem WkOk.skip {bs : List Blk} {slot : Int} {at' : Nat} {ls0 ls : Nat → List Int} {wk : List Int} {f : Nat} (h : WkOk bs slot at' ls0 ls (wk ++ [(f : Int)])) (hf : slot ∈ ls f) : WkOk bs slot at' ls0 ls wk := by
  refine ⟨h.sound, fun i hi => h.work i (List.mem_append_left _ hi), fun t ht s hs hm i hi hn => ?_, fun i hi hn => ?_, h.mono⟩
  · rcases h.closed t ht s hs hm i hi hn with h1 | ⟨h1, h2⟩
    · exact Or.inl h1
    · rcases List.mem_append.1 h2 with h2 | h2
      · exact Or.inr ⟨h1, h2⟩
      · have e : i = f := by have := List.mem_singleton.1 h2; omega
        subst e; subst h1
        exact Or.inl hf
  · rcases h.first i hi hn with h1 | h2
    · exact Or.inl h1
    · rcases List.mem_append.1 h2 with h2 | h2
      · exact Or.inr h2
      · have e : i = f := by have := List.mem_singleton.1 h2; omega
        subst e
        exact Or.inl hf
/-- It is told of that one; and where that one does not make it, those ahead of it are looked at. -/
theorem WkOk.add {bs : List Blk} {slot : Int} {at' : Nat} {ls0 ls ls' : Nat → List Int} {wk ex : List Int} {f : Nat} (h : WkOk bs slot at' ls0 ls (wk ++ [(f : Int)])) (hfb : f < bs.length) (hl : ∀ i s, s ∈ ls' i ↔ s ∈ ls i ∨ (i = f ∧ s = slot))
    (hx : (ex = [] ∧ madeQ bs[f] slot) ∨ (¬ madeQ bs[f] slot ∧ ∀ i : Int, i ∈ ex ↔ ∃ (i' : Nat) (h : i' < bs.length), i = (i' : Int) ∧ (f : Int) ∈ nextP bs[i'])) : WkOk bs slot at' ls0 ls' (wk ++ ex) := by
  have hlf : LiveB bs f slot := by
    obtain ⟨i', e, _, h1⟩ := h.work (f : Int) (by simp)
    have : i' = f := by omega
    subst this; exact h1
  refine ⟨fun i hi s hs => ?_, fun i hi => ?_, fun t ht s hs hm i hi hn => ?_, fun i hi hn => ?_, fun i s hs => (hl i s).2 (Or.inl (h.mono i s hs))⟩
  · rcases (hl i s).1 hs with h1 | ⟨rfl, rfl⟩
    · exact h.sound i hi s h1
    · exact hlf
  · rcases List.mem_append.1 hi with hi | hi
    · exact h.work i (List.mem_append_left _ hi)
    · rcases hx with ⟨rfl, _⟩ | ⟨hm, hx⟩
      · simp at hi
      · obtain ⟨i', h1, h2, h3⟩ := (hx i).1 hi
        exact ⟨i', h2, h1, .on h1 hfb h3 hlf hm⟩
  · have key : s ∈ ls t → s ∈ ls' i ∨ (s = slot ∧ (i : Int) ∈ wk ++ ex) := fun h0 => by
      rcases h.closed t ht s h0 hm i hi hn with h1 | ⟨h1, h2⟩
      · exact Or.inl ((hl i s).2 (Or.inl h1))
      · rcases List.mem_append.1 h2 with h2 | h2
        · exact Or.inr ⟨h1, List.mem_append_left _ h2⟩
        · have e : i = f := by have := List.mem_singleton.1 h2; omega
          exact Or.inl ((hl i s).2 (Or.inr ⟨e, h1⟩))
    rcases (hl t s).1 hs with h0 | ⟨rfl, rfl⟩
    · exact key h0
    · rcases hx with ⟨_, hm2⟩ | ⟨_, hx⟩
      · exact absurd hm2 hm
      · exact Or.inr ⟨rfl, List.mem_append_right _ ((hx i).2 ⟨i, hi, rfl, hn⟩)⟩
  · rcases h.first i hi hn with h1 | h2
    · exact Or.inl ((hl i slot).2 (Or.inl h1))
    · rcases List.mem_append.1 h2 with h2 | h2
      · exact Or.inr (List.mem_append_left _ h2)
      · have e : i = f := by have := List.mem_singleton.1 h2; omega
        exact Or.inl ((hl i slot).2 (Or.inr ⟨e, rfl⟩))
theorem WkOk.done {bs : List Blk} {slot : Int} {at' : Nat} {ls0 ls : Nat → List Int} (h : WkOk bs slot at' ls0 ls []) : LsOk bs ls ∧ (∀ i (_ : i < bs.length), (at' : Int) ∈ nextP bs[i] → slot ∈ ls i) ∧ ∀ i, ∀ s ∈ ls0 i, s ∈ ls i :=
  ⟨⟨h.sound, fun t ht s hs hm i hi hn => (h.closed t ht s hs hm i hi hn).elim id (fun h => by simp at h)⟩, fun i hi hn => (h.first i hi hn).elim id (fun h => by simp at h), h.mono⟩
open Classical in
/-- Of how many blocks it is not told yet. -/
noncomputable def cntN (n : Nat) (slot : Int) (ls : Nat → List Int) : Nat := (List.range n).countP fun i => decide (¬ slot ∈ ls i)
theorem cntN_lt {n : Nat} {slot : Int} {ls ls' : Nat → List Int} {f : Nat} (hf : f < n) (hno : ¬ slot ∈ ls f) (hl : ∀ i s, s ∈ ls' i ↔ s ∈ ls i ∨ (i = f ∧ s = slot)) : cntN n slot ls' < cntN n slot ls := by
  unfold cntN
  refine countP_lt _ (fun i _ hq => ?_) ⟨f, List.mem_range.2 hf, by simpa using hno, by simp [hl]⟩
  simp only [decide_eq_true_eq] at *
  exact fun h => hq ((hl i slot).2 (Or.inl h))
end Go.Proofs.YtelkpikbjfkpcaaGreat

/- The contract of (*impl.flow).want. -/
namespace Go.Proofs.YtelkpikbjfkpcaaGreat
open Go.ChangeShapes Go.WideShapes Go.ChangeAt Go.RowKit Go.Maps
/-- w' is w but for the sets and for what is new. -/
structure ButS (n : Nat) (ms : Nat → Nat) (w w' : World) : Prop where
  os : w'.os = w.os
  tape : w'.tape = w.tape
  output : w'.output = w.output
  size : w.heap.size ≤ w'.heap.size
  block : ∀ k, k < w.heap.size → (∀ i, i < n → k ≠ ms i) → w'.heap[k]? = w.heap[k]?
theorem ButS.refl (n : Nat) (ms : Nat → Nat) (w : World) : ButS n ms w w := ⟨rfl, rfl, rfl, Nat.le_refl _, fun _ _ _ => rfl⟩
theorem ButS.on {n : Nat} {ms : Nat → Nat} {w w1 w2 : World} (h : ButS n ms w w1) (b : Below w1.heap.size w1 w2) : ButS n ms w w2 :=
  ⟨b.os.trans h.os, b.tape.trans h.tape, b.output.trans h.output, Nat.le_trans h.size b.size, fun k hk hne => (b.block k (Nat.lt_of_lt_of_le hk h.size)).trans (h.block k hk hne)⟩
theorem ButS.set {n : Nat} {ms : Nat → Nat} {w w1 w2 : World} (h : ButS n ms w w1) {i : Nat} (hi : i < n) (b : But (ms i) w1 w2) : ButS n ms w w2 :=
  ⟨b.os.trans h.os, b.tape.trans h.tape, b.output.trans h.output, Nat.le_trans h.size b.size, fun k hk hne => (b.block k (Nat.lt_of_lt_of_le hk h.size) (hne i hi)).trans (h.block k hk hne)⟩
theorem ButS.new {n : Nat} {ms : Nat → Nat} {w w1 w2 : World} (h : ButS n ms w w1) {g : Nat} (hg : w.heap.size ≤ g) (b : w1.grownBy w2 (some g)) : ButS n ms w w2 :=
  ⟨b.os.trans h.os, b.tape.trans h.tape, b.output.trans h.output, Nat.le_trans h.size b.size, fun k hk hne => (b.block k (Nat.lt_of_lt_of_le hk h.size) (by simp; omega)).trans (h.block k hk hne)⟩
theorem ButS.below {n lo : Nat} {ms : Nat → Nat} {w w' : World} (h : ButS n ms w w') (hm : ∀ i, i < n → lo ≤ ms i) (hl : lo ≤ w.heap.size) : Below lo w w' :=
  ⟨h.os, h.tape, h.output, h.size, fun k hk => h.block k (by omega) (fun i hi => by have := hm i hi; omega)⟩
theorem ButS.keep {n : Nat} {ms : Nat → Nat} {w w' : World} (h : ButS n ms w w') {b : Nat} {o : Obj} (hb : w.heap[b]? = some o) (hne : ∀ i, i < n → b ≠ ms i) : w'.heap[b]? = some o := (h.block b (hltP hb) hne).trans hb
theorem cntN_le (n : Nat) (slot : Int) (ls : Nat → List Int) : cntN n slot ls ≤ n := by
  unfold cntN
  exact Nat.le_trans List.countP_le_length (by simp)
theorem FlAt.put {lo n f ga gm : Nat} {vb : Value} {av : Nat → Value} {pre : Nat → List Int} {ms : Nat → Nat} {c c' : Nat → Nat} {ls ls' : Nat → List Int} {W W' : World} (h : FlAt lo n f ga gm vb av pre ms n c ls W) {i : Nat} (hi : i < n) (hb : But (ms i) W W') (hs : SetIs InK W' (ms i) (c' i) (ls' i)) (e : ∀ j, j ≠ i → c' j = c j ∧ ls' j = ls j) : FlAt lo n f ga gm vb av pre ms n c' ls' W' := by
  obtain ⟨es, cl, hm⟩ := (h.bh.set i hi).1.isMap
  refine ⟨hb.keepB h.fl (fun e => ?_), h.ah.other hb (fun c T hc _ => ?_), h.bh.put hi hb hs e, h.lof⟩
  · have := h.fl
    rw [e, hm] at this; cases this
  · rw [hm] at hc; cases hc
theorem FlAt.grown {lo n f ga gm : Nat} {vb : Value} {av : Nat → Value} {pre : Nat → List Int} {ms : Nat → Nat} {k : Nat} {c : Nat → Nat} {ls : Nat → List Int} {W W' : World} (h : FlAt lo n f ga gm vb av pre ms k c ls W) {g M : Nat} (hg : W.grownBy W' (some g)) (hM : M ≤ g) (hf : f < M ∧ ga < M ∧ gm < M) (ha : ∀ t, t < n → ∀ b, (av t).ownBlock = some b → b < M) (hs : ∀ i, i < k → ms i < M) : FlAt lo n f ga gm vb av pre ms k c ls W' := by
  have blk : ∀ b, b < M → b < W.heap.size → W'.heap[b]? = W.heap[b]? := fun b h1 h2 => hg.block b h2 (by simp; omega)
  obtain ⟨cur, r1, r2⟩ := h.ah.row
  obtain ⟨cur2, s1, s2⟩ := h.bh.row
  exact ⟨(blk f hf.1 (hltP h.fl)).trans h.fl, ⟨⟨cur, (blk ga hf.2.1 (hltP r1)).trans r1, r2⟩, fun t ht => (h.ah.own t ht).keep (fun b hb hlt => blk b (ha t ht b hb) hlt), h.ah.dis⟩, ⟨⟨cur2, (blk gm hf.2.2 (hltP s1)).trans s1, s2⟩, fun i hi => ⟨(h.bh.set i hi).1.blk (blk _ (hs i hi) (h.bh.set i hi).1.lt), (h.bh.set i hi).2⟩, h.bh.dis⟩, h.lof⟩
theorem FlAt.up {lo n f ga gm : Nat} {vb : Value} {av : Nat → Value} {pre : Nat → List Int} {ms : Nat → Nat} {k : Nat} {c c' : Nat → Nat} {ls : Nat → List Int} {W : World} (h : FlAt lo n f ga gm vb av pre ms k c ls W) (hc : ∀ i, i < k → c i ≤ c' i) : FlAt lo n f ga gm vb av pre ms k c' ls W :=
  ⟨h.fl, h.ah, ⟨h.bh.row, fun i hi => ⟨(h.bh.set i hi).1.up (hc i hi), (h.bh.set i hi).2⟩, h.bh.dis⟩, h.lof⟩
def WantD (lo n f ga gm : Nat) (vb : Value) (av : Nat → Value) (pre : Nat → List Int) (ms : Nat → Nat) (C : Nat) (bs : List Blk) (slot : Int) (at' : Nat) (ls : Nat → List Int) (w : World) (e : Ending) (w' : World) : Prop :=
  e = .returned (.tuple #[]) ∧ ∃ ls', FlAt lo n f ga gm vb av pre ms n (fun _ => C + 1) ls' w' ∧ LsOk bs ls' ∧ (∀ i (_ : i < bs.length), (at' : Int) ∈ nextP bs[i] → slot ∈ ls' i) ∧ (∀ i, ∀ s ∈ ls i, s ∈ ls' i) ∧ ButS n ms w w'
set_option maxRecDepth 100000 in
set_option maxHeartbeats 16000000 in
theorem want_any (bs : List Blk) (V : Nat) (w0 w : World) (B lo f ga gm : Nat) (ub : Option Addr) (cb : Nat) (av : Nat → Value) (pre : Nat → List Int) (ms : Nat → Nat) (C : Nat) (ls : Nat → List Int) (slot : Int) (at' : Nat)
    (hbb : SlIs BlkIs 5 w0 B ub bs) (h0 : Below w0.heap.size w0 w) (hlo0 : w0.heap.size ≤ lo) (hlo : lo ≤ w.heap.size) (hn : bs.length ≤ 300) (hcl : ∀ b ∈ bs, b.code.length ≤ 1000) (ok : BsOk V bs) (hV : V ≤ 1000)
    (h : FlAt lo bs.length f ga gm (.slice ub bs.length cb) av pre ms bs.length (fun _ => C) ls w) (hp : PreOk bs bs.length pre) (hl : LsOk bs ls) (ha : at' < bs.length) (hu : usedQ bs[at'] slot) (hC : C ≤ 10000000) :
    Calls Tryz.prog 92 #[.pointer (some ⟨f, 0, none⟩), .int .i64 slot, .int .i64 (at' : Nat)] w fun e w' => WantD lo bs.length f ga gm (.slice ub bs.length cb) av pre ms C bs slot at' ls w e w' := by
  have hslot : I64 slot := slot_i64 hV (used_slot ok (List.getElem_mem ha) hu)
  have HSL := hideP hslot
  have HBB := hideP hbb
  have H0 := hideP h0
  have HCL := hideP hcl
  have HOK := hideP ok
  have HP := hideP hp
  have PRE : Hid (∀ t (ht : t < bs.length), (pre t).length ≤ 600 ∧ ∀ i : Int, i ∈ pre t ↔ ∃ (i' : Nat) (h : i' < bs.length), i = (i' : Int) ∧ (t : Int) ∈ nextP bs[i']) := fun t ht => ⟨by have := (hp t ht).1; omega, fun i => ((hp t ht).2 i).trans ⟨fun ⟨i', h, h1, _, h3⟩ => ⟨i', h, h1, h3⟩, fun ⟨i', h, h1, h3⟩ => ⟨i', h, h1, h, h3⟩⟩⟩
  have MS : Hid (f < w.heap.size ∧ ga < w.heap.size ∧ gm < w.heap.size ∧ (∀ t, t < bs.length → ∀ b, (av t).ownBlock = some b → b < w.heap.size) ∧ ∀ i, i < bs.length → ms i < w.heap.size ∧ lo ≤ ms i) := by
    obtain ⟨_, r1, _⟩ := h.ah.row
    obtain ⟨_, r2, _⟩ := h.bh.row
    exact ⟨hltP h.fl, hltP r1, hltP r2, fun t ht b hb => ((h.ah.own t ht).low b hb).2.1, fun i hi => ⟨(h.bh.set i hi).1.lt, (h.bh.set i hi).2⟩⟩
  have CL := hideP (cloneN_any (pre at') w lo (av at') (h.ah.own at' ha) (by have := (PRE.out at' ha).1; omega))
  have W0 := hideP (fun wk hw => WkOk.start (wk := wk) hl ha hu hw)
  have f1 := (cells_of h.fl).1 1
  have a1 := (h.ah.at ha).1
  simp at f1
  have HF := hideP h
  have HA := hideP ha
  obtain ⟨n, hnn⟩ : ∃ n, bs.length = n := ⟨_, rfl⟩
  have HNN := hideP hnn
  rw [hnn] at HF f1 hn ha MS ⊢
  clear hbb h0 hcl ok hp h hl hu hnn hslot
  go_enter Tryz.func92, Tryz.ntmps92
  go_wp2
  go_step3
  go_wp2_with fail
  refine CL.out.mono ?_
  rintro e1 w1 ⟨v1, rfl, o1, b1⟩
  have S1 := hideP (HF.out.stays b1)
  have O1 := hideP o1
  have B1 := hideP ((ButS.refl n ms w).on b1)
  have K1 := hideP (W0.out (pre at') (PRE.out at' HA.out).2)
  clear o1 b1 CL W0 HF f1 a1
  go_wp2
  go_step3
  go_wp2
  go_loopg [6] (1000 * cntN n slot ls + (pre at').length) (fun gk v wr => ∃ (wk : List Int) (ls1 : Nat → List Int) (c1 : Nat → Nat), gk = 1000 * cntN n slot ls1 + wk.length ∧ Hid (NumN wr w.heap.size v wk) ∧ Hid (FlAt lo n f ga gm (.slice ub n cb) av pre ms n c1 ls1 wr) ∧ Hid (WkOk bs slot at' ls ls1 wk) ∧ Hid (∀ i, c1 i ≤ C + 1 ∧ (¬ slot ∈ ls1 i → c1 i ≤ C)) ∧ Hid (ButS n ms w wr) ∧ Hid (wk.length + 600 * cntN n slot ls1 ≤ 600 * (n + 1)))
  case atStart => exact ⟨pre at', ls, fun _ => C, rfl, O1.out, S1.out, K1.out, fun _ => ⟨Nat.le_succ C, fun _ => Nat.le_refl C⟩, B1.out, by show _ ≤ _; have := (PRE.out at' HA.out).1; have := cntN_le n slot ls; omega⟩
  case round =>
    obtain ⟨wk, ls1, c1, hgk, hO, hS, hK, hC1, hB, hwl⟩ := hrel
    clear O1 S1 K1 B1
    by_cases hw0 : wk = []
    · subst hw0
      have E : Hid (WantD lo n f ga gm (.slice ub n cb) av pre ms C bs slot at' ls w (.returned (.tuple #[])) wr) := by
        obtain ⟨d1, d2, d3⟩ := hK.out.done
        exact ⟨rfl, ls1, hS.out.up (fun i _ => (hC1.out i).1), d1, d2, d3, hB.out⟩
      rcases hO.out with ⟨hv, _⟩ | ho
      · subst hv
        go_wp2
        go_end0
        exact E.out
      · obtain ⟨gw, cw, hv, _⟩ := id ho
        subst hv
        simp only [List.length_nil]
        go_wp2
        go_end0
        exact E.out
    · obtain ⟨wk', z, hwz⟩ : ∃ wk' z, wk = wk' ++ [z] := ⟨wk.dropLast, wk.getLast hw0, (List.dropLast_concat_getLast hw0).symm⟩
      subst hwz
      have ho : OwnI wr w.heap.size u6 (wk' ++ [z]) := by
        rcases hO.out with ⟨_, e⟩ | ho
        · simp at e
        · exact ho
      obtain ⟨fr, hfr, hfb, _⟩ := hK.out.work z (by simp)
      subst hfr
      have hfn : fr < n := by rw [← HNN.out]; exact hfb
      obtain ⟨gw, cw, hv, _⟩ := id ho
      obtain ⟨m, hm⟩ : ∃ m, wk'.length = m := ⟨_, rfl⟩
      have hlen : (wk' ++ [(fr : Int)]).length = m + 1 := by rw [List.length_append, List.length_singleton, hm]
      rw [hlen] at hv hgk hwl
      subst hv
      have hcut := ho.cut (m := m) hlen.symm
      rw [List.dropLast_concat] at hcut
      have x0 : wr.cell? ⟨gw, m, none⟩ = some (.int .i64 (fr : Int)) := by
        have := ints_at ho m (by omega)
        rw [List.getElem_append_right (by omega)] at this
        simpa [hm] using this
      have hgw := (ints_low ho).1
      have OC := hideP hcut.1
      have hmc : (m : Int) + 1 ≤ (cw : Int) := by have := hcut.2.2; omega
      have hmc2 : (m : Int) ≤ (cw : Int) := by omega
      have hm0 : (0 : Int) ≤ (m : Int) := by omega
      have hmb : m ≤ 301000 := by have := hwl.out; omega
      have HWL := hideP hwl.out
      have f2 := (cells_of hS.out.fl).1 2
      simp at f2
      have g2 := hS.out.bh.at hfn
      obtain ⟨mf, hmf⟩ : ∃ mf, ms fr = mf := ⟨_, rfl⟩
      have HMF := hideP hmf
      have sf := (hS.out.bh.set fr hfn).1
      have HH := hideP (hasI_any (ls1 fr) slot wr (ms fr) (c1 fr) sf HSL.out)
      rw [hmf] at g2 HH
      obtain ⟨hb, hhb⟩ : ∃ hb, inL (ls1 fr) slot = hb := ⟨_, rfl⟩
      have HHB := hideP hhb
      rw [hhb] at HH
      clear hcut hO ho hlen hmf hhb sf hw0
      go_wp2_with fail
      refine HH.out.mono ?_
      rintro e3 w3 ⟨rfl, b3⟩
      have S3 := hideP (hS.out.stays b3)
      have B3 := hideP (hB.out.on b3)
      have O3 := hideP (OC.out.stays b3)
      clear b3 HH hS hB OC x0 f2 g2 hmc hmc2 hm0
      cases hb with
      | true =>
        have K4 : Hid (WkOk bs slot at' ls ls1 wk') := hK.out.skip (inL_iff.1 HHB.out)
        clear hK
        go_wp2
        go_roundg (1000 * cntN n slot ls1 + wk'.length)
        case rel => exact ⟨wk', ls1, c1, rfl, Or.inr O3.out, S3.out, K4.out, hC1.out, B3.out, by show _ ≤ _; have := HWL.out; omega⟩
        case measure => omega
      | false =>
        have NIN : ¬ slot ∈ ls1 fr := fun h => by have := inL_iff.2 h; rw [HHB.out] at this; cases this
        have al := (Below.refl w3.heap.size w3).alloc (Nat.le_refl _) (.cells #[.int .i64 slot] 3)
        have OL := own_lit w3 [slot] #[.int .i64 slot] w3.heap.size 1 rfl rfl rfl (by simp)
        have sf := (S3.out.bh.set fr hfn).1
        rw [HMF.out] at sf
        have AD := hideP (addI_any (ls1 fr) [slot] (w3.alloc (.cells #[.int .i64 slot] 3)) mf (c1 fr) _ _ (sf.stays al) OL (fun s hs => by rw [List.mem_singleton.1 hs]; exact HSL.out) (by have := (hC1.out fr).1; omega) (by simp))
        have S4 := hideP (S3.out.stays al)
        have B4 := hideP (B3.out.on al)
        have O4 := hideP (O3.out.stays al)
        have f2 := (cells_of S3.out.fl).1 2
        simp at f2
        have g2 := S3.out.bh.at hfn
        rw [HMF.out] at g2
        clear al OL sf S3 B3 O3
        go_wp2_with fail
        refine AD.out.mono ?_
        rintro e5 w5 ⟨rfl, s5, b5⟩
        obtain ⟨ls2, hls2⟩ : ∃ ls2 : Nat → List Int, ls2 = fun i => if i = fr then ls1 fr ++ [slot] else ls1 i := ⟨_, rfl⟩
        obtain ⟨c2, hc2⟩ : ∃ c2 : Nat → Nat, c2 = fun i => if i = fr then c1 fr + 1 else c1 i := ⟨_, rfl⟩
        have hb5 : But (ms fr) (w3.alloc (.cells #[.int .i64 slot] 3)) w5 := by rw [HMF.out]; exact b5
        have S5 : Hid (FlAt lo n f ga gm (.slice ub n cb) av pre ms n c2 ls2 w5) := S4.out.put hfn hb5 (by rw [hc2, hls2, HMF.out]; simpa using s5) (fun j hj => by rw [hc2, hls2]; simp [hj])
        have LS : Hid (∀ i s, s ∈ ls2 i ↔ s ∈ ls1 i ∨ (i = fr ∧ s = slot)) := fun i s => by
          rw [hls2]
          by_cases e : i = fr
          · subst e; simp
          · simp [e]
        have C2 : Hid (∀ i, c2 i ≤ C + 1 ∧ (¬ slot ∈ ls2 i → c2 i ≤ C)) := fun i => by
          rw [hc2, hls2]
          by_cases e : i = fr
          · subst e
            have := (hC1.out i).2 NIN
            simp; omega
          · simp only [if_neg e]; exact hC1.out i
        have B5 := hideP (B4.out.set hfn hb5)
        have O5 := hideP (O4.out.butG b5 (by
          have h1 := (MS.out.2.2.2.2 fr hfn).1
          rw [HMF.out] at h1
          simp [Value.ownBlock]; omega))
        have CN : Hid (cntN n slot ls2 < cntN n slot ls1) := cntN_lt hfn NIN LS.out
        clear AD s5 b5 hb5 S4 B4 O4 hls2 hc2 NIN hC1 f2 g2
        obtain ⟨bb, oo, code, jump, a, t0, els, uc, kc, hub, _, hbl, he, q0, q1, q2, q3, q4, hbk⟩ := Blk_get HBB.out fr hfb
        subst hub
        have hE5 : Below w0.heap.size w0 w5 := H0.out.trans ((B5.out.below (fun i hi => (MS.out.2.2.2.2 i hi).2) hlo).mono hlo0)
        have y0 := (hE5.cell (p := ⟨bb, _, none⟩) hbl).trans q0
        obtain ⟨ucx, ccx, hvx, _, hcode⟩ := hbk
        have hux : uc = ucx := by
          simp only at hvx
          exact (slice_inj (five_inj hvx).1).1
        subst hux
        simp only at hcode
        have HC := hideP hcode
        have hcl := HCL.out _ (List.getElem_mem hfb)
        have hcd := HOK.out.code _ (List.getElem_mem hfb)
        rw [he] at hcl hcd
        have HE := hideP he
        have E5 := hideP hE5
        have MQ : Hid (∀ x ∈ code, makesP x = slot → madeQ bs[fr] slot) := fun x hx e => by rw [he]; exact ⟨x, hx, e⟩
        have NQ : Hid ((∀ x ∈ code, makesP x ≠ slot) → ¬ madeQ bs[fr] slot) := fun h => by rw [he]; rintro ⟨x, hx, e⟩; exact h x hx e
        have K0 := hideP (fun ex hx => hK.out.add (ex := ex) hfb LS.out hx)
        simp only at hcl
        have f0 := (cells_of S5.out.fl).1 0
        simp at f0
        obtain ⟨N, hN⟩ : ∃ N, code.length = N := ⟨_, rfl⟩
        have HN := hideP hN
        rw [hN] at hcl y0
        clear hvx hcode q0 q1 q2 q3 q4 he hE5 hK hN hcd
        go_wp2
        clear f0 y0
        go_loopg [60] N (fun gk2 ix wr => ∃ k : Nat, gk2 + k = N ∧ ix = .int .i64 k ∧ Hid (∀ x ∈ code.take k, makesP x ≠ slot) ∧ Hid (Below w5.heap.size w5 wr))
        case atStart => exact ⟨0, by simp, rfl, fun x hx => by simp at hx, Below.refl _ _⟩
        case round =>
          obtain ⟨k, hk, rfl, hno, hb⟩ := hrel
          by_cases hkl : k < N
          · have hkc : k < code.length := by rw [HN.out]; exact hkl
            obtain ⟨bb3, oo3, op, d, a2, b0, c0, nn, t, hu, _, hbl3, hex, x0, x1, x2, x3, x4, x5, x6, hins⟩ := Ins_get (HC.out.stays InsKeeps (below_trans E5.out hb.out)) k hkc
            subst hu
            have MK : Hid (∀ W, Calls Tryz.prog 106 #[.agg #[.int .i64 op, .int .i64 d, .int .i64 a2, .int .i64 b0, .int .i64 c0, .int .i64 nn, .string t]] W fun e w' => e = .returned (.int .i64 (makesP ⟨op, d, a2, b0, c0, nn, t⟩)) ∧ Below W.heap.size W w') := fun W => impl_makes ⟨op, d, a2, b0, c0, nn, t⟩ W 0 _ ⟨rfl, hins.2⟩
            have al := (Below.refl wr.heap.size wr).alloc (Nat.le_refl _) (.cells #[.int .i64 op, .int .i64 d, .int .i64 a2, .int .i64 b0, .int .i64 c0, .int .i64 nn, .string t] 56)
            have BA := hideP (below_trans hb.out al)
            have XB := hideP (newB8 wr (.cells #[.int .i64 op, .int .i64 d, .int .i64 a2, .int .i64 b0, .int .i64 c0, .int .i64 nn, .string t] 56))
            have HX : Hid (code[k] = ⟨op, d, a2, b0, c0, nn, t⟩) := hex
            clear hins al hb hex
            go_upto_region 10 with fail
            obtain ⟨wx, hwx⟩ : ∃ wx, wr.alloc (.cells #[.int .i64 op, .int .i64 d, .int .i64 a2, .int .i64 b0, .int .i64 c0, .int .i64 nn, .string t] 56) = wx := ⟨_, rfl⟩
            rw [hwx] at BA XB ⊢
            clear hwx x0 x1 x2 x3 x4 x5 x6
            have z := (cells_of XB.out).1
            have z0 := z 0
            have z1 := z 1
            have z2 := z 2
            have z3 := z 3
            have z4 := z 4
            have z5 := z 5
            have z6 := z 6
            simp at z0 z1 z2 z3 z4 z5 z6
            clear z
            obtain ⟨mk, hmk⟩ : ∃ mk, makesP ⟨op, d, a2, b0, c0, nn, t⟩ = mk := ⟨_, rfl⟩
            have HMK := hideP hmk
            rw [hmk] at MK
            clear hmk
            go_wp2_with fail
            refine (MK.out _).mono ?_
            rintro e6 w6 ⟨rfl, b6⟩
            have B6 := hideP (below_trans BA.out b6)
            clear b6 BA XB z0 z1 z2 z3 z4 z5 z6 MK
            by_cases hmk : mk = slot
            · have K6 : Hid (WkOk bs slot at' ls ls2 wk') := by
                have := K0.out [] (Or.inl ⟨rfl, MQ.out _ (List.getElem_mem hkc) (by rw [HX.out, HMK.out]; exact hmk)⟩)
                rw [List.append_nil] at this
                exact this
              have S6 := hideP (S5.out.stays B6.out)
              have O6 := hideP (O5.out.stays B6.out)
              have BB6 := hideP (B5.out.on B6.out)
              subst hmk
              clear hno
              go_wp2
              go_roundg (1000 * cntN n mk ls2 + wk'.length)
              case rel => exact ⟨wk', ls2, c2, rfl, Or.inr O6.out, S6.out, K6.out, C2.out, BB6.out, by show _ ≤ _; have := HWL.out; have := CN.out; omega⟩
              case measure => have := CN.out; omega
            · have hmkb : (mk == slot) = false := by simpa using hmk
              have NO : Hid (∀ x ∈ code.take (k + 1), makesP x ≠ slot) := fun x hx => by
                rw [List.take_succ_eq_append_getElem hkc, List.mem_append, List.mem_singleton] at hx
                rcases hx with hx | hx
                · exact hno.out x hx
                · rw [hx, HX.out, HMK.out]; exact hmk
              clear hno
              go_wp2
              go_roundg (N - (k + 1))
              case rel => exact ⟨k + 1, by omega, by go_num, NO.out, B6.out⟩
              case measure => omega
          · have hkn : k = N := by omega
            subst hkn
            have NM : ¬ madeQ bs[fr] slot := NQ.out (fun x hx => by
              have := hno.out
              rw [← HN.out, List.take_length] at this
              exact this x hx)
            have K6 : Hid (WkOk bs slot at' ls ls2 (wk' ++ pre fr)) := K0.out (pre fr) (Or.inr ⟨NM, (PRE.out fr hfb).2⟩)
            have S6 := hideP (S5.out.stays hb.out)
            have O6 := hideP (O5.out.stays hb.out)
            have BB6 := hideP (B5.out.on hb.out)
            have f1 := (cells_of S6.out.fl).1 1
            simp at f1
            have a1 := (S6.out.ah.at hfn).1
            have NU := hideP (S6.out.ah.own fr hfn)
            have PL := (PRE.out fr hfb).1
            have hsz := hideP BB6.out.size
            obtain ⟨AV, hAV⟩ : ∃ AV, av fr = AV := ⟨_, rfl⟩
            rw [hAV] at a1 NU
            have AP : Hid (∀ W', wr.grownBy W' (some gw) → FlAt lo n f ga gm (.slice (some ⟨bb, oo, none⟩) n cb) av pre ms n c2 ls2 W' ∧ ButS n ms w W') := fun W' hg => ⟨S6.out.grown hg hgw ⟨MS.out.1, MS.out.2.1, MS.out.2.2.1⟩ MS.out.2.2.2.1 (fun i hi => (MS.out.2.2.2.2 i hi).1), BB6.out.new hgw hg⟩
            clear hno NM K0 MQ NQ hAV
            go_wp2_with (at_builtin; refine list_appM _ rfl _ _ rfl w.heap.size lo gw m cw wk' (pre fr) AV rfl rfl O6.out NU.out (by omega) hsz.out ?_; intro g7 n7 c7 w7 o7 grow7 loc7)
            have F7 := hideP (AP.out w7 grow7)
            have O7 := hideP o7
            have LW : Hid ((wk' ++ pre fr).length + 600 * cntN n slot ls2 ≤ 600 * (n + 1)) := by
              show _ ≤ _
              have := HWL.out
              have := CN.out
              rw [List.length_append]
              omega
            have LG : Hid (1000 * cntN n slot ls2 + (wk' ++ pre fr).length < 1000 * cntN n slot ls1 + (m + 1)) := by
              show _ < _
              have := CN.out
              rw [List.length_append]
              omega
            clear o7 grow7 loc7 AP O6 NU f1 a1 S6 BB6
            go_wp2
            go_roundg (1000 * cntN n slot ls2 + (wk' ++ pre fr).length)
            case rel => exact ⟨wk' ++ pre fr, ls2, c2, rfl, Or.inr O7.out, F7.out.1, K6.out, C2.out, F7.out.2, LW.out⟩
            case measure => have := LG.out; omega
end Go.Proofs.YtelkpikbjfkpcaaGreat

/- The contract of impl.liveBehind. -/
namespace Go.Proofs.YtelkpikbjfkpcaaGreat
open Go.ChangeShapes Go.WideShapes Go.ChangeAt Go.RowKit Go.Maps
theorem code_le8 {b : Blk} : ∀ {bs : List Blk}, b ∈ bs → b.code.length ≤ (codeAll bs).length
  | c :: bs, h => by
    have e : codeAll (c :: bs) = c.code ++ codeAll bs := rfl
    rw [e, List.length_append]
    rcases List.mem_cons.1 h with h | h
    · subst h; omega
    · have := code_le8 h; omega
theorem ranges_cnt {R : Value → Option (DataW Unit × List MemPlace)} {w : World} {k : TypeId} {b r n cnt : Nat} {D : DataW Unit} {left : Lit → Bool} (h : w.ranges Tryz.prog k R b r n D left cnt) : cnt ≤ n := by
  obtain ⟨es, clock, since, seen, c0, _, _, hs, _, _, _, hc, _⟩ := h
  have : (leftOf es seen).size ≤ es.size := by unfold leftOf; exact Array.size_filter_le
  omega
theorem ranges_butS {R : Value → Option (DataW Unit × List MemPlace)} {w w' : World} {k : TypeId} {b r n cnt m : Nat} {ms : Nat → Nat} {D : DataW Unit} {left : Lit → Bool} (h : w.ranges Tryz.prog k R b r n D left cnt) (hb : ButS m ms w w') (h1 : ∀ i, i < m → ms i < b) (h2 : ∀ i, i < m → ms i < r) : w'.ranges Tryz.prog k R b r n D left cnt := by
  have l1 := h.owns.lt
  have l2 := h.lt
  obtain ⟨es, clock, since, seen, c0, hb1, F, hs, hD, hr, rest⟩ := h
  exact ⟨es, clock, since, seen, c0, (hb.block b l1 (fun i hi => by have := h1 i hi; omega)).trans hb1, F, hs, hD, (hb.block r l2 (fun i hi => by have := h2 i hi; omega)).trans hr, rest⟩
/-- What is live behind block t is told of each block that goes there. -/
def TldOf (bs : List Blk) (ls : Nat → List Int) (t : Nat) (s : Int) : Prop := ∀ i (_ : i < bs.length), (t : Int) ∈ nextP bs[i] → s ∈ ls i
theorem ls_live {bs : List Blk} {ls : Nat → List Int} (h : LsOk bs ls) (hp : ∀ t (_ : t < bs.length), ∀ s, usedQ bs[t] s → TldOf bs ls t s) {i : Nat} (hi : i < bs.length) (s : Int) : s ∈ ls i ↔ LiveB bs i s := by
  refine ⟨h.sound i hi s, fun hl => ?_⟩
  refine live_all (P := fun i s => s ∈ ls i) (fun i hi t ht hn s hs => ?_) hl
  rcases (inQ_iff _ _ _).1 hs with hu | ⟨hu, hm⟩
  · exact hp t ht s hu i hi hn
  · exact h.closed t ht s hu hm i hi hn
def BehMade (w : World) (bs : List Blk) (e : Ending) (w' : World) : Prop := ∃ gm ms ls C, e = .returned (.slice (some ⟨gm, 0, none⟩) bs.length bs.length) ∧ w.heap.size ≤ gm ∧ BhAt w.heap.size bs.length gm ms bs.length (fun _ => C) ls w' ∧ (∀ i, i < bs.length → ∀ s, s ∈ ls i ↔ LiveB bs i s) ∧ C ≤ 1000000 ∧ Below w.heap.size w w'
theorem BhAt.low {lo lo' n gm : Nat} {ms : Nat → Nat} {k : Nat} {c : Nat → Nat} {ls : Nat → List Int} {W : World} (h : BhAt lo n gm ms k c ls W) (hl : lo' ≤ lo) : BhAt lo' n gm ms k c ls W := ⟨h.row, fun i hi => ⟨(h.set i hi).1, Nat.le_trans hl (h.set i hi).2⟩, h.dis⟩
theorem FlAt.drop {lo n f ga gm : Nat} {vb : Value} {av : Nat → Value} {pre : Nat → List Int} {ms : Nat → Nat} {k : Nat} {c : Nat → Nat} {ls : Nat → List Int} {W W' : World} (h : FlAt lo n f ga gm vb av pre ms k c ls W) {g M : Nat} (hg : W.grownBy W' (some g)) (hM : M ≤ g) (hM2 : (f < M ∧ ga < M ∧ gm < M ∧ (∀ t, t < n → ∀ b, (av t).ownBlock = some b → b < M)) ∧ ∀ i, i < k → ms i < M) : FlAt lo n f ga gm vb av pre ms k c ls W' := h.grown hg hM ⟨hM2.1.1, hM2.1.2.1, hM2.1.2.2.1⟩ hM2.1.2.2.2 hM2.2
theorem FlAt.lts {lo n f ga gm : Nat} {vb : Value} {av : Nat → Value} {pre : Nat → List Int} {ms : Nat → Nat} {k : Nat} {c : Nat → Nat} {ls : Nat → List Int} {W : World} (h : FlAt lo n f ga gm vb av pre ms k c ls W) : (f < W.heap.size ∧ ga < W.heap.size ∧ gm < W.heap.size ∧ (∀ t, t < n → ∀ b, (av t).ownBlock = some b → b < W.heap.size)) ∧ ∀ i, i < k → ms i < W.heap.size := by
  obtain ⟨_, r1, _⟩ := h.ah.row
  obtain ⟨_, r2, _⟩ := h.bh.row
  exact ⟨⟨hltP h.fl, hltP r1, hltP r2, fun t ht b hb => ((h.ah.own t ht).low b hb).2.1⟩, fun i hi => (h.bh.set i hi).1.lt⟩
set_option maxRecDepth 100000 in
set_option maxHeartbeats 16000000 in
theorem liveBehind_any (x : Gr) (V : Nat) (w : World) (B : Nat) (us : Option Addr) (cs : Nat) (ub : Option Addr) (cb : Nat) (h : GrIs w B #[.slice us x.sizes.length cs, .int .i64 x.params, .int .i64 x.vars, .int .i64 x.slots, .slice ub x.blocks.length cb] x) (hbb : SlIs BlkIs 5 w B ub x.blocks) (hok : grOk x = true) (hxV : x.slots = V) :
    Calls Tryz.prog 52 #[.agg #[.slice us x.sizes.length cs, .int .i64 x.params, .int .i64 x.vars, .int .i64 x.slots, .slice ub x.blocks.length cb]] w fun e w' => BehMade w x.blocks e w' := by
  have BOK := hideP (bsOk_of hok hxV)
  have NF : Hid (∀ W, Below w.heap.size w W → Calls Tryz.prog 90 #[.agg #[.slice us x.sizes.length cs, .int .i64 x.params, .int .i64 x.vars, .int .i64 x.slots, .slice ub x.blocks.length cb]] W fun e w' => FloMade W x.blocks (.slice ub x.blocks.length cb) e w') := fun W hW => newFlow_any x V W B us cs ub cb (GrKeeps.stays h hW) (hbb.stays BlkKeeps hW) hok hxV
  have LIM : x.blocks.length ≤ 300 ∧ (∀ b ∈ x.blocks, b.code.length ≤ 1000) ∧ V ≤ 1000 := by
    simp only [grOk, Bool.and_eq_true, decide_eq_true_eq] at hok
    exact ⟨by omega, fun b hb => by have := code_le8 hb; omega, by omega⟩
  obtain ⟨hn, hcl, hV⟩ := LIM
  obtain ⟨sizes, p, q, r, blocks⟩ := x
  simp only at *
  subst hxV
  have HBB := hideP hbb
  have HCL := hideP hcl
  have AL : Hid (Below w.heap.size w (w.alloc (.cells #[.slice us sizes.length cs, .int .i64 p, .int .i64 q, .int .i64 (V : Int), .slice ub blocks.length cb] 29))) := (Below.refl w.heap.size w).alloc (Nat.le_refl _) _
  have BX := hideP (newB8 w (.cells #[.slice us sizes.length cs, .int .i64 p, .int .i64 q, .int .i64 (V : Int), .slice ub blocks.length cb] 29))
  obtain ⟨n, hnn⟩ : ∃ n, blocks.length = n := ⟨_, rfl⟩
  have HNN := hideP hnn
  have WA : Hid (∀ lo f ga gm av pre ms C ls slot at' W, Below w.heap.size w W → w.heap.size ≤ lo → lo ≤ W.heap.size → FlAt lo n f ga gm (.slice ub n cb) av pre ms n (fun _ => C) ls W → PreOk blocks n pre → LsOk blocks ls → (ha : at' < blocks.length) → usedQ blocks[at'] slot → C ≤ 10000000 → Calls Tryz.prog 92 #[.pointer (some ⟨f, 0, none⟩), .int .i64 slot, .int .i64 (at' : Nat)] W fun e w' => WantD lo n f ga gm (.slice ub n cb) av pre ms C blocks slot at' ls W e w') := by
    subst hnn
    exact fun lo f ga gm av pre ms C ls slot at' W h0 hlo0 hlo h1 h2 h3 h4 h5 h6 => want_any blocks V w W B lo f ga gm ub cb av pre ms C ls slot at' hbb h0 hlo0 hlo hn hcl BOK.out hV h1 h2 h3 h4 h5 h6
  have GOAL : Hid (∀ e w', BehMade w blocks e w' → BehMade w blocks e w') := fun _ _ h => h
  rw [hnn] at hn NF AL BX ⊢
  clear hbb hok hnn h hcl
  go_enter Tryz.func52, Tryz.ntmps52
  go_upto_region 1 with fail
  obtain ⟨W1, hW1⟩ : ∃ W1, w.alloc (.cells #[.slice us sizes.length cs, .int .i64 p, .int .i64 q, .int .i64 (V : Int), .slice ub n cb] 29) = W1 := ⟨_, rfl⟩
  have hs1 : W1.heap.size = w.heap.size + 1 := by rw [← hW1]; simp
  rw [hW1] at AL BX ⊢
  clear hW1
  have HS1 := hideP hs1
  clear hs1
  have z := (cells_of BX.out).1
  have z0 := z 0
  have z1 := z 1
  have z2 := z 2
  have z3 := z 3
  have z4 := z 4
  simp at z0 z1 z2 z3 z4
  clear z
  go_wp2_with fail
  refine (NF.out W1 AL.out).mono ?_
  rintro e2 w2 ⟨f, ga, gm, av, pre, ms, rfl, fl2, pre2, b2⟩
  rw [HNN.out] at fl2 pre2
  have F2 := hideP fl2
  have P2 := hideP pre2
  have E2 := hideP (below_trans AL.out b2)
  have g4 := (b2.cell (p := ⟨w.heap.size, 4, none⟩) (hltP BX.out)).trans z4
  have LO : Hid (w.heap.size ≤ W1.heap.size + 1 ∧ W1.heap.size + 1 ≤ w2.heap.size) := ⟨by have := HS1.out; omega, by have := fl2.lts.1.1; have := fl2.lof; omega⟩
  have L0 : Hid (LsOk blocks (fun _ => [])) := ⟨fun i _ s hs => by simp at hs, fun t _ s hs => by simp at hs⟩
  clear z0 z1 z2 z3 z4 BX AL fl2 pre2 b2 NF
  go_wp2
  clear g4
  go_loopg [12] n (fun gk ix wr => ∃ (j : Nat) (ls : Nat → List Int) (C : Nat), gk + j = n ∧ ix = .int .i64 j ∧ Hid (FlAt (W1.heap.size + 1) n f ga gm (.slice ub n cb) av pre ms n (fun _ => C) ls wr) ∧ Hid (LsOk blocks ls) ∧ Hid (∀ t (_ : t < blocks.length), t < j → ∀ s, usedQ blocks[t] s → TldOf blocks ls t s) ∧ Hid (C ≤ 3001 * j) ∧ Hid (Below w.heap.size w wr))
  case atStart => exact ⟨0, _, 0, by simp, rfl, F2.out, L0.out, fun t _ h => absurd h (Nat.not_lt_zero _), Nat.zero_le _, E2.out⟩
  case round =>
    obtain ⟨j, ls, C, hj, rfl, hS, hL, hU, hC, hE⟩ := hrel
    clear F2 E2 L0
    by_cases hlt : j < n
    · have hjb : j < blocks.length := by rw [HNN.out]; exact hlt
      obtain ⟨bb, oo, code, jump, a, t0, els, uc, kc, hub, _, hbl, he, q0, q1, q2, q3, q4, hbk⟩ := Blk_get HBB.out j hjb
      subst hub
      have q0 := (hE.out.cell (p := ⟨bb, _, none⟩) hbl).trans q0
      have q1 := (hE.out.cell (p := ⟨bb, _, none⟩) hbl).trans q1
      have q2 := (hE.out.cell (p := ⟨bb, _, none⟩) hbl).trans q2
      have q3 := (hE.out.cell (p := ⟨bb, _, none⟩) hbl).trans q3
      have q4 := (hE.out.cell (p := ⟨bb, _, none⟩) hbl).trans q4
      have al := (Below.refl wr.heap.size wr).alloc (Nat.le_refl _) (.cells #[.slice uc code.length kc, .int .i64 jump, .int .i64 a, .int .i64 t0, .int .i64 els] 51)
      have S1 := hideP (hS.out.stays al)
      have E1 := hideP (below_trans hE.out al)
      have X1 := hideP (newB8 wr (.cells #[.slice uc code.length kc, .int .i64 jump, .int .i64 a, .int .i64 t0, .int .i64 els] 51))
      obtain ⟨ucx, ccx, hvx, _, hcode⟩ := hbk
      have hux : uc = ucx := by
        simp only at hvx
        exact (slice_inj (five_inj hvx).1).1
      subst hux
      simp only at hcode
      have hcl := HCL.out _ (List.getElem_mem hjb)
      have hcd := BOK.out.code _ (List.getElem_mem hjb)
      have hjd := (BOK.out.jump _ (List.getElem_mem hjb)).1
      obtain ⟨UQ, hUQ⟩ : ∃ UQ, usedQ blocks[j] = UQ := ⟨_, rfl⟩
      have HUQ := hideP hUQ
      rw [he] at hcl hcd hjd hUQ
      have UF : Hid (∀ W, Below w.heap.size w W → Calls Tryz.prog 91 #[.agg #[.slice uc code.length kc, .int .i64 jump, .int .i64 a, .int .i64 t0, .int .i64 els]] W fun e w' => SetMade W 3001 UQ e w') := fun W hW => by
        rw [← hUQ]
        exact usedFirst_any code jump a t0 els W V kc B uc (hcode.stays InsKeeps hW) hcl hcd hjd hV
      clear al hS hE he hvx hcode hcl hcd hjd hUQ
      go_upto_region 5 with fail
      obtain ⟨wb, hwb⟩ : ∃ wb, wr.alloc (.cells #[.slice uc code.length kc, .int .i64 jump, .int .i64 a, .int .i64 t0, .int .i64 els] 51) = wb := ⟨_, rfl⟩
      rw [hwb] at S1 X1 E1 ⊢
      clear hwb q0 q1 q2 q3 q4
      have z := (cells_of X1.out).1
      have z0 := z 0
      have z1 := z 1
      have z2 := z 2
      have z3 := z 3
      have z4 := z 4
      simp at z0 z1 z2 z3 z4
      have C3 := hideP (UF.out wb E1.out)
      clear z UF
      go_wp2_with (first
        | (go_at_call 91; refine C3.out.mono ?_; rintro e3 w3 ⟨m, nn, l, rfl, hm3, s3, hnn3, hl3, b3⟩)
        | fail)
      obtain ⟨ok3, pk, F3, D, hown, hrd⟩ := s3
      have OK3 := hideP ok3
      have HF := hideP F3
      have hown : w3.ownsMap Tryz.prog 3 unitElem m nn D := hown
      have LTS := hideP S1.out.lts
      have MW : Hid (wb.heap.size ≤ m ∧ wb.heap.size ≤ w3.heap.size) := ⟨hm3, b3.size⟩
      have F3 := hideP (S1.out.stays b3)
      have E3 := hideP (below_trans E1.out b3)
      have HL3 := hideP hl3
      have HRD := hideP hrd
      have NN3 := hideP hnn3
      clear ok3 hm3 hl3 b3 z0 z1 z2 z3 z4 X1 C3 S1 E1 hrd hnn3
      obtain ⟨w4, hrun4, hrg4, hg4, hs4⟩ := hown.range lawI Tryz.underlying72
      rw [hrun4]
      go_wp2
      have G4 : Hid (Below w3.heap.size w3 w4) := ⟨hg4.os, hg4.tape, hg4.output, hg4.size, fun k hk => hg4.block k hk (by simp)⟩
      have HS4 := hideP hs4
      have CNT := hideP (ranges_cnt hrg4)
      have F4 := hideP (F3.out.stays G4.out)
      have E4 := hideP (below_trans E3.out G4.out)
      clear hg4 hs4 hown F3 E3 hrun4
      go_loopw [20] (fun _ wr => ∃ (left : Lit → Bool) (cnt : Nat) (ls2 : Nat → List Int) (C2 : Nat), wr.ranges Tryz.prog 3 unitElem m w3.heap.size nn D left cnt ∧ Hid (∀ kl, left kl = true → Maps.has D kl = true) ∧ Hid (FlAt (W1.heap.size + 1) n f ga gm (.slice (some ⟨bb, oo, none⟩) n cb) av pre ms n (fun _ => C2) ls2 wr) ∧ Hid (LsOk blocks ls2) ∧ Hid (∀ i, ∀ s ∈ ls i, s ∈ ls2 i) ∧ Hid (∀ s ∈ l, left (pk s) = false → TldOf blocks ls2 j s) ∧ Hid (C2 + cnt ≤ 3001 * (j + 1)) ∧ Hid (Below w.heap.size w wr)) (fun _ wr => wr.rangeLeft m w3.heap.size)
      case atStart =>
        refine ⟨_, _, ls, C, hrg4, fun _ h => h, F4.out, hL.out, fun _ _ h => h, fun s hs h => ?_, ?_, E4.out⟩
        · rw [(readsS_has HF.out HRD.out OK3.out (OK3.out s hs)).2 hs] at h
          cases h
        · show _ ≤ _
          have := hC.out
          have := CNT.out
          have := NN3.out
          omega
      case round =>
        obtain ⟨left, cnt, ls2, C2, hrg, hLH, hF, hL2, hM, hT, hC2, hE2⟩ := hrel
        clear hrg4 F4 E4
        go_wp2_with (first
          | (at_next; refine wpList_next_ranges _ rfl _ rfl 3 lawI _ (fun x : Int => Value.int .i64 x) (fun _ : Unit => Value.agg #[]) InK_ok.invK invU m w3.heap.size nn _ _ _ rfl hrg ?_ ?_)
          | go_in)
        · intro _ hl0
          have T4 : Hid (∀ t (_ : t < blocks.length), t < j + 1 → ∀ s, usedQ blocks[t] s → TldOf blocks ls2 t s) := fun t ht htj s hs => by
            by_cases e : t = j
            · subst e
              refine hT.out s ((HL3.out s).2 ?_) (hl0 _)
              rw [← HUQ.out]
              exact hs
            · exact fun i hi hn => hM.out i s (hU.out t ht (by omega) s hs i hi hn)
          have C4 : Hid (C2 ≤ 3001 * (j + 1)) := by
            show _ ≤ _
            have := hC2.out
            omega
          clear hrg hT hM hLH
          go_wp2
          go_roundg (n - (j + 1))
          case rel => exact ⟨j + 1, ls2, C2, by omega, by go_num, hF.out, hL2.out, T4.out, C4.out, hE2.out⟩
          case measure => omega
        · intro x kl y yp w5 cnt5 hkey hlk hv hat hrg5 hlt5 hg5 hs5 hen5
          have hin : I64 x := InK_ok.of_key (p := x) hkey
          have hkl : kl = pk x := Option.some.inj (hkey.symm.trans (HF.out.key hin))
          subst hkl
          have hxl : x ∈ l := (readsS_has HF.out HRD.out OK3.out hin).1 (hLH.out _ hlk)
          have hux : usedQ blocks[j] x := by rw [HUQ.out]; exact (HL3.out x).1 hxl
          have ltm := MW.out
          have F5 := hideP (hF.out.drop hg5 ltm.2 LTS.out)
          have B5 : Hid (Below w3.heap.size wr w5) := ⟨hg5.os, hg5.tape, hg5.output, hg5.size, fun k hk => hg5.block k (by have := hrg.lt; omega) (by simp; omega)⟩
          have hw3 : w.heap.size ≤ w3.heap.size := by have := LO.out; have := LTS.out.1.1; have := F5.out.lof; omega
          have E5 := hideP (hE2.out.trans (B5.out.mono hw3))
          have hlo5 : W1.heap.size + 1 ≤ w5.heap.size := by have := F5.out.lts.1.1; have := F5.out.lof; omega
          have C5 := hideP (WA.out (W1.heap.size + 1) f ga gm av pre ms C2 ls2 x j w5 E5.out LO.out.1 hlo5 F5.out P2.out hL2.out hjb hux (by have := hC2.out; omega))
          have RG5 := hideP hrg5
          have RL := hideP hrg.left_eq
          have LF : Hid (∀ s ∈ l, (left (pk s) && !(pk s).sameKey (pk x)) = false → left (pk s) = false ∨ s = x) := fun s hs h => by
            by_cases e : s = x
            · exact Or.inr e
            · rw [sameS_no HF.out (OK3.out s hs) hin e] at h
              left; simpa using h
          have INX := hideP hin
          clear hin hxl hux hkey hlk hv hat hg5 hs5 hrg5 hrg hw3 hlo5
          go_wp2_with fail
          refine C5.out.mono ?_
          rintro e6 w6 ⟨rfl, ls6, f6, l6, t6, m6, b6⟩
          have R6 := hideP (ranges_butS RG5.out b6 (fun i hi => by have := LTS.out.2 i hi; have := MW.out; omega) (fun i hi => by have := LTS.out.2 i hi; have := MW.out; omega))
          have E6 : Hid (Below w.heap.size w w6) := E5.out.trans ((b6.below (fun i hi => by have := (F5.out.bh.set i hi).2; have := LO.out; show w.heap.size ≤ _; omega) E5.out.size))
          have T6 : Hid (∀ s ∈ l, (left (pk s) && !(pk s).sameKey (pk x)) = false → TldOf blocks ls6 j s) := fun s hs h => by
            rcases LF.out s hs h with h | h
            · exact fun i hi hn => m6 i s (hT.out s hs h i hi hn)
            · subst h; exact fun i hi hn => t6 i hi hn
          have M6 : Hid (∀ i, ∀ s ∈ ls i, s ∈ ls6 i) := fun i s hs => m6 i s (hM.out i s hs)
          have LH6 : Hid (∀ kl, (left kl && !kl.sameKey (pk x)) = true → Maps.has D kl = true) := fun kl h => hLH.out kl (by simp at h; exact h.1)
          have F6 := hideP f6
          have L6 := hideP l6
          clear f6 l6 t6 m6 b6 C5 RG5 hF hL2 hT hM hLH hE2 F5 B5 E5 LF
          go_wp2
          go_roundw
          case rel => exact ⟨_, cnt5, ls6, C2 + 1, R6.out, LH6.out, F6.out, L6.out, M6.out, T6.out, by show _ ≤ _; have := hC2.out; omega, E6.out⟩
          case measure => rw [R6.out.left_eq, RL.out]; exact hlt5
    · have hjn : j = n := by omega
      subst hjn
      have f2 := (cells_of hS.out.fl).1 2
      simp at f2
      have LV : Hid (∀ i, i < blocks.length → ∀ s, s ∈ ls i ↔ LiveB blocks i s) := fun i hi s => ls_live hL.out (fun t ht s hs => hU.out t ht (by rw [← HNN.out]; exact ht) s hs) hi s
      have BM : Hid (BehMade w blocks (.returned (.slice (some ⟨gm, 0, none⟩) j j)) wr) := by
        have hb := hS.out.bh
        have hlo := hS.out.lof
        have := LO.out
        refine ⟨gm, ms, ls, C, by rw [HNN.out], by omega, ?_, LV.out, by have := hC.out; omega, hE.out⟩
        rw [HNN.out]
        exact hb.low this.1
      go_wp2
      go_ret
      exact BM.out
end Go.Proofs.YtelkpikbjfkpcaaGreat

/- The contract of impl.keptFromLast with the closure of impl.withoutUnused (written by wip/mkkept.py). -/
namespace Go.Proofs.YtelkpikbjfkpcaaGreat
open Go.ChangeShapes Go.WideShapes Go.ChangeAt Go.RowKit
/-- Between two rounds. -/
structure KeptU (w : World) (m : Nat) (Inv : World → Prop) (v : Value) (L : List Ins) (W : World) : Prop where
  own : OwnE InE W w.heap.size v L
  inv : Inv W
  but : But m w W
theorem KeptU.call {w W W' : World} {m : Nat} {Inv Inv' : World → Prop} {v : Value} {L : List Ins} (h : KeptU w m Inv v L W) (hm : m < w.heap.size) (i : Inv' W') (hb : But m W W') : KeptU w m Inv' v L W' :=
  ⟨h.own.butG hb (fun e => by have := (h.own.low _ e).1; omega), i, h.but.twice hb⟩
theorem KeptU.app {w W Wa W' : World} {m : Nat} {Inv : World → Prop} {v v' : Value} {L L' : List Ins} (h : KeptU w m Inv v L W) (hk : ∀ W W', Inv W → Below w.heap.size W W' → Inv W') (ha : Below W.heap.size W Wa) (ho : OwnE InE W' w.heap.size v' L') (hg : Wa.grownBy W' v.ownBlock) : KeptU w m Inv v' L' W' := by
  have hs := h.but.size
  have b1 : Below w.heap.size W Wa := ha.mono hs
  have b2 : Below w.heap.size Wa W' := ⟨hg.os, hg.tape, hg.output, hg.size, fun k hk => hg.block k (by have := ha.size; omega) (fun e => by have := (h.own.low _ e.symm).1; omega)⟩
  exact ⟨ho, hk _ _ h.inv (b1.trans b2), h.but.onB (b1.trans b2)⟩
set_option maxRecDepth 100000 in
set_option maxHeartbeats 4000000 in
theorem keptU_any {σ : Type} (f : σ → Nat → σ × Bool) (s0 : σ) (code : List Ins) (uc : Option Addr) (kc B : Nat) (w : World) (m : Nat) (hm : m < w.heap.size) (Inv : Nat → World → Prop) (c1 c2 : Value) (hl : code.length ≤ 1000)
    (h0 : Inv 0 w) (hk : ∀ k W W', Inv k W → Below w.heap.size W W' → Inv k W') (hc : ∀ k W, Inv k W → SlIs InsIs 7 W B uc code)
    (hf : ∀ k i W, k < code.length → i + k + 1 = code.length → Inv k W → w.heap.size ≤ W.heap.size → Calls Tryz.prog 94 #[.int .i64 (i : Nat), c1, c2] W fun e W' => e = .returned (.bool (f (backUp f s0 code k).1 i).2) ∧ Inv (k + 1) W' ∧ But m W W') :
    Calls Tryz.prog 93 #[.slice uc code.length kc, .func (.func 94) #[] #[c1, c2]] w fun e w' => ∃ v, e = .returned v ∧ OwnE InE w' w.heap.size v (backUp f s0 code code.length).2 ∧ Inv code.length w' ∧ But m w w' := by
  have HK := hideP hk
  have HC := hideP hc
  have HF := hideP hf
  have S0 : Hid (KeptU w m (Inv 0) (.slice (some ⟨w.heap.size, 0, none⟩) 0 0) ((backUp f s0 code 0).2.reverse) (w.alloc (.cells #[] 56))) := by
    have al := (Below.refl w.heap.size w).alloc (Nat.le_refl _) (.cells #[] 56)
    exact ⟨own_nil InOk w w.heap.size rfl, hk 0 _ _ h0 al, But.ofBelowP al⟩
  have FEW := hideP (fun k => backUp_few (f := f) (s0 := s0) (code := code) k)
  obtain ⟨n, hn⟩ : ∃ n, code.length = n := ⟨_, rfl⟩
  have HN := hideP hn
  rw [hn] at hl HF ⊢
  clear hk hc hf h0 hn
  go_enter Tryz.func93, Tryz.ntmps93
  go_wp2
  go_loopg [5, 6] n (fun gk v ix wr => ∃ k : Nat, gk + k = n ∧ ix = .int .i64 ((n : Int) - 1 - k) ∧ Hid (KeptU w m (Inv k) v ((backUp f s0 code k).2.reverse) wr))
  case atStart => exact ⟨0, by simp, by simp, S0.out⟩
  case round =>
    obtain ⟨k, hgk, rfl, hS⟩ := hrel
    clear S0
    by_cases hlt : k < n
    · obtain ⟨i, hi⟩ : ∃ i : Nat, (n : Int) - 1 - k = i := ⟨n - 1 - k, by omega⟩
      rw [hi]
      have hin : i < n := by omega
      have hic : i < code.length := by rw [HN.out]; exact hin
      have UP : Hid (backUp f s0 code (k + 1) = ((f (backUp f s0 code k).1 i).1, if (f (backUp f s0 code k).1 i).2 = true then code[i]'hic :: (backUp f s0 code k).2 else (backUp f s0 code k).2)) := backUp_at (by rw [HN.out]; exact hlt) (by rw [HN.out]; omega)
      have hsz := hS.out.but.size
      have CL := hideP (HF.out k i wr hlt (by omega) hS.out.inv hsz)
      have FW := hideP (FEW.out k)
      obtain ⟨kp, hkp⟩ : ∃ kp, (f (backUp f s0 code k).1 i).2 = kp := ⟨_, rfl⟩
      rw [hkp] at CL UP
      obtain ⟨L, hL⟩ : ∃ L, (backUp f s0 code k).2 = L := ⟨_, rfl⟩
      rw [hL] at UP hS FW
      have HI : Hid ((n : Int) - 1 - k = i) := hi
      clear hkp hL hi HF
      go_wp2_with fail
      refine CL.out.mono ?_
      rintro e5 w5 ⟨rfl, i5, b5⟩
      have S5 := hideP (hS.out.call hm i5 b5)
      clear hS CL i5 b5
      cases kp with
      | false =>
        have UP2 : Hid ((backUp f s0 code (k + 1)).2.reverse = L.reverse) := by show _ = _; rw [UP.out]; rfl
        clear UP
        go_wp2
        go_roundg (n - (k + 1))
        case rel => exact ⟨k + 1, by omega, by have := HI.out; go_num, by rw [UP2.out]; exact S5.out⟩
        case measure => omega
      | true =>
        obtain ⟨bb, oo, op, d, a, b0, c0, nn, t, hu, _, hbl, he, q0, q1, q2, q3, q4, q5, q6, _⟩ := Ins_get (HC.out _ _ S5.out.inv) i hic
        subst hu
        have UP2 : Hid ((backUp f s0 code (k + 1)).2.reverse = L.reverse ++ [⟨op, d, a, b0, c0, nn, t⟩]) := by
          show _ = _
          rw [UP.out, he]
          simp
        clear UP
        obtain ⟨V, hV⟩ : ∃ V, L.reverse = V := ⟨_, rfl⟩
        have hVl : V.length ≤ 1000 := by rw [← hV, List.length_reverse]; have := FW.out; omega
        rw [hV] at S5 UP2
        have HVL := hideP hVl
        clear hV hVl he FW
        have al := (Below.refl w5.heap.size w5).alloc (Nat.le_refl _) (.cells #[.int .i64 op, .int .i64 d, .int .i64 a, .int .i64 b0, .int .i64 c0, .int .i64 nn, .string t] 56)
        have OA := hideP (S5.out.own.stays al)
        have AL := hideP al
        have CQ : Hid (∀ r, r < InE.sz → (w5.alloc (.cells #[.int .i64 op, .int .i64 d, .int .i64 a, .int .i64 b0, .int .i64 c0, .int .i64 nn, .string t] 56)).cell? ⟨w5.heap.size, 0 + r, none⟩ = (InE.cs (⟨op, d, a, b0, c0, nn, t⟩ : Ins))[r]?) := fun r _ => by
          have := (cells_of (newI w5 #[.int .i64 op, .int .i64 d, .int .i64 a, .int .i64 b0, .int .i64 c0, .int .i64 nn, .string t])).1 r
          rw [Nat.zero_add, this]; simp [InE]
        have hsz1 : Hid (w.heap.size ≤ (w5.alloc (.cells #[.int .i64 op, .int .i64 d, .int .i64 a, .int .i64 b0, .int .i64 c0, .int .i64 nn, .string t] 56)).heap.size) := Nat.le_trans S5.out.but.size al.size
        clear al
        go_wp2_with (at_builtin; refine list_appE InOk _ rfl _ _ rfl w.heap.size _ V (⟨op, d, a, b0, c0, nn, t⟩ : Ins) w5.heap.size 0 1 rfl rfl OA.out CQ.out (by have := HVL.out; omega) hsz1.out ?_; intro v7 w7 o7 grow7 loc7)
        have S7 := hideP (S5.out.app (HK.out (k + 1)) AL.out o7 grow7)
        clear S5 OA AL CQ hsz1 o7 grow7 loc7 q0 q1 q2 q3 q4 q5 q6
        go_wp2
        go_roundg (n - (k + 1))
        case rel => exact ⟨k + 1, by omega, by have := HI.out; go_num, by rw [UP2.out]; exact S7.out⟩
        case measure => omega
    · have hkn : k = n := by omega
      subst hkn
      obtain ⟨L, hL⟩ : ∃ L, (backUp f s0 code k).2 = L := ⟨_, rfl⟩
      have hLl := FEW.out k
      rw [hL] at hS hLl
      have HL := hideP hL
      have RV : Hid (Calls Tryz.prog 131 #[u5] wr fun e w' => e = .returned (.tuple #[]) ∧ OwnE InE w' w.heap.size u5 L ∧ ∃ g, u5.ownBlock = some g ∧ But g wr w') := by
        have := reverseR_any L.reverse wr w.heap.size u5 hS.out.own (by rw [List.length_reverse]; omega)
        rw [List.reverse_reverse] at this
        exact this
      clear hLl hL FEW HF
      go_wp2_with fail
      refine RV.out.mono ?_
      rintro e8 w8 ⟨rfl, o8, g8, hg8, b8⟩
      have E8 : Hid (Inv k w8 ∧ But m w w8) := by
        have lo := (hS.out.own.low _ hg8).1
        have bb := b8.below lo hS.out.but.size
        exact ⟨HK.out _ _ _ hS.out.inv bb, hS.out.but.onB bb⟩
      have O8 := hideP o8
      clear o8 b8 RV hS
      go_wp2
      go_ret
      exact ⟨_, rfl, by rw [HL.out]; exact O8.out, E8.out⟩
end Go.Proofs.YtelkpikbjfkpcaaGreat

/- The contract of impl.withoutUnused. -/
namespace Go.Proofs.YtelkpikbjfkpcaaGreat
open Go.ChangeShapes Go.WideShapes Go.ChangeAt Go.RowKit
/-- The boxes of the steps and of the set; the set. -/
structure UkAt (w : World) (uc : Option Addr) (cn kc m : Nat) (P : Int → Prop) (n : Nat) (W : World) : Prop where
  bC : W.heap[w.heap.size]? = some (.cells #[.slice uc cn kc] 49 (0, 0))
  bU : W.heap[w.heap.size + 1]? = some (.cells #[.map (some m)] 72 (0, 0))
  set : ∃ l, SetIs InK W m n l ∧ ∀ s, s ∈ l ↔ P s
  but : But m w W
  old : m < w.heap.size
theorem UkAt.next {w W W' : World} {uc : Option Addr} {cn kc m n n' : Nat} {P P' : Int → Prop} {l' : List Int} (h : UkAt w uc cn kc m P n W) (hb : But m W W') (hs : SetIs InK W' m n' l') (hp : ∀ s, s ∈ l' ↔ P' s) : UkAt w uc cn kc m P' n' W' :=
  ⟨hb.keepB h.bC (by have := h.old; omega), hb.keepB h.bU (by have := h.old; omega), ⟨l', hs, hp⟩, h.but.twice hb, h.old⟩
theorem UkAt.keep {w W W' : World} {uc : Option Addr} {cn kc m n : Nat} {P : Int → Prop} (h : UkAt w uc cn kc m P n W) (hb : Below (w.heap.size + 2) W W') : UkAt w uc cn kc m P n W' := by
  obtain ⟨l, hs, hp⟩ := h.set
  exact ⟨(hb.block _ (by omega)).trans h.bC, (hb.block _ (by omega)).trans h.bU, ⟨l, hs.blk (hb.block _ (by have := h.old; omega)), hp⟩, h.but.onB (hb.mono (by omega)), h.old⟩
set_option maxRecDepth 100000 in
set_option maxHeartbeats 4000000 in
theorem unused1_any (code : List Ins) (P : Int → Prop) (V : Nat) (w W : World) (B : Nat) (uc : Option Addr) (kc m n i : Nat) (hc : SlIs InsIs 7 w B uc code) (hmap : ∀ c T f, w.heap[m]? ≠ some (.cells c T f)) (h : UkAt w uc code.length kc m P n W)
    (hi : i < code.length) (hn : n ≤ 5000000) (hx : (∀ s ∈ usesP code[i], 0 ≤ s ∧ s < V) ∧ (makesP code[i] = -1 ∧ (code[i].op = 4 ∨ code[i].op = 6) ∨ 0 ≤ makesP code[i] ∧ makesP code[i] < V ∧ makesP code[i] = code[i].d ∧ ¬ (code[i].op = 4 ∨ code[i].op = 6))) (hV : V ≤ 1000) :
    Calls Tryz.prog 94 #[.int .i64 (i : Nat), .pointer (some ⟨w.heap.size, 0, none⟩), .pointer (some ⟨w.heap.size + 1, 0, none⟩)] W fun e W' => e = .returned (.bool (clF code P i).2) ∧ UkAt w uc code.length kc m (clF code P i).1 (n + 3) W' ∧ But m W W' := by
  obtain ⟨l, hs, hp⟩ := h.set
  obtain ⟨bb, oo, op, d, a, b0, c0, nn, t, hu, _, hbl, he, q0, q1, q2, q3, q4, q5, q6, hins⟩ := Ins_get hc i hi
  subst hu
  have hbm : bb ≠ m := fun e => by
    subst e
    simp only [World.cell?] at q0
    cases q0
  have hd : (op = 0 ∨ op = 1 ∨ op = 2) → I64 d := fun ho => by
    have := hx.2
    rw [he] at this
    simp only at this
    unfold I64
    omega
  have AL := (Below.refl W.heap.size W).alloc (Nat.le_refl _) (.cells #[.int .i64 op, .int .i64 d, .int .i64 a, .int .i64 b0, .int .i64 c0, .int .i64 nn, .string t] 56)
  have XB := hideP (newB8 W (.cells #[.int .i64 op, .int .i64 d, .int .i64 a, .int .i64 b0, .int .i64 c0, .int .i64 nn, .string t] 56))
  have OM : Hid (∀ W, Calls Tryz.prog 95 #[.agg #[.int .i64 op, .int .i64 d, .int .i64 a, .int .i64 b0, .int .i64 c0, .int .i64 nn, .string t]] W fun e w' => e = .returned (.bool (decide (op = 0 ∨ op = 1 ∨ op = 2))) ∧ Below W.heap.size W w') := fun W => onlyMakes_any ⟨op, d, a, b0, c0, nn, t⟩ W
  have GA : Hid (∀ W, SetIs InK W m n l → Calls Tryz.prog 97 #[.map (some m), .agg #[.int .i64 op, .int .i64 d, .int .i64 a, .int .i64 b0, .int .i64 c0, .int .i64 nn, .string t]] W fun e w' => e = .returned (.tuple #[]) ∧ SetIs InK w' m (n + 3) (aheadI ⟨op, d, a, b0, c0, nn, t⟩ l) ∧ But m W w') := fun W h0 => by
    have hx1 := hx.1
    have hx2 := made_i64 hV hx.2
    rw [he] at hx1 hx2
    exact goAhead_any ⟨op, d, a, b0, c0, nn, t⟩ l W m n h0 (fun s hs' => slot_i64 hV (hx1 s hs')) hx2 hins.2 (by omega)
  have HA : Hid (I64 d → ∀ W, SetIs InK W m n l → Calls Tryz.prog 96 #[.map (some m), .int .i64 d] W fun e w' => e = .returned (.bool (inL l d)) ∧ Below W.heap.size W w') := fun hd W h0 => hasI_any l d W m n h0 hd
  have K0 := h.but
  have g : ∀ (o : Nat) (u : Value), w.cell? ⟨bb, o, none⟩ = some u → W.cell? ⟨bb, o, none⟩ = some u := fun o u hc => (World.cell?_of_block (a := ⟨bb, o, none⟩) (K0.block bb hbl hbm)).trans hc
  have x0 := g _ _ q0
  have x1 := g _ _ q1
  have x2 := g _ _ q2
  have x3 := g _ _ q3
  have x4 := g _ _ q4
  have x5 := g _ _ q5
  have x6 := g _ _ q6
  have y0 : W.cell? ⟨w.heap.size, 0, none⟩ = some (.slice (some ⟨bb, oo, none⟩) code.length kc) := (cells_of h.bC).1 0
  have H1 := hideP (h.keep (AL.mono (hltP h.bU)))
  have S1 := hideP (hs.stays AL)
  have B1 : Hid (But m W _) := But.ofBelowP AL
  have CY : Hid (¬ ((op = 0 ∨ op = 1 ∨ op = 2) ∧ ¬ P d) → clF code P i = (aheadQ ⟨op, d, a, b0, c0, nn, t⟩ P, true)) := fun hh => by
    have := clF_yes (P := P) hi (by rw [he]; exact hh)
    rw [he] at this
    exact this
  have CN : Hid ((op = 0 ∨ op = 1 ∨ op = 2) → ¬ P d → clF code P i = (P, false)) := fun h1 h2 => clF_no hi (by rw [he]; exact h1) (by rw [he]; exact h2)
  obtain ⟨R, hR⟩ : ∃ R, clF code P i = R := ⟨_, rfl⟩
  rw [hR] at CY CN ⊢
  have HP := hideP hp
  obtain ⟨N, hN⟩ : ∃ N, code.length = N := ⟨_, rfl⟩
  rw [hN] at y0 H1 hi ⊢
  have HD := hideP hd
  clear h hs hp hc hmap he q0 q1 q2 q3 q4 q5 q6 hins hx AL K0 g hR hN hd
  go_enter Tryz.func94, Tryz.ntmps94
  go_upto_region 2 with fail
  obtain ⟨wx, hwx⟩ : ∃ wx, W.alloc (.cells #[.int .i64 op, .int .i64 d, .int .i64 a, .int .i64 b0, .int .i64 c0, .int .i64 nn, .string t] 56) = wx := ⟨_, rfl⟩
  rw [hwx] at XB H1 S1 B1 ⊢
  clear hwx x0 x1 x2 x3 x4 x5 x6 y0
  have z := (cells_of XB.out).1
  have z0 := z 0
  have z1 := z 1
  have z2 := z 2
  have z3 := z 3
  have z4 := z 4
  have z5 := z 5
  have z6 := z 6
  simp at z0 z1 z2 z3 z4 z5 z6
  clear z
  obtain ⟨om, hom⟩ : ∃ om, decide (op = 0 ∨ op = 1 ∨ op = 2) = om := ⟨_, rfl⟩
  have HOM := hideP hom
  rw [hom] at OM
  clear hom
  go_wp2_with fail
  refine (OM.out _).mono ?_
  rintro e2 w2 ⟨rfl, b2⟩
  have X2 := hideP ((b2.block _ (hltP XB.out)).trans XB.out)
  have H2 := hideP (H1.out.keep (b2.mono (hltP H1.out.bU)))
  have S2 := hideP (S1.out.stays b2)
  have B2 := hideP (B1.out.onB (b2.mono B1.out.size))
  clear z0 z1 z2 z3 z4 z5 z6 XB H1 S1 B1 b2 OM
  have z := (cells_of X2.out).1
  have z0 := z 0
  have z1 := z 1
  have z2 := z 2
  have z3 := z 3
  have z4 := z 4
  have z5 := z 5
  have z6 := z 6
  simp at z0 z1 z2 z3 z4 z5 z6
  clear z
  have u0 : w2.cell? ⟨w.heap.size + 1, 0, none⟩ = some (.map (some m)) := (cells_of H2.out.bU).1 0
  cases om with
  | false =>
    have CE := CY.out (fun hh => by have := HOM.out; rw [decide_eq_false_iff_not] at this; exact this hh.1)
    subst CE
    have G3 := hideP (GA.out w2 S2.out)
    go_wp2_with fail
    refine G3.out.mono ?_
    rintro e3 w3 ⟨rfl, s3, b3⟩
    have E3 : Hid (UkAt w (some ⟨bb, oo, none⟩) N kc m (aheadQ ⟨op, d, a, b0, c0, nn, t⟩ P) (n + 3) w3 ∧ But m W w3) := ⟨H2.out.next b3 s3 (ahead_mem HP.out), B2.out.twice b3⟩
    clear z0 z1 z2 z3 z4 z5 z6 u0 s3 b3
    go_wp2
    go_ret
    exact ⟨rfl, E3.out⟩
  | true =>
    have ho : op = 0 ∨ op = 1 ∨ op = 2 := of_decide_eq_true HOM.out
    have A3 := hideP (HA.out (HD.out ho) w2 S2.out)
    obtain ⟨hd, hhd⟩ : ∃ hd, inL l d = hd := ⟨_, rfl⟩
    have HHD := hideP hhd
    rw [hhd] at A3
    clear hhd
    go_wp2_with fail
    refine A3.out.mono ?_
    rintro e3 w3 ⟨rfl, b3⟩
    have X3 := hideP ((b3.block _ (hltP X2.out)).trans X2.out)
    have H3 := hideP (H2.out.keep (b3.mono (hltP H2.out.bU)))
    have S3 := hideP (S2.out.stays b3)
    have B3 := hideP (B2.out.onB (b3.mono B2.out.size))
    clear z0 z1 z2 z3 z4 z5 z6 u0 X2 H2 S2 B2 b3 A3 HA
    have z := (cells_of X3.out).1
    have z0 := z 0
    have z1 := z 1
    have z2 := z 2
    have z3 := z 3
    have z4 := z 4
    have z5 := z 5
    have z6 := z 6
    simp at z0 z1 z2 z3 z4 z5 z6
    clear z
    have u0 : w3.cell? ⟨w.heap.size + 1, 0, none⟩ = some (.map (some m)) := (cells_of H3.out.bU).1 0
    cases hd with
    | true =>
      have CE := CY.out (fun hh => hh.2 ((HP.out d).1 (inL_iff.1 HHD.out)))
      subst CE
      have G3 := hideP (GA.out w3 S3.out)
      go_wp2_with fail
      refine G3.out.mono ?_
      rintro e4 w4 ⟨rfl, s4, b4⟩
      have E4 : Hid (UkAt w (some ⟨bb, oo, none⟩) N kc m (aheadQ ⟨op, d, a, b0, c0, nn, t⟩ P) (n + 3) w4 ∧ But m W w4) := ⟨H3.out.next b4 s4 (ahead_mem HP.out), B3.out.twice b4⟩
      clear z0 z1 z2 z3 z4 z5 z6 u0 s4 b4
      go_wp2
      go_ret
      exact ⟨rfl, E4.out⟩
    | false =>
      have CE := CN.out ho (fun hh => by have := inL_iff.2 ((HP.out d).2 hh); rw [HHD.out] at this; cases this)
      subst CE
      have E4 : Hid (UkAt w (some ⟨bb, oo, none⟩) N kc m P (n + 3) w3 ∧ But m W w3) := ⟨H3.out.next (But.refl m w3) (S3.out.up (by omega)) HP.out, B3.out⟩
      clear z0 z1 z2 z3 z4 z5 z6 u0
      go_wp2
      go_ret
      exact ⟨rfl, E4.out⟩
theorem bx2 (w : World) (o1 o2 : Obj) : ((w.alloc o1).alloc o2).heap[w.heap.size]? = some o1 ∧ ((w.alloc o1).alloc o2).heap[w.heap.size + 1]? = some o2 ∧ ((w.alloc o1).alloc o2).heap.size = w.heap.size + 2 := by
  have al := (Below.refl (w.alloc o1).heap.size (w.alloc o1)).alloc (Nat.le_refl _) o2
  have e : (w.alloc o1).heap.size = w.heap.size + 1 := by simp
  have n1 : (w.alloc o1).heap[w.heap.size]? = some o1 := by show (w.heap.push _)[w.heap.size]? = _; exact Array.getElem?_push_size
  have n2 : ((w.alloc o1).alloc o2).heap[(w.alloc o1).heap.size]? = some o2 := by show ((w.alloc o1).heap.push _)[(w.alloc o1).heap.size]? = _; exact Array.getElem?_push_size
  rw [e] at n2
  exact ⟨(al.block _ (by omega)).trans n1, n2, by simp⟩
set_option maxRecDepth 100000 in
set_option maxHeartbeats 4000000 in
theorem withoutUnused_any (code : List Ins) (P : Int → Prop) (V : Nat) (w : World) (B : Nat) (uc : Option Addr) (kc m n : Nat) (l : List Int) (hc : SlIs InsIs 7 w B uc code) (hs : SetIs InK w m n l) (hp : ∀ s, s ∈ l ↔ P s) (hl : code.length ≤ 1000) (hn : n ≤ 2000000) (hx : ∀ x ∈ code, (∀ s ∈ usesP x, 0 ≤ s ∧ s < V) ∧ (makesP x = -1 ∧ (x.op = 4 ∨ x.op = 6) ∨ 0 ≤ makesP x ∧ makesP x < V ∧ makesP x = x.d ∧ ¬ (x.op = 4 ∨ x.op = 6))) (hV : V ≤ 1000) :
    Calls Tryz.prog 55 #[.slice uc code.length kc, .map (some m)] w fun e w' => ∃ v, e = .returned v ∧ OwnE InE w' w.heap.size v (clCode P code) ∧ (∃ n' l', SetIs InK w' m n' l') ∧ But m w w' := by
  obtain ⟨W2, hW2⟩ : ∃ W2, (w.alloc (.cells #[.slice uc code.length kc] 49)).alloc (.cells #[.map (some m)] 72) = W2 := ⟨_, rfl⟩
  have hmap : ∀ c T f, w.heap[m]? ≠ some (.cells c T f) := fun c T f e => by
    obtain ⟨es, cl, hm⟩ := hs.isMap
    rw [hm] at e; cases e
  have I0 : UkAt w uc code.length kc m P n W2 ∧ W2.heap.size = w.heap.size + 2 := by
    rw [← hW2]
    obtain ⟨f1, f2, f3⟩ := bx2 w (.cells #[.slice uc code.length kc] 49) (.cells #[.map (some m)] 72)
    have bl := below2 w (.cells #[.slice uc code.length kc] 49) (.cells #[.map (some m)] 72)
    exact ⟨⟨f1, f2, ⟨l, hs.stays bl, hp⟩, But.ofBelowP bl, hs.lt⟩, f3⟩
  have KD : Hid (Calls Tryz.prog 93 #[.slice uc code.length kc, .func (.func 94) #[] #[.pointer (some ⟨w.heap.size, 0, none⟩), .pointer (some ⟨w.heap.size + 1, 0, none⟩)]] W2 fun e w' => ∃ v, e = .returned v ∧ OwnE InE w' W2.heap.size v (clCode P code) ∧ UkAt w uc code.length kc m (backUp (clF code) P code code.length).1 (n + 3 * code.length) w' ∧ But m W2 w') :=
    keptU_any (clF code) P code uc kc B W2 m (by rw [I0.2]; have := I0.1.old; omega) (fun k W => UkAt w uc code.length kc m (backUp (clF code) P code k).1 (n + 3 * k) W) _ _ hl I0.1 (fun k W W' h hb => h.keep (by rw [I0.2] at hb; exact hb)) (fun k W h => hc.butne (fun h0 b o e => by
      obtain ⟨bb, oo, _, _, _, _, _, _, _, hu, _, hbl, _, q0, _⟩ := Ins_get hc 0 h0
      rw [hu] at e
      cases e
      intro e2
      subst e2
      simp only [World.cell?] at q0
      cases q0) h.but) (fun k i W hk hi h _ => by
      have hx := unused1_any code (backUp (clF code) P code k).1 V w W B uc kc m (n + 3 * k) i hc hmap h (by omega) (by omega) (hx _ (List.getElem_mem _)) hV
      rw [backUp_at hk hi]
      exact hx)
  have hsz := I0.2
  have BEL := hideP I0.1.but
  obtain ⟨R, hR⟩ : ∃ R, clCode P code = R := ⟨_, rfl⟩
  rw [hR] at KD ⊢
  have HW := hideP hW2
  have hmf : ∀ (fn : Fn) (first cap : Array Value) (w : World), (Instr.makeFunc fn first cap).run Tryz.prog w = .ok (.func fn first cap) w := fun _ _ _ _ => rfl
  have c0 : W2.cell? ⟨w.heap.size, 0, none⟩ = some (.slice uc code.length kc) := (cells_of I0.1.bC).1 0
  have HSZ := hideP hsz
  clear I0 hW2 hR hc hs hp hx hmap hsz
  obtain ⟨N, hN⟩ : ∃ N, code.length = N := ⟨_, rfl⟩
  rw [hN] at KD HW c0 ⊢
  clear hN hl
  go_enter Tryz.func55, Tryz.ntmps55
  go_upto_region 1 with fail
  rw [HW.out]
  clear HW
  go_wp2_with fail
  refine KD.out.mono ?_
  rintro e5 w5 ⟨v5, rfl, o5, u5, b5⟩
  have E5 : Hid (OwnE InE w5 w.heap.size v5 R ∧ (∃ n' l', SetIs InK w5 m n' l') ∧ But m w w5) := ⟨o5.mono (by rw [HSZ.out]; omega), let ⟨l', h1, _⟩ := u5.set; ⟨_, l', h1⟩, u5.but⟩
  clear o5 b5 u5 KD c0 hmf
  go_wp2
  go_ret
  exact ⟨_, rfl, E5.out⟩
end Go.Proofs.YtelkpikbjfkpcaaGreat

/- A graph of one's own outlives what happens to maps; a new code is laid into it then. -/
namespace Go.Proofs.YtelkpikbjfkpcaaGreat
open Go.ChangeShapes Go.WideShapes Go.ChangeAt Go.RowKit
/-- All rows of cells are as they were. -/
structure KpC (w w' : World) : Prop where
  size : w.heap.size ≤ w'.heap.size
  row : ∀ (g : Nat) c T, w.heap[g]? = some (.cells c T (0, 0)) → w'.heap[g]? = w.heap[g]?
theorem KpC.refl (w : World) : KpC w w := ⟨Nat.le_refl _, fun _ _ _ _ => rfl⟩
theorem KpC.of {w w' : World} (h : Below w.heap.size w w') : KpC w w' := ⟨h.size, fun g _ _ hg => h.block g (hltP hg)⟩
theorem KpC.trans {a b c : World} (h : KpC a b) (k : KpC b c) : KpC a c := ⟨Nat.le_trans h.size k.size, fun g x T hg => (k.row g x T ((h.row g x T hg).trans hg)).trans (h.row g x T hg)⟩
theorem KpC.but {w w' : World} {m : Nat} (h : But m w w') (hm : ∀ c T, w.heap[m]? ≠ some (.cells c T (0, 0))) : KpC w w' := ⟨h.size, fun g c T hg => h.block g (hltP hg) (fun e => by subst e; exact hm c T hg)⟩
theorem RowAt.keepC {w w' : World} {B : Nat} {a : Option Addr} {n sz : Nat} {vs : Nat → Array Value} (h : RowAt w B a n sz vs) (h0 : 0 < B) (hk : KpC w w') : RowAt w' B a n sz vs := by
  rcases h with h | ⟨b, o, ha, hB, hb, hp, hc⟩
  · exact Or.inl h
  · obtain ⟨cs, T, h1⟩ := hp h0
    have h2 := hk.row b _ _ h1
    exact Or.inr ⟨b, o, ha, hB, Nat.lt_of_lt_of_le hb hk.size, fun _ => ⟨cs, T, h2.trans h1⟩, fun i hi => ⟨(hc i hi).1, fun j hj => (World.cell?_of_block (a := ⟨b, o + i * sz + j, none⟩) h2).trans ((hc i hi).2 j hj)⟩⟩
theorem IntsIs.keepC {w w' : World} {B : Nat} {a : Option Addr} {zs : List Int} (h : IntsIs w B a zs) (h0 : 0 < B) (hk : KpC w w') : IntsIs w' B a zs := by
  obtain ⟨hl, h | ⟨b, o, ha, hB, hb, hp, hc⟩⟩ := h
  · exact ⟨hl, Or.inl h⟩
  · obtain ⟨cs, T, h1⟩ := hp h0
    have h2 := hk.row b _ _ h1
    exact ⟨hl, Or.inr ⟨b, o, ha, hB, Nat.lt_of_lt_of_le hb hk.size, fun _ => ⟨cs, T, h2.trans h1⟩, fun i hi => (World.cell?_of_block (a := ⟨b, o + i, none⟩) h2).trans (hc i hi)⟩⟩
theorem codeKeepC {w w' : World} {B : Nat} {a : Option Addr} {xs : List Ins} (h : SlIs InsIs 7 w B a xs) (h0 : 0 < B) (hk : KpC w w') : SlIs InsIs 7 w' B a xs := by
  obtain ⟨hl, vs, hr, hx⟩ := h
  exact ⟨hl, vs, hr.keepC h0 hk, hx⟩
theorem BlkIs.keepC {w w' : World} {B : Nat} {v : Array Value} {x : Blk} (h : BlkIs w B v x) (h0 : 0 < B) (hk : KpC w w') : BlkIs w' B v x := by
  obtain ⟨u, c, e, ok, hs⟩ := h
  exact ⟨u, c, e, ok, codeKeepC hs h0 hk⟩
theorem GrIs.keepC {w w' : World} {B : Nat} {v : Array Value} {x : Gr} (h : GrIs w B v x) (h0 : 0 < B) (hk : KpC w w') : GrIs w' B v x := by
  obtain ⟨u, c, ub, cb, e, ok, hs, hl, vs, hr, hx⟩ := h
  exact ⟨u, c, ub, cb, e, ok, hs.keepC h0 hk, hl, vs, hr.keepC h0 hk, fun i hi => (hx i hi).keepC h0 hk⟩
theorem GOwn.keepC {w w' : World} {v : Array Value} {S : CRow} {b o : Nat} {cs : List CRow} (h : GOwn w v S b o cs) (hk : KpC w w') : GOwn w' v S b o cs := by
  refine ⟨h.val, fun hn => ?_, fun hn => ?_, ⟨fun i hi => ?_, fun i hi hn => ?_, h.codes.own, h.codes.dis⟩, h.sb, h.sc⟩
  · obtain ⟨c, T, h1, h2⟩ := h.srow hn
    exact ⟨c, T, (hk.row _ _ _ h1).trans h1, h2⟩
  · obtain ⟨c, T, h1, h2⟩ := h.brow hn
    exact ⟨c, T, (hk.row _ _ _ h1).trans h1, h2⟩
  · obtain ⟨ad, cap, h1, h2⟩ := h.codes.cell i hi
    have hne : cs ≠ [] := fun e => by rw [e] at hi; simp at hi
    obtain ⟨c, T, h3, _⟩ := h.brow hne
    exact ⟨ad, cap, (World.cell?_of_block (a := ⟨b, _, none⟩) (hk.row _ _ _ h3)).trans h1, h2⟩
  · obtain ⟨c, T, h1, h2⟩ := h.codes.row i hi hn
    exact ⟨c, T, (hk.row _ _ _ h1).trans h1, h2⟩
theorem IfAt.keepC {w wr wr' : World} {o : Nat} {bv zv ov : Array Value} {S : CRow} {gb : Nat} {cs : List CRow} {y : Gr} (h : IfAt w o bv zv ov S gb cs y wr) (hk : KpC wr wr') (hb : Below w.heap.size w wr') : IfAt w o bv zv ov S gb cs y wr' :=
  ⟨h.gr.keepC (by omega) hk, h.ow.keepC hk, (hk.row _ _ _ h.bP).trans h.bP, (hk.row _ _ _ h.bR).trans h.bR, (hk.row _ _ _ h.bO).trans h.bO, hb⟩
theorem IcAt.codeC {w wr wr' : World} {o : Nat} {bv zv ov : Array Value} {S : CRow} {gb : Nat} {cs : List CRow} {y : Gr} (h : IcAt w o bv zv ov S gb cs y wr) (b : KpC wr wr') (bw : Below w.heap.size w wr') {i : Nat} (hi : i < y.blocks.length) {code' : List Ins} {gn kn n' : Nat} (hn : n' = code'.length)
    (ho : OwnE InE wr' wr.heap.size (.slice (some ⟨gn, 0, none⟩) n' kn) code') (hm : code'.length ≤ maxLen) (hw : ∀ z ∈ code', z.wf ∧ z.t.size ≤ maxLen) :
    ∃ cs', IcAt w o bv zv ov S gb cs' { y with blocks := y.blocks.set i { y.blocks[i] with code := code' } } (wr'.setCell ⟨gb, i * 5, none⟩ (.slice (some ⟨gn, 0, none⟩) n' kn)) := by
  subst hn
  have hic : i < cs.length := by rw [h.len]; exact hi
  have hne : cs ≠ [] := fun e => by subst e; simp at hic
  have lo := ho.low gn rfl
  have hgl := h.gl hne
  have hs := h.at'.bel.size
  have hbO := hltP h.at'.bO
  have hbR := hltP h.at'.bR
  have h' := h.at'.keepC b bw
  have hb : But gb wr' (wr'.setCell ⟨gb, i * 5, none⟩ (.slice (some ⟨gn, 0, none⟩) code'.length kn)) := (But.refl gb wr').set _ _
  have nc := GrIs.newcode h'.gr h'.ow h.len hi hic (by omega) ho hm hw h.li lo.1
  refine ⟨_, ⟨nc.1, nc.2, hb.keepB h'.bP (by omega), hb.keepB h'.bR (by omega), hb.keepB h'.bO (by omega), h'.bel.trans (hb.below (by omega) h'.bel.size)⟩, ?_, fun _ => hgl, by simp only [List.length_set]; exact h.len, fun k hk => ?_, h.sn⟩
  · have hz := hb.size
    have hz2 := b.size
    exact (h.li.up (by omega)).set ⟨by omega, by omega⟩
  · rw [List.length_set] at hk
    have hkb : k < y.blocks.length := by rw [← h.len]; exact hk
    simp only
    rw [getElem!_pos _ k (by rw [List.length_set]; exact hkb)]
    by_cases e : i = k
    · subst e
      rw [List.getElem_set_self, List.getElem_set_self]
    · rw [List.getElem_set_ne e, List.getElem_set_ne e]
      have := h.num k hk
      rw [getElem!_pos y.blocks k hkb] at this
      exact this
end Go.Proofs.YtelkpikbjfkpcaaGreat

/- The contract of impl.Clean (written by wip/mkclni.py). -/
namespace Go.Proofs.YtelkpikbjfkpcaaGreat
open Go.ChangeShapes Go.WideShapes Go.ChangeAt Go.RowKit
theorem BhAt.over {lo n gm : Nat} {ms : Nat → Nat} {k : Nat} {c : Nat → Nat} {ls : Nat → List Int} {W W' : World} (h : BhAt lo n gm ms k c ls W) (hg : lo ≤ gm) (hk : ∀ g, lo ≤ g → g < W.heap.size → W'.heap[g]? = W.heap[g]?) : BhAt lo n gm ms k c ls W' := by
  obtain ⟨cur, h1, h2⟩ := h.row
  exact ⟨⟨cur, (hk gm hg (hltP h1)).trans h1, h2⟩, fun i hi => ⟨(h.set i hi).1.blk (hk _ (h.set i hi).2 (h.set i hi).1.lt), (h.set i hi).2⟩, h.dis⟩
set_option maxRecDepth 100000 in
set_option maxHeartbeats 16000000 in
theorem impl_clean (x : Gr) (w : World) (B : Nat) (v : Array Value) (h : GrIs w B v x) (GO : OkIs 51 x) (hf : Fits x) :
    Calls Tryz.prog 24 #[.agg v] w fun en w' => MadeGr w (clP x) en w' := by
  have HG0 := hideP h
  have HF := hideP hf
  obtain ⟨y, hy⟩ : ∃ y, grOk x = y := ⟨_, rfl⟩
  have HY := hideP hy
  have CY : Hid (∀ W, Below w.heap.size w W → Calls Tryz.prog 51 #[.agg v] W fun en w' => en = .returned (.bool y) ∧ Below W.heap.size W w') := fun W hW => by rw [← hy]; exact GO W B v (GrKeeps.stays h hW)
  have CC : Hid (∀ W, Below w.heap.size w W → Calls Tryz.prog 30 #[.agg v] W fun en w' => MadeGr W x en w') := fun W hW => graphCopy_any x W B v (GrKeeps.stays h hW) hf
  obtain ⟨X, hX⟩ : ∃ X, clP x = X := ⟨_, rfl⟩
  have HX := hideP hX
  rw [hX]
  clear hy hX GO hf
  obtain ⟨sizes, p, q, r, blocks⟩ := x
  obtain ⟨us, cs, ub, cb, rfl, _⟩ := h
  simp only at *
  have AL := hideP (below2 w (.cells #[.slice us sizes.length cs, .int .i64 p, .int .i64 q, .int .i64 r, .slice ub blocks.length cb] 29) (.cells #[.slice none 0 0, .int .i64 0, .int .i64 0, .int .i64 0, .slice none 0 0] 29))
  have TW := hideP (fun w1 => two (w := w) (w1 := w1) (o1 := .cells #[.slice us sizes.length cs, .int .i64 p, .int .i64 q, .int .i64 r, .slice ub blocks.length cb] 29) (o2 := .cells #[.slice none 0 0, .int .i64 0, .int .i64 0, .int .i64 0, .slice none 0 0] 29))
  have HZ2 : Hid (((w.alloc (.cells #[.slice us sizes.length cs, .int .i64 p, .int .i64 q, .int .i64 r, .slice ub blocks.length cb] 29)).alloc (.cells #[.slice none 0 0, .int .i64 0, .int .i64 0, .int .i64 0, .slice none 0 0] 29)).heap.size = w.heap.size + 2) := by show _ = _; simp
  go_enter Tryz.func24, Tryz.ntmps24
  go_wp2_with fail
  refine (CC.out _ AL.out).mono ?_
  rintro e1 w1 ⟨v1, S, g1, cs1, rfl, gi, ow, lo, n1, n2, n3, bel1⟩
  obtain ⟨P1, RR, L1, hw⟩ := TW.out w1 bel1
  rw [HZ2.out] at gi lo
  obtain ⟨us1, ks1, ub1, kb1, rfl, _⟩ := id gi
  simp only at gi ow n1 n2 n3 ⊢
  have al2 := (Below.refl w1.heap.size w1).alloc (Nat.le_refl _) (.cells #[.slice us1 sizes.length ks1, .int .i64 p, .int .i64 q, .int .i64 r, .slice ub1 blocks.length kb1] 29)
  have I0 : Hid (IfAt w w1.heap.size #[.slice us sizes.length cs, .int .i64 p, .int .i64 q, .int .i64 r, .slice ub blocks.length cb] #[.slice none 0 0, .int .i64 0, .int .i64 0, .int .i64 0, .slice none 0 0] #[.slice us1 sizes.length ks1, .int .i64 p, .int .i64 q, .int .i64 r, .slice ub1 blocks.length kb1] S g1 cs1 ⟨sizes, p, q, r, blocks⟩ (w1.alloc (.cells #[.slice us1 sizes.length ks1, .int .i64 p, .int .i64 q, .int .i64 r, .slice ub1 blocks.length kb1] 29))) := ⟨GrKeeps.stays gi al2, ow.stays al2, (al2.block _ (hltP P1)).trans P1, (al2.block _ (hltP RR)).trans RR, blk_newG w1 _, below_trans hw al2⟩
  have LO := hideP lo
  have NN : Hid (S.n = sizes.length ∧ cs1.length = blocks.length ∧ ∀ i (h : i < cs1.length), cs1[i].n = (blocks[i]!).code.length) := ⟨n1, n2, n3⟩
  clear bel1 P1 RR hw TW AL CC al2 gi ow lo n1 n2 n3 HZ2 L1
  go_upto_region 2 with fail
  obtain ⟨Wb, hWb⟩ : ∃ Wb, w1.alloc (.cells #[.slice us1 sizes.length ks1, .int .i64 p, .int .i64 q, .int .i64 r, .slice ub1 blocks.length kb1] 29) = Wb := ⟨_, rfl⟩
  rw [hWb] at I0 ⊢
  clear hWb
  have c0 := (cells_of I0.out.bP).1 0
  have c1 := (cells_of I0.out.bP).1 1
  have c2 := (cells_of I0.out.bP).1 2
  have c3 := (cells_of I0.out.bP).1 3
  have c4 := (cells_of I0.out.bP).1 4
  simp at c0 c1 c2 c3 c4
  go_wp2_with fail
  refine (CY.out _ I0.out.bel).mono ?_
  rintro e2 w2 ⟨rfl, bel2⟩
  have I2 := hideP (I0.out.stays bel2)
  clear CY c0 c1 c2 c3 c4 I0 bel2
  cases y with
  | false =>
    have E : Hid (X = ⟨sizes, p, q, r, blocks⟩) := by show _ = _; rw [← HX.out]; exact clP_no (by rw [HY.out]; simp)
    have z := I2.out.bR
    have d0 := (cells_of I2.out.bO).1 0
    have d1 := (cells_of I2.out.bO).1 1
    have d2 := (cells_of I2.out.bO).1 2
    have d3 := (cells_of I2.out.bO).1 3
    have d4 := (cells_of I2.out.bO).1 4
    have r0 := (cells_of z).1 0
    have r1 := (cells_of z).1 1
    have r2 := (cells_of z).1 2
    have r3 := (cells_of z).1 3
    have r4 := (cells_of z).1 4
    have rf := (cells_of z).2
    simp at d0 d1 d2 d3 d4 r0 r1 r2 r3 r4
    have z0 := heap_setCell_same w2 _ 0 _ _ (.slice us1 sizes.length ks1) z
    have z1 := heap_setCell_same _ _ 1 _ _ (.int .i64 p) z0
    have z2 := heap_setCell_same _ _ 2 _ _ (.int .i64 q) z1
    have z3 := heap_setCell_same _ _ 3 _ _ (.int .i64 r) z2
    have z4 : (((((w2.setCell ⟨w.heap.size + 1, 0, none⟩ (.slice us1 sizes.length ks1)).setCell ⟨w.heap.size + 1, 1, none⟩ (.int .i64 p)).setCell ⟨w.heap.size + 1, 2, none⟩ (.int .i64 q)).setCell ⟨w.heap.size + 1, 3, none⟩ (.int .i64 r)).setCell ⟨w.heap.size + 1, 4, none⟩ (.slice ub1 blocks.length kb1)).heap[w.heap.size + 1]? = some (.cells #[.slice us1 sizes.length ks1, .int .i64 p, .int .i64 q, .int .i64 r, .slice ub1 blocks.length kb1] 29 (0, 0)) := heap_setCell_same _ _ 4 _ _ (.slice ub1 blocks.length kb1) z3
    have ZF := hideP z4
    have BU : Hid (But (w.heap.size + 1) w2 (((((w2.setCell ⟨w.heap.size + 1, 0, none⟩ (.slice us1 sizes.length ks1)).setCell ⟨w.heap.size + 1, 1, none⟩ (.int .i64 p)).setCell ⟨w.heap.size + 1, 2, none⟩ (.int .i64 q)).setCell ⟨w.heap.size + 1, 3, none⟩ (.int .i64 r)).setCell ⟨w.heap.size + 1, 4, none⟩ (.slice ub1 blocks.length kb1))) := ((((((But.refl (w.heap.size + 1) w2).set 0 (.slice us1 sizes.length ks1)).set 1 (.int .i64 p)).set 2 (.int .i64 q)).set 3 (.int .i64 r)).set 4 (.slice ub1 blocks.length kb1))
    clear z z0 z1 z2 z3 z4
    go_wp2
    refine bodyPost_ret (results_cell_row rfl _ _ (w.heap.size + 1) 29 #[.slice us1 sizes.length ks1, .int .i64 p, .int .i64 q, .int .i64 r, .slice ub1 blocks.length kb1] (0, 0) _ rfl ZF.out Tryz.underlying29 rfl (by kernel_rfl)) rfl ?_
    rw [E.out]
    have hlt := hltP I2.out.bR
    have hsb := BU.out.size
    refine ⟨_, S, g1, cs1, rfl, GrKeeps.mono (GrKeeps.but I2.out.gr (by omega) BU.out) (by omega), I2.out.ow.above (B := w.heap.size + 2) (fun c hc => (LO.out c hc).1) (fun k hk hkl => BU.out.block k hkl (by omega)), fun c hc => ?_, NN.out.1, NN.out.2.1, NN.out.2.2, I2.out.bel.trans (BU.out.below (by omega) (by omega))⟩
    have := LO.out c hc
    have := hltP I2.out.bO
    omega
  | true =>
    have hok : Hid (grOk ⟨sizes, p, q, r, blocks⟩ = true) := HY.out
    have hbl : blocks.length ≤ 300 := by have := hok.out; simp only [grOk, Bool.and_eq_true, decide_eq_true_eq] at this; omega
    obtain ⟨V, hV⟩ : ∃ V : Nat, r = (V : Int) := by
      have := hok.out
      simp only [grOk, frOk, Bool.and_eq_true, decide_eq_true_eq] at this
      exact ⟨r.toNat, by omega⟩
    subst hV
    have hV1 : V ≤ 1000 := by have := hok.out; simp only [grOk, Bool.and_eq_true, decide_eq_true_eq] at this; omega
    have E : Hid (X = ⟨sizes, p, q, (V : Int), blocks.mapIdx fun i b => clB (LiveB blocks i) b⟩) := by show _ = _; rw [← HX.out]; exact clP_ok hok.out
    have BOK : Hid (BsOk V blocks) := bsOk_of hok.out rfl
    have HCL : Hid (∀ b ∈ blocks, b.code.length ≤ 1000) := fun b hb => by
      have := hok.out
      simp only [grOk, Bool.and_eq_true, decide_eq_true_eq] at this
      have := code_le8 hb
      omega
    have c0 := (cells_of I2.out.bP).1 0
    have c1 := (cells_of I2.out.bP).1 1
    have c2 := (cells_of I2.out.bP).1 2
    have c3 := (cells_of I2.out.bP).1 3
    have c4 := (cells_of I2.out.bP).1 4
    simp at c0 c1 c2 c3 c4
    have J2 : Hid (IcAt w w1.heap.size #[.slice us sizes.length cs, .int .i64 p, .int .i64 q, .int .i64 (V : Int), .slice ub blocks.length cb] #[.slice none 0 0, .int .i64 0, .int .i64 0, .int .i64 0, .slice none 0 0] #[.slice us1 sizes.length ks1, .int .i64 p, .int .i64 q, .int .i64 (V : Int), .slice ub1 blocks.length kb1] S g1 cs1 ⟨sizes, p, q, (V : Int), blocks⟩ w2) := by
      have li := Lies.of I2.out.ow LO.out
      exact ⟨I2.out, li.up (Nat.le_of_lt (hltP I2.out.bO)), li.b, NN.out.2.1, NN.out.2.2, NN.out.1⟩
    have LB : Hid (Calls Tryz.prog 52 #[.agg #[.slice us sizes.length cs, .int .i64 p, .int .i64 q, .int .i64 (V : Int), .slice ub blocks.length cb]] w2 fun e w' => BehMade w2 blocks e w') := by
      have g2 := GrKeeps.stays HG0.out I2.out.bel
      obtain ⟨us', cs', ub', cb', hv', _, _, hbb⟩ := id g2
      simp only at hv'
      have e4 := (slice_inj (five_inj hv').2).1
      subst e4
      exact liveBehind_any ⟨sizes, p, q, (V : Int), blocks⟩ V w2 B us cs ub cb g2 hbb hok.out rfl
    clear HX HY I2 LO NN
    go_wp2_with fail
    refine LB.out.mono ?_
    rintro e3 w3 ⟨gm, ms, ls3, C3, rfl, hgm, bh3, lv3, hC3, b3⟩
    have J3 := hideP (J2.out.stays b3)
    have GM := hideP hgm
    have S3 : Hid (BhAt w2.heap.size blocks.length gm ms blocks.length (fun _ => C3) ls3 w3 ∧ ∀ i, 0 ≤ i → i < blocks.length → C3 ≤ 1000000 ∧ ∀ s, s ∈ ls3 i ↔ LiveB blocks i s) := ⟨bh3, fun i _ hi => ⟨hC3, lv3 i hi⟩⟩
    have OW2 : Hid (w1.heap.size < w2.heap.size) := hltP J2.out.at'.bO
    clear c0 c1 c2 c3 c4 hgm bh3 lv3 hC3 b3 LB J2 HG0
    go_wp2
    go_loopg [16] blocks.length (fun gk ix wr => ∃ j : Nat, gk + j = blocks.length ∧ ix = .int .i64 j ∧ Hid (∃ cs2 c ls, IcAt w w1.heap.size #[.slice us sizes.length cs, .int .i64 p, .int .i64 q, .int .i64 (V : Int), .slice ub blocks.length cb] #[.slice none 0 0, .int .i64 0, .int .i64 0, .int .i64 0, .slice none 0 0] #[.slice us1 sizes.length ks1, .int .i64 p, .int .i64 q, .int .i64 (V : Int), .slice ub1 blocks.length kb1] S g1 cs2 ⟨sizes, p, q, (V : Int), midX (fun i b => clB (LiveB blocks i) b) blocks j⟩ wr ∧ BhAt w2.heap.size blocks.length gm ms blocks.length c ls wr ∧ ∀ i, j ≤ i → i < blocks.length → c i ≤ 1000000 ∧ ∀ s, s ∈ ls i ↔ LiveB blocks i s))
    case atStart => exact ⟨0, by simp, rfl, _, _, _, J3.out, S3.out.1, S3.out.2⟩
    case round =>
      obtain ⟨j, hj, rfl, hI0⟩ := hrel
      obtain ⟨cs2, c, ls, hI1, hB1, hL1⟩ := hI0.out
      have hI := hideP hI1
      clear J3 hI0 hI1 S3
      by_cases hlt : j < blocks.length
      · have hl2 : cs2.length = blocks.length := by have := hI.out.len; simp only [midX_len] at this; exact this
        have hjc : j < cs2.length := by rw [hl2]; exact hlt
        have hjm : j < (midX (fun i b => clB (LiveB blocks i) b) blocks j).length := by rw [midX_len]; exact hlt
        obtain ⟨us2, kS2, ub2, kB2, vs, hv, hub, z1, z2, hrow, z3, z4, hall⟩ := hI.out.at'.ow.codeAt hI.out.at'.gr hjc
        obtain ⟨z5, e4⟩ := five_inj hv
        have e5 := (slice_inj e4).1
        subst e5
        obtain ⟨uc, kc, hvj, z6, hcode, z7, z8⟩ := hall j hjm hjc
        have hmj : (midX (fun i b => clB (LiveB blocks i) b) blocks j)[j] = blocks[j] := midX_ge (fun i b => clB (LiveB blocks i) b) blocks j j (Nat.le_refl _) hlt
        have hrc : ∀ i, i < 5 → wr.cell? ⟨g1, j * 5 + i, none⟩ = (vs j)[i]? := by
          rcases hrow with h0 | ⟨b', o', ha, _, _, _, hcc⟩
          · exact absurd h0 (by rw [midX_len]; omega)
          · rw [hub] at ha
            cases ha
            intro i hi
            have := (hcc j hjm).2 i hi
            simpa using this
        simp only at hmj hvj hcode
        rw [hmj] at hvj hcode
        rw [hvj] at hrc
        obtain ⟨BK, hBK⟩ : ∃ BK, blocks[j] = BK := ⟨_, rfl⟩
        have HBK := hideP hBK
        have hcl := HCL.out _ (List.getElem_mem hlt)
        have hcd := BOK.out.code _ (List.getElem_mem hlt)
        have hjd := (BOK.out.jump _ (List.getElem_mem hlt)).1
        rw [hBK] at hvj hcode hrc hcl hcd hjd
        obtain ⟨code, jump, a, t0, els⟩ := BK
        simp only at hvj hcode hrc hcl hcd
        have q0 : wr.cell? ⟨g1, j * 5, none⟩ = some (.slice uc code.length kc) := hrc 0 (by omega)
        have q1 : wr.cell? ⟨g1, j * 5 + 1, none⟩ = some (.int .i64 jump) := hrc 1 (by omega)
        have q2 : wr.cell? ⟨g1, j * 5 + 2, none⟩ = some (.int .i64 a) := hrc 2 (by omega)
        have q3 : wr.cell? ⟨g1, j * 5 + 3, none⟩ = some (.int .i64 t0) := hrc 3 (by omega)
        have q4 : wr.cell? ⟨g1, j * 5 + 4, none⟩ = some (.int .i64 els) := hrc 4 (by omega)
        subst hub
        have hgl := hI.out.gl (fun e => by rw [e] at hjc; simp at hjc)
        have d4 := (cells_of hI.out.at'.bO).1 4
        have gmj := hB1.at hlt
        simp at d4
        have hw := ins_all hcode
        have HWF := hideP hw
        have ROW : Hid (∃ c T, wr.heap[g1]? = some (.cells c T (0, 0))) := by
          obtain ⟨c, T, h1, _⟩ := hI.out.at'.ow.brow (fun e => by rw [e] at hjc; simp at hjc)
          exact ⟨c, T, h1⟩
        have Q0 := hideP q0
        have HC := hideP hcode
        have CD := hideP hcd
        have JD := hideP hjd
        have CL := hideP hcl
        obtain ⟨J, hJ⟩ : ∃ J, jumpP ⟨code, jump, a, t0, els⟩ = J := ⟨_, rfl⟩
        have JU : Hid (∀ W, Calls Tryz.prog 54 #[.agg #[.slice uc code.length kc, .int .i64 jump, .int .i64 a, .int .i64 t0, .int .i64 els]] W fun e w' => ∃ v, e = .returned v ∧ OwnI w' W.heap.size v J ∧ Below W.heap.size W w') := fun W => by rw [← hJ]; exact jumpUses_any code jump a t0 els W (.slice uc code.length kc)
        have hJl : J.length ≤ 1 := by rw [← hJ]; unfold jumpP; split <;> simp
        have JI : Hid (∀ s ∈ J, I64 s) := fun s hs => slot_i64 hV1 (hjd s (by rw [hJ]; exact hs))
        have PB : Hid (∀ s, s ∈ ls j ++ J ↔ behindQ ⟨code, jump, a, t0, els⟩ (LiveB blocks j) s) := fun s => by
          rw [List.mem_append, (hL1 j (Nat.le_refl _) hlt).2 s, ← hJ]
          unfold behindQ
          first | exact Or.comm | exact Iff.rfl
        obtain ⟨m, hm⟩ : ∃ m, ms j = m := ⟨_, rfl⟩
        have SM := hideP (hB1.set j hlt).1
        rw [hm] at gmj SM
        have MM : Hid (ms j = m) := hm
        have CJ := (hL1 j (Nat.le_refl _) hlt).1
        have HB := hideP hB1
        have HL : Hid (∀ i, j + 1 ≤ i → i < blocks.length → c i ≤ 1000000 ∧ ∀ s, s ∈ ls i ↔ LiveB blocks i s) := fun i hi => hL1 i (by omega)
        clear hv e4 hrow hall hvj hcode hmj hrc hcl hcd hjd hw hBK z1 z2 z3 z4 z5 z6 z7 z8 hjc hl2 hjm hJ hm hB1 hL1
        go_upto_region 8 with fail
        go_wp2_with fail
        refine (JU.out wr).mono ?_
        rintro e4 w4 ⟨v4, rfl, o4, b4⟩
        have A5 := hideP (addI_any (ls j) J w4 m (c j) _ v4 (SM.out.stays b4) o4 JI.out (by omega) (by omega))
        have B4 := hideP b4
        clear o4 b4 JU q0 q1 q2 q3 q4 d4 gmj
        go_wp2_with fail
        refine A5.out.mono ?_
        rintro e5 w5 ⟨rfl, s5, b5⟩
        have NM4 : Hid (∀ c T, w4.heap[m]? ≠ some (.cells c T (0, 0))) := fun c T e => by
          obtain ⟨es, cl, hm⟩ := (SM.out.stays B4.out).isMap
          rw [hm] at e; cases e
        have NM5 : Hid (∀ c T, w5.heap[m]? ≠ some (.cells c T (0, 0))) := fun c T e => by
          obtain ⟨es, cl, hm⟩ := s5.isMap
          rw [hm] at e; cases e
        have K5 := hideP ((KpC.of B4.out).trans (KpC.but b5 NM4.out))
        have T5 : Hid (But m wr w5) := (But.ofBelowP B4.out).twice b5
        have q0 : w5.cell? ⟨g1, j * 5, none⟩ = some (.slice uc code.length kc) := by
          obtain ⟨c', T, h1⟩ := ROW.out
          exact (World.cell?_of_block (a := ⟨g1, j * 5, none⟩) (K5.out.row _ _ _ h1)).trans Q0.out
        have WU := hideP (withoutUnused_any code (behindQ ⟨code, jump, a, t0, els⟩ (LiveB blocks j)) V w5 _ uc kc m (c j + J.length) (ls j ++ J) (codeKeepC HC.out (by omega) K5.out) s5 PB.out CL.out (by omega) CD.out hV1)
        clear s5 b5 A5 SM
        go_wp2_with fail
        refine WU.out.mono ?_
        rintro e6 w6 ⟨v6, rfl, o6, ⟨n6, l6, s6⟩, b6⟩
        obtain ⟨gn, kn, hv6, _⟩ := id o6
        subst hv6
        have K6 := hideP (K5.out.trans (KpC.but b6 NM5.out))
        have T6 := hideP (T5.out.twice b6)
        obtain ⟨dc, hdc⟩ : ∃ dc, clCode (behindQ ⟨code, jump, a, t0, els⟩ (LiveB blocks j)) code = dc := ⟨_, rfl⟩
        have HWD : Hid (dc.length ≤ maxLen ∧ ∀ z ∈ dc, z.wf ∧ z.t.size ≤ maxLen) := by
          rw [← hdc]
          exact ⟨by have h1 := clCode_few (behindQ ⟨code, jump, a, t0, els⟩ (LiveB blocks j)) code; have h2 := CL.out; unfold maxLen; omega, fun z hz => HWF.out z (clCode_mem z hz)⟩
        rw [hdc] at o6 ⊢
        have HDC := hideP hdc
        have low2 : w.heap.size ≤ w2.heap.size := by have := hI.out.at'.bel.size; have := OW2.out; have := hgl; omega
        have hmlo : w2.heap.size ≤ m := by rw [← MM.out]; exact (HB.out.set j hlt).2
        have W6 : Hid (Below w.heap.size w w6) := hI.out.at'.bel.trans (T6.out.below (by omega) hI.out.at'.bel.size)
        have RF : (w6.cell? ⟨g1, j * 5, none⟩ = some (.slice uc code.length kc)) ∧ ∀ i, w6.frozen? ⟨g1, i, none⟩ = false := by
          obtain ⟨c', T, h1⟩ := ROW.out
          have h2 := K6.out.row _ _ _ h1
          exact ⟨(World.cell?_of_block (a := ⟨g1, j * 5, none⟩) h2).trans Q0.out, (cells_of (h2.trans h1)).2⟩
        have N6 : Hid (∃ cs3 c' ls', IcAt w w1.heap.size #[.slice us sizes.length cs, .int .i64 p, .int .i64 q, .int .i64 (V : Int), .slice ub blocks.length cb] #[.slice none 0 0, .int .i64 0, .int .i64 0, .int .i64 0, .slice none 0 0] #[.slice us1 sizes.length ks1, .int .i64 p, .int .i64 q, .int .i64 (V : Int), .slice (some ⟨g1, 0, none⟩) blocks.length kb1] S g1 cs3 ⟨sizes, p, q, (V : Int), midX (fun i b => clB (LiveB blocks i) b) blocks (j + 1)⟩ (w6.setCell ⟨g1, j * 5, none⟩ (.slice (some ⟨gn, 0, none⟩) dc.length kn)) ∧ BhAt w2.heap.size blocks.length gm ms blocks.length c' ls' (w6.setCell ⟨g1, j * 5, none⟩ (.slice (some ⟨gn, 0, none⟩) dc.length kn)) ∧ ∀ i, j + 1 ≤ i → i < blocks.length → c' i ≤ 1000000 ∧ ∀ s, s ∈ ls' i ↔ LiveB blocks i s) := by
          have hmj : (midX (fun i b => clB (LiveB blocks i) b) blocks j)[j]'(by rw [midX_len]; exact hlt) = ⟨code, jump, a, t0, els⟩ := (midX_ge (fun i b => clB (LiveB blocks i) b) blocks j j (Nat.le_refl _) hlt).trans HBK.out
          obtain ⟨cs3, hr⟩ := hI.out.codeC K6.out W6.out (i := j) (by simp only [midX_len]; exact hlt) (code' := dc) rfl (o6.mono K5.out.size) HWD.out.1 HWD.out.2
          simp only [hmj] at hr
          have e9 : midX (fun i b => clB (LiveB blocks i) b) blocks (j + 1) = (midX (fun i b => clB (LiveB blocks i) b) blocks j).set j ⟨dc, jump, a, t0, els⟩ := by
            show (midX (fun i b => clB (LiveB blocks i) b) blocks j).set j (clB (LiveB blocks j) (blocks[j]!)) = _
            rw [getElem!_pos blocks j hlt, HBK.out, ← HDC.out]; rfl
          have bp := HB.out.put (c' := fun i => if i = j then n6 else c i) (ls' := fun i => if i = j then l6 else ls i) hlt (by rw [MM.out]; exact T6.out) (by rw [MM.out]; simpa using s6) (fun i hi => by simp [hi])
          refine ⟨cs3, _, _, by rw [e9]; exact hr, bp.over GM.out (fun g hg _ => Below.heap_setCell w6 ⟨g1, j * 5, none⟩ _ g (by have := OW2.out; show g ≠ g1; omega)), fun i h1 h2 => ?_⟩
          have hne : i ≠ j := by omega
          simp only [if_neg hne]
          exact HL.out i h1 h2
        obtain ⟨q6, qf⟩ := RF
        clear o6 s6 b6 WU q0 hdc K5 K6 T5 T6 NM4 NM5 hI HB HL ROW Q0 HC
        go_wp2
        clear q6 qf
        go_roundg (blocks.length - (j + 1))
        case rel => exact ⟨j + 1, by omega, by go_num, N6.out⟩
        case measure => omega
      · have hjn : j = blocks.length := by omega
        subst hjn
        have MA : Hid (midX (fun i b => clB (LiveB blocks i) b) blocks blocks.length = blocks.mapIdx fun i b => clB (LiveB blocks i) b) := midX_all (fun i b => clB (LiveB blocks i) b) blocks
        rw [MA.out] at hI
        have z := hI.out.at'.bR
        have d0 := (cells_of hI.out.at'.bO).1 0
        have d1 := (cells_of hI.out.at'.bO).1 1
        have d2 := (cells_of hI.out.at'.bO).1 2
        have d3 := (cells_of hI.out.at'.bO).1 3
        have d4 := (cells_of hI.out.at'.bO).1 4
        have r0 := (cells_of z).1 0
        have r1 := (cells_of z).1 1
        have r2 := (cells_of z).1 2
        have r3 := (cells_of z).1 3
        have r4 := (cells_of z).1 4
        have rf := (cells_of z).2
        simp at d0 d1 d2 d3 d4 r0 r1 r2 r3 r4
        have z0 := heap_setCell_same wr _ 0 _ _ (.slice us1 sizes.length ks1) z
        have z1 := heap_setCell_same _ _ 1 _ _ (.int .i64 p) z0
        have z2 := heap_setCell_same _ _ 2 _ _ (.int .i64 q) z1
        have z3 := heap_setCell_same _ _ 3 _ _ (.int .i64 (V : Int)) z2
        have z4 : (((((wr.setCell ⟨w.heap.size + 1, 0, none⟩ (.slice us1 sizes.length ks1)).setCell ⟨w.heap.size + 1, 1, none⟩ (.int .i64 p)).setCell ⟨w.heap.size + 1, 2, none⟩ (.int .i64 q)).setCell ⟨w.heap.size + 1, 3, none⟩ (.int .i64 (V : Int))).setCell ⟨w.heap.size + 1, 4, none⟩ (.slice ub1 blocks.length kb1)).heap[w.heap.size + 1]? = some (.cells #[.slice us1 sizes.length ks1, .int .i64 p, .int .i64 q, .int .i64 (V : Int), .slice ub1 blocks.length kb1] 29 (0, 0)) := heap_setCell_same _ _ 4 _ _ (.slice ub1 blocks.length kb1) z3
        have ZF := hideP z4
        have BU : Hid (But (w.heap.size + 1) wr (((((wr.setCell ⟨w.heap.size + 1, 0, none⟩ (.slice us1 sizes.length ks1)).setCell ⟨w.heap.size + 1, 1, none⟩ (.int .i64 p)).setCell ⟨w.heap.size + 1, 2, none⟩ (.int .i64 q)).setCell ⟨w.heap.size + 1, 3, none⟩ (.int .i64 (V : Int))).setCell ⟨w.heap.size + 1, 4, none⟩ (.slice ub1 blocks.length kb1))) := ((((((But.refl (w.heap.size + 1) wr).set 0 (.slice us1 sizes.length ks1)).set 1 (.int .i64 p)).set 2 (.int .i64 q)).set 3 (.int .i64 (V : Int))).set 4 (.slice ub1 blocks.length kb1))
        clear z z0 z1 z2 z3 z4
        go_wp2
        refine bodyPost_ret (results_cell_row rfl _ _ (w.heap.size + 1) 29 #[.slice us1 sizes.length ks1, .int .i64 p, .int .i64 q, .int .i64 (V : Int), .slice ub1 blocks.length kb1] (0, 0) _ rfl ZF.out Tryz.underlying29 rfl (by kernel_rfl)) rfl ?_
        rw [E.out]
        have hlt := hltP hI.out.at'.bR
        have hsb := BU.out.size
        have LO := hI.out.li.all
        refine ⟨_, S, g1, cs2, rfl, GrKeeps.mono (GrKeeps.but hI.out.at'.gr (by omega) BU.out) (by omega), hI.out.at'.ow.above (B := w.heap.size + 2) (fun c hc => (LO c hc).1) (fun k hk hkl => BU.out.block k hkl (by omega)), fun c hc => ?_, hI.out.sn, hI.out.len, hI.out.num, hI.out.at'.bel.trans (BU.out.below (by omega) (by omega))⟩
        have := LO c hc
        omega
end Go.Proofs.YtelkpikbjfkpcaaGreat

/- How great the graph is that impl.Clean makes. -/
namespace Go.Proofs.YtelkpikbjfkpcaaGreat
open Go.ChangeShapes Go.WideShapes Go.ChangeAt Go.RowKit
theorem celS_mapIdx : ∀ (l : List Blk) (h : Nat → Blk → Blk), (∀ i b, (h i b).code.length ≤ b.code.length) → celS (l.mapIdx h) ≤ celS l
  | [], _, _ => Nat.le_refl _
  | b :: l, h, hh => by
    have h1 := celS_mapIdx l (fun i => h (i + 1)) (fun i b => hh (i + 1) b)
    have h2 := hh 0 b
    simp only [List.mapIdx_cons, celS, celN]
    omega
theorem clP_few {x : Gr} (h : x.sz ≤ 1048576) : (clP x).sizes.length + celS (clP x).blocks ≤ 50000000 := by
  have h1 := celS_sz x.blocks
  simp only [Gr.sz, slSz] at h
  by_cases hok : grOk x = true
  · rw [clP_ok hok]
    have h2 := celS_mapIdx x.blocks (fun i b => clB (LiveB x.blocks i) b) (fun i b => clCode_few _ b.code)
    simp only
    omega
  · rw [clP_no hok]
    omega
end Go.Proofs.YtelkpikbjfkpcaaGreat
