/- The slots that a step uses: both functions. -/
import Derived.Test.YtelkpikbjfkpcaaGreatShD
import Derived.Test.YtelkpikbjfkpcaaGreatOwnA
import Derived.Test.YtelkpikbjfkpcaaGreatInsA
import Derived.Test.YtelkpikbjfkpcaaGreatAliB
namespace Go.Proofs.YtelkpikbjfkpcaaGreat
open Go.ChangeShapes Go.WideShapes Go.ChangeAt Go.RowKit
def cellP (a b : Int) : List Int := if a < 0 then [b] else [b, a]
def usesP (x : Ins) : List Int :=
  if x.op = 1 ∨ x.op = 6 then [x.a] else if x.op = 2 then [x.a, x.b] else if x.op = 3 then cellP x.a x.b else if x.op = 4 then cellP x.a x.b ++ [x.c] else []
theorem cellP_neg {a b : Int} (h : a < 0) : cellP a b = [b] := if_pos h
theorem cellP_pos {a b : Int} (h : ¬ a < 0) : cellP a b = [b, a] := if_neg h
theorem usesP_none {x : Ins} (h1 : ¬ x.op = 1) (h2 : ¬ x.op = 2) (h3 : ¬ x.op = 3) (h4 : ¬ x.op = 4) (h6 : ¬ x.op = 6) : usesP x = [] := by simp [usesP, *]
theorem lit2 (w : World) (o : Obj) (l : List Int) (cs : Array Value) (n m : Nat) (hn : n = w.heap.size + 1) (hm : m = l.length) (hcs : cs = (l.map (Value.int .i64)).toArray) (hl : l.length ≤ 1000) : OwnI ((w.alloc o).alloc (.cells cs 3)) (w.heap.size + 1) (.slice (some ⟨n, 0, none⟩) m m) l := by
  have := own_lit (w.alloc o) l cs n m (by simpa using hn) hm hcs hl
  simpa using this
theorem sz3 (w : World) (o p q : Obj) : w.heap.size + 1 ≤ (((w.alloc o).alloc p).alloc q).heap.size := by simp
theorem ob {g n c b : Nat} (h : (Value.slice (some ⟨g, 0, none⟩) n c).ownBlock = some b) : g = b := by simpa [Value.ownBlock] using h
theorem box3 (w : World) (o p q : Obj) : (((w.alloc o).alloc p).alloc q).heap[w.heap.size]? = some o := by
  show (((w.heap.push o).push p).push q)[w.heap.size]? = _
  rw [Array.getElem?_push, Array.getElem?_push, Array.getElem?_push]; simp; intro h; omega
theorem bel2 (w : World) (o p : Obj) : Below w.heap.size w ((w.alloc o).alloc p) := below2 w o p
theorem cellUses_any (x : Ins) (w : World) (B : Nat) (v : Array Value) (h : InsIs w B v x) :
    Calls Tryz.prog 154 #[.agg v] w fun en w' => ∃ v', en = .returned v' ∧ OwnI w' w.heap.size v' (cellP x.a x.b) ∧ Below w.heap.size w w' := by
  obtain ⟨op, d, a, b, c, n, t⟩ := x
  obtain ⟨rfl, _⟩ := h
  by_cases ha : a < 0
  · rw [cellP_neg ha]
    go_enter Tryz.func154, Tryz.ntmps154
    go_wp2
    go_ret
    exact ⟨_, rfl, (lit2 w _ [b] _ _ _ rfl rfl rfl (by simp)).mono (by omega), bel2 w _ _⟩
  · rw [cellP_pos ha]
    go_enter Tryz.func154, Tryz.ntmps154
    go_wp2
    go_ret
    exact ⟨_, rfl, (lit2 w _ [b, a] _ _ _ rfl rfl rfl (by simp)).mono (by omega), bel2 w _ _⟩
set_option maxHeartbeats 2000000 in
theorem spec_uses (x : Ins) (w : World) (B : Nat) (v : Array Value) (h : InsIs w B v x) :
    Calls Tryz.prog 84 #[.agg v] w fun en w' => ∃ v', en = .returned v' ∧ OwnI w' w.heap.size v' (usesP x) ∧ Below w.heap.size w w' := by
  obtain ⟨op, d, a, b, c, n, t⟩ := x
  obtain ⟨rfl, _⟩ := h
  have h3 : ∀ (o p q : Obj), Below w.heap.size w (((w.alloc o).alloc p).alloc q) := fun o p q => below3 w o p q
  by_cases h1 : op = 1 ∨ op = 6
  · have e : usesP ⟨op, d, a, b, c, n, t⟩ = [a] := if_pos h1
    rw [e]
    rcases h1 with rfl | rfl
    all_goals
      go_enter Tryz.func84, Tryz.ntmps84
      go_wp2
      go_ret
      exact ⟨_, rfl, (lit2 w _ [a] _ _ _ rfl rfl rfl (by simp)).mono (by omega), bel2 w _ _⟩
  · by_cases h2 : op = 2
    · subst h2
      have e : usesP ⟨2, d, a, b, c, n, t⟩ = [a, b] := by simp [usesP]
      rw [e]
      go_enter Tryz.func84, Tryz.ntmps84
      go_wp2
      go_ret
      exact ⟨_, rfl, (lit2 w _ [a, b] _ _ _ rfl rfl rfl (by simp)).mono (by omega), bel2 w _ _⟩
    · by_cases h34 : op = 3 ∨ op = 4
      · by_cases ha : a < 0
        · have O : Hid (∀ o p, OwnI ((w.alloc o).alloc (.cells #[.int .i64 b] 3)) (w.heap.size + 1) (.slice (some ⟨w.heap.size + 1, 0, none⟩) 1 1) [b] ∧ OwnI (((w.alloc o).alloc (.cells #[.int .i64 b] 3)).alloc (.cells #[.int .i64 p] 3)) (w.heap.size + 1) (.slice (some ⟨w.heap.size + 1, 0, none⟩) 1 1) [b] ∧ OwnI (((w.alloc o).alloc (.cells #[.int .i64 b] 3)).alloc (.cells #[.int .i64 p] 3)) (w.heap.size + 1 + 1) (.slice (some ⟨w.heap.size + 1 + 1, 0, none⟩) 1 1) [p]) := fun o p => ⟨lit2 w o [b] _ _ _ rfl rfl rfl (by simp), (lit2 w o [b] _ _ _ rfl rfl rfl (by simp)).stays ((Below.refl _ _).alloc (Nat.le_refl _) _), by simpa using lit2 (w.alloc o) (.cells #[.int .i64 b] 3) [p] _ _ _ (by simp) rfl rfl (by simp)⟩
          rcases h34 with rfl | rfl
          · have e : usesP ⟨3, d, a, b, c, n, t⟩ = [b] := by simp [usesP, cellP, ha]
            rw [e]
            go_enter Tryz.func84, Tryz.ntmps84
            go_wp2
            go_ret
            exact ⟨_, rfl, (O.out _ 0).1.mono (by omega), bel2 w _ _⟩
          · have e : usesP ⟨4, d, a, b, c, n, t⟩ = [b] ++ [c] := by simp [usesP, cellP, ha]
            rw [e]
            go_enter Tryz.func84, Tryz.ntmps84
            go_wp2_with (at_builtin; refine list_appI _ rfl _ _ rfl (w.heap.size + 1) _ [b] [c] (w.heap.size + 1 + 1) 0 1 1 rfl rfl rfl (O.out _ c).2.1 (O.out _ c).2.2.at (by simp) (sz3 w _ _ _) ?_; intro v1 w1 o1 grow1 loc1)
            have HB := hideP ((h3 _ _ _).grown grow1 (h3 _ _ _).size (fun b' hb' => by have := ob hb'; omega))
            obtain ⟨g1, cap1, rfl, _⟩ := id o1
            have O1 := hideP o1
            clear o1 grow1 loc1
            go_wp2
            go_ret
            exact ⟨_, rfl, O1.out.mono (by omega), HB.out⟩
        · have O : Hid (∀ o p, OwnI (((w.alloc o).alloc (.cells #[.int .i64 b] 3)).alloc (.cells #[.int .i64 p] 3)) (w.heap.size + 1) (.slice (some ⟨w.heap.size + 1, 0, none⟩) 1 1) [b] ∧ OwnI (((w.alloc o).alloc (.cells #[.int .i64 b] 3)).alloc (.cells #[.int .i64 p] 3)) (w.heap.size + 1 + 1) (.slice (some ⟨w.heap.size + 1 + 1, 0, none⟩) 1 1) [p]) := fun o p => ⟨(lit2 w o [b] _ _ _ rfl rfl rfl (by simp)).stays ((Below.refl _ _).alloc (Nat.le_refl _) _), by simpa using lit2 (w.alloc o) (.cells #[.int .i64 b] 3) [p] _ _ _ (by simp) rfl rfl (by simp)⟩
          have ha' : 0 ≤ a := by omega
          rcases h34 with rfl | rfl
          · have e : usesP ⟨3, d, a, b, c, n, t⟩ = [b] ++ [a] := by simp [usesP, cellP, ha]
            rw [e]
            go_enter Tryz.func84, Tryz.ntmps84
            go_wp2_with (at_builtin; refine list_appI _ rfl _ _ rfl (w.heap.size + 1) _ [b] [a] (w.heap.size + 1 + 1) 0 1 1 rfl rfl rfl (O.out _ a).1 (O.out _ a).2.at (by simp) (sz3 w _ _ _) ?_; intro v1 w1 o1 grow1 loc1; have HB := hideP ((h3 _ _ _).grown grow1 (h3 _ _ _).size (fun b' hb' => by have := ob hb'; omega)); have q0 : w1.heap[w.heap.size]? = some (.cells #[.int .i64 3, .int .i64 d, .int .i64 a, .int .i64 b, .int .i64 c, .int .i64 n, .string t] 56) := (grow1.block w.heap.size (by have := sz3 w (.cells #[] 0) (.cells #[] 0) (.cells #[] 0); simp at this ⊢; omega) (fun e => by have := ob e.symm; omega)).trans (box3 w _ _ _); obtain ⟨g1, cap1, rfl, _⟩ := id o1; have O1 := hideP o1; have c0 := (cells_of q0).1 0; simp at c0; clear q0 o1 grow1 loc1)
            go_ret
            exact ⟨_, rfl, O1.out.mono (by omega), HB.out⟩
          · have e : usesP ⟨4, d, a, b, c, n, t⟩ = [b] ++ [a] ++ [c] := by simp [usesP, cellP, ha]
            rw [e]
            go_enter Tryz.func84, Tryz.ntmps84
            go_wp2_with (first | (at_builtin; refine list_appI _ rfl _ _ rfl (w.heap.size + 1) _ ([b] ++ [a]) [c] w1.heap.size 0 1 1 rfl rfl rfl (O1.out.stays ((Below.refl _ _).alloc (Nat.le_refl _) _)) (own_lit w1 [c] _ _ _ rfl rfl rfl (by simp)).at (by simp) (by have := hsz.out; simp; omega) ?_; intro v2 w2 o2 grow2 loc2; obtain ⟨g2, cap2, rfl, _⟩ := id o2; have HB2 := hideP ((HB.out.alloc HB.out.size _).grown grow2 (HB.out.alloc HB.out.size _).size (fun b' hb' => by have := O1.out.low b' hb'; omega)); have O2 := hideP o2; clear o2 grow2 loc2) | (at_builtin; refine list_appI _ rfl _ _ rfl (w.heap.size + 1) _ [b] [a] (w.heap.size + 1 + 1) 0 1 1 rfl rfl rfl (O.out _ a).1 (O.out _ a).2.at (by simp) (sz3 w _ _ _) ?_; intro v1 w1 o1 grow1 loc1; have HB := hideP ((h3 _ _ _).grown grow1 (h3 _ _ _).size (fun b' hb' => by have := ob hb'; omega)); have q0 : w1.heap[w.heap.size]? = some (.cells #[.int .i64 4, .int .i64 d, .int .i64 a, .int .i64 b, .int .i64 c, .int .i64 n, .string t] 56) := (grow1.block w.heap.size (by have := sz3 w (.cells #[] 0) (.cells #[] 0) (.cells #[] 0); simp at this ⊢; omega) (fun e => by have := ob e.symm; omega)).trans (box3 w _ _ _); obtain ⟨g1, cap1, rfl, _⟩ := id o1; have O1 := hideP o1; have hsz := hideP (show w.heap.size + 1 ≤ w1.heap.size by have := grow1.size; simp at this; omega); have c0 := (cells_of q0).1 0; have c4 := (cells_of q0).1 4; simp at c0 c4; clear q0 o1 grow1 loc1))
            go_ret
            exact ⟨_, rfl, O2.out.mono (by omega), HB2.out⟩
      · have n1 : ¬ op = 1 := by omega
        have n6 : ¬ op = 6 := by omega
        have n3 : ¬ op = 3 := by omega
        have n4 : ¬ op = 4 := by omega
        rw [usesP_none (x := ⟨op, d, a, b, c, n, t⟩) n1 h2 n3 n4 n6]
        clear h1 h34
        go_enter Tryz.func84, Tryz.ntmps84
        go_wp2
        go_ret
        exact ⟨_, rfl, (lit2 w _ [] _ _ _ rfl rfl rfl (by simp)).mono (by omega), bel2 w _ _⟩
theorem belS {w w1 : World} {o : Obj} (h : Below w.heap.size w w1) : Below w.heap.size w (w1.alloc o) := h.alloc h.size o
set_option maxHeartbeats 4000000 in
set_option maxRecDepth 100000 in
theorem impl_uses (x : Ins) (w : World) (B : Nat) (v : Array Value) (h : InsIs w B v x) :
    Calls Tryz.prog 132 #[.agg v] w fun en w' => ∃ v', en = .returned v' ∧ OwnI w' w.heap.size v' (usesP x) ∧ Below w.heap.size w w' := by
  have CU := hideP (fun W => cellUses_any x W B v h)
  obtain ⟨op, d, a, b, c, n, t⟩ := x
  obtain ⟨rfl, _⟩ := h
  simp only at CU
  by_cases h1 : op = 1 ∨ op = 6
  · have e : usesP ⟨op, d, a, b, c, n, t⟩ = [a] := if_pos h1
    rw [e]
    rcases h1 with rfl | rfl
    all_goals
      go_enter Tryz.func132, Tryz.ntmps132
      go_wp2
      go_ret
      exact ⟨_, rfl, (lit2 w _ [a] _ _ _ rfl rfl rfl (by simp)).mono (by omega), bel2 w _ _⟩
  · by_cases h2 : op = 2
    · subst h2
      have e : usesP ⟨2, d, a, b, c, n, t⟩ = [a, b] := by simp [usesP]
      rw [e]
      go_enter Tryz.func132, Tryz.ntmps132
      go_wp2
      go_ret
      exact ⟨_, rfl, (lit2 w _ [a, b] _ _ _ rfl rfl rfl (by simp)).mono (by omega), bel2 w _ _⟩
    · by_cases h3 : op = 3
      · subst h3
        have e : usesP ⟨3, d, a, b, c, n, t⟩ = cellP a b := by simp [usesP]
        rw [e]
        go_enter Tryz.func132, Tryz.ntmps132
        go_wp2_with fail
        refine (CU.out _).mono ?_
        rintro e1 w1 ⟨v1, rfl, o1, bel1⟩
        have HW := hideP (below_new bel1)
        obtain ⟨g1, cap1, rfl, _⟩ := id o1
        have O1 := hideP (o1.mono (show w.heap.size ≤ _ by simp))
        clear o1 bel1
        go_wp2
        go_ret
        exact ⟨_, rfl, O1.out, HW.out⟩
      · by_cases h4 : op = 4
        · subst h4
          have e : usesP ⟨4, d, a, b, c, n, t⟩ = cellP a b ++ [c] := by simp [usesP]
          rw [e]
          have hlen : (cellP a b).length ≤ 2 := by unfold cellP; split <;> simp
          go_enter Tryz.func132, Tryz.ntmps132
          go_wp2
          obtain ⟨wb, hwb⟩ : ∃ wb, w.alloc (.cells #[.int .i64 4, .int .i64 d, .int .i64 a, .int .i64 b, .int .i64 c, .int .i64 n, .string t] 56) = wb := ⟨_, rfl⟩
          have hq : wb.heap[w.heap.size]? = some (.cells #[.int .i64 4, .int .i64 d, .int .i64 a, .int .i64 b, .int .i64 c, .int .i64 n, .string t] 56) := by rw [← hwb]; exact Array.getElem?_push_size
          have HB0 : Hid (Below w.heap.size w wb) := by rw [← hwb]; exact (Below.refl _ _).alloc (Nat.le_refl _) _
          have hlb : w.heap.size < wb.heap.size := (Array.getElem?_eq_some_iff.1 hq).1
          rw [hwb]
          have SK : Hid (∀ W', Below wb.heap.size wb W' → W'.cell? ⟨w.heap.size, 0, none⟩ = some (.int .i64 4) ∧ W'.cell? ⟨w.heap.size, 1, none⟩ = some (.int .i64 d) ∧ W'.cell? ⟨w.heap.size, 2, none⟩ = some (.int .i64 a) ∧ W'.cell? ⟨w.heap.size, 3, none⟩ = some (.int .i64 b) ∧ W'.cell? ⟨w.heap.size, 4, none⟩ = some (.int .i64 c) ∧ W'.cell? ⟨w.heap.size, 5, none⟩ = some (.int .i64 n) ∧ W'.cell? ⟨w.heap.size, 6, none⟩ = some (.string t)) := fun W' hW => by
            have e0 := (cells_of hq).1
            exact ⟨(hW.cell (p := ⟨w.heap.size, 0, none⟩) hlb).trans (e0 0), (hW.cell (p := ⟨w.heap.size, 1, none⟩) hlb).trans (e0 1), (hW.cell (p := ⟨w.heap.size, 2, none⟩) hlb).trans (e0 2), (hW.cell (p := ⟨w.heap.size, 3, none⟩) hlb).trans (e0 3), (hW.cell (p := ⟨w.heap.size, 4, none⟩) hlb).trans (e0 4), (hW.cell (p := ⟨w.heap.size, 5, none⟩) hlb).trans (e0 5), (hW.cell (p := ⟨w.heap.size, 6, none⟩) hlb).trans (e0 6)⟩
          clear hq hwb
          go_region_held3 (fun W' => W'.cell? ⟨w.heap.size, 0, none⟩ = some (.int .i64 4) ∧ W'.cell? ⟨w.heap.size, 1, none⟩ = some (.int .i64 d) ∧ W'.cell? ⟨w.heap.size, 2, none⟩ = some (.int .i64 a) ∧ W'.cell? ⟨w.heap.size, 3, none⟩ = some (.int .i64 b) ∧ W'.cell? ⟨w.heap.size, 4, none⟩ = some (.int .i64 c) ∧ W'.cell? ⟨w.heap.size, 5, none⟩ = some (.int .i64 n) ∧ W'.cell? ⟨w.heap.size, 6, none⟩ = some (.string t)) (first | exact SK.out _ (Below.refl _ _).drew | exact SK.out _ HB2.out | exact SK.out _ (belS HB1.out) | exact SK.out _ HB1.out | exact SK.out _ (belS (Below.refl _ _).drew)) (first
            | (go_at_call 154; refine (CU.out _).mono ?_; rintro y1 w1 ⟨v1, rfl, o1, bel1⟩; obtain ⟨g1, cap1, rfl, _⟩ := id o1; have O1 := hideP (o1.mono (show wb.heap.size ≤ _ by simp)); have HB1 : Hid (Below wb.heap.size wb w1) := (by first | exact (Below.refl _ _).drew.trans (bel1.mono (Nat.le_refl _)) | exact (belS (Below.refl _ _).drew).trans (bel1.mono (by simp))); first | have HL := hideP ((((own_lit wb.drew [c] _ _ _ rfl rfl rfl (by simp))).stays bel1).at) | skip; clear bel1 o1)
            | (refine step_appI _ rfl _ _ rfl wb.heap.size _ (cellP a b) [c] _ 0 1 1 rfl rfl rfl (O1.out.stays ((Below.refl _ _).alloc (Nat.le_refl _) _)) (own_lit w1 [c] _ _ _ rfl rfl rfl (by simp)).at (by simp; omega) (belS HB1.out).size ?_; intro v2 w2 o2 grow2 loc2; have HB2 : Hid (Below wb.heap.size wb w2) := (belS HB1.out).grown grow2 (belS HB1.out).size (fun b' hb' => (O1.out.low b' hb').1))
            | (refine step_appI _ rfl _ _ rfl wb.heap.size _ (cellP a b) [c] _ 0 1 1 rfl rfl rfl O1.out HL.out (by simp; omega) HB1.out.size ?_; intro v2 w2 o2 grow2 loc2; have HB2 : Hid (Below wb.heap.size wb w2) := HB1.out.grown grow2 HB1.out.size (fun b' hb' => (O1.out.low b' hb').1)))
          all_goals (obtain ⟨g2, cap2, rfl, _⟩ := id o2; have O2 := hideP (o2.mono (Nat.le_of_lt hlb)); have HW := hideP (HB0.out.trans (HB2.out.mono (Nat.le_of_lt hlb))); clear o2 grow2 loc2; go_wp2; go_ret; exact ⟨_, rfl, O2.out, HW.out⟩)
        · have n1 : ¬ op = 1 := by omega
          have n6 : ¬ op = 6 := by omega
          rw [usesP_none (x := ⟨op, d, a, b, c, n, t⟩) n1 h2 h3 h4 n6]
          clear h1
          go_enter Tryz.func132, Tryz.ntmps132
          go_wp2
          go_ret
          exact ⟨_, rfl, (lit2 w _ [] _ _ _ rfl rfl rfl (by simp)).mono (by omega), bel2 w _ _⟩
end Go.Proofs.YtelkpikbjfkpcaaGreat

/- What a right step uses and makes. -/
namespace Go.Proofs.YtelkpikbjfkpcaaGreat
open Go.ChangeShapes Go.WideShapes Go.ChangeAt Go.RowKit
theorem ins_uses {R V : Int} {x : Ins} (h : insOk R V x = true) : (∀ s ∈ usesP x, 0 ≤ s ∧ s < V) ∧ (makesP x = -1 ∧ (x.op = 4 ∨ x.op = 6) ∨ 0 ≤ makesP x ∧ makesP x < V ∧ makesP x = x.d ∧ ¬ (x.op = 4 ∨ x.op = 6)) := by
  unfold insOk plOk vOk at h
  by_cases e0 : x.op = 0
  · simp [e0] at h
    simp [usesP, makesP, e0]; omega
  by_cases e1 : x.op = 1
  · simp [e1] at h
    simp [usesP, makesP, e1]; omega
  by_cases e2 : x.op = 2
  · simp [e2] at h
    simp [usesP, makesP, e2]; omega
  by_cases e3 : x.op = 3
  · simp [e3] at h
    by_cases ha : x.a < 0
    · simp [usesP, makesP, cellP, e3, ha]; omega
    · simp [usesP, makesP, cellP, e3, ha]; omega
  by_cases e4 : x.op = 4
  · simp [e4] at h
    by_cases ha : x.a < 0
    · simp [usesP, makesP, cellP, e4, ha]; omega
    · simp [usesP, makesP, cellP, e4, ha]; omega
  by_cases e5 : x.op = 5
  · simp [e5] at h
    simp [usesP, makesP, e5]; omega
  by_cases e6 : x.op = 6
  · simp [e6] at h
    simp [usesP, makesP, e6]; omega
  simp [e0, e1, e2, e3, e4, e5, e6] at h
end Go.Proofs.YtelkpikbjfkpcaaGreat

/- The blocks that a block goes to: plain. -/
namespace Go.Proofs.YtelkpikbjfkpcaaGreat
open Go.ChangeShapes Go.WideShapes Go.ChangeAt Go.RowKit
def nextP (x : Blk) : List Int := if x.jump = 0 then [x.to] else if x.jump = 1 then [x.to, x.els] else []
theorem nextP_go {code : List Ins} {a to els : Int} : nextP ⟨code, 0, a, to, els⟩ = [to] := rfl
theorem nextP_if {code : List Ins} {a to els : Int} : nextP ⟨code, 1, a, to, els⟩ = [to, els] := rfl
theorem nextP_none {code : List Ins} {jump a to els : Int} (h0 : ¬ jump = 0) (h1 : ¬ jump = 1) : nextP ⟨code, jump, a, to, els⟩ = [] := by simp [nextP, h0, h1]
theorem nextP_len (x : Blk) : (nextP x).length ≤ 2 := by unfold nextP; split; · simp
                                                         split <;> simp
end Go.Proofs.YtelkpikbjfkpcaaGreat
