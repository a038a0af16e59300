/- Plain chapter 9: what is reckoned already, copies, weights. -/
import Derived.Test.YtjmclmbepnbeoaaGrOkP
import Derived.Test.YtjmclmbepnbeoaaAliP
import Derived.Test.YtjmclmbepnbeoaaRowA
import Derived.Test.YtjmclmbepnbeoaaUseA
namespace Go.Proofs.Ytjmclmbepnbeoaa
open Go.ChangeShapes Go.WideShapes Go.ChangeAt Go.RowKit
/-- A code, step by step from its first: a state goes along, each step is told anew. -/
def scanUp {σ : Type} (f : σ → Ins → σ × Ins) (s0 : σ) (code : List Ins) : Nat → σ × List Ins
  | 0 => (s0, [])
  | j + 1 => match code[j]? with
    | some x => ((f (scanUp f s0 code j).1 x).1, (scanUp f s0 code j).2 ++ [(f (scanUp f s0 code j).1 x).2])
    | none => scanUp f s0 code j
section
variable {σ : Type} {f : σ → Ins → σ × Ins} {s0 : σ} {code : List Ins}
theorem scanUp_at {j : Nat} (h : j < code.length) : scanUp f s0 code (j + 1) = ((f (scanUp f s0 code j).1 code[j]).1, (scanUp f s0 code j).2 ++ [(f (scanUp f s0 code j).1 code[j]).2]) := by
  show (match code[j]? with | some x => _ | none => _) = _
  rw [List.getElem?_eq_getElem h]
theorem scanUp_len : ∀ j, j ≤ code.length → (scanUp f s0 code j).2.length = j
  | 0, _ => rfl
  | j + 1, h => by
    rw [scanUp_at (by omega)]
    simp [scanUp_len j (by omega)]
/-- How far it has come. -/
def midS (f : σ → Ins → σ × Ins) (s0 : σ) (code : List Ins) (j : Nat) : List Ins := (scanUp f s0 code j).2 ++ code.drop j
theorem midS_len {j : Nat} (hj : j ≤ code.length) : (midS f s0 code j).length = code.length := by
  rw [midS, List.length_append, scanUp_len j hj, List.length_drop]; omega
theorem midS_zero : midS f s0 code 0 = code := by simp [midS, scanUp]
theorem midS_all : midS f s0 code code.length = (scanUp f s0 code code.length).2 := by simp [midS]
theorem midS_at {j : Nat} (hj : j < code.length) : (midS f s0 code j)[j]! = code[j] := by
  have hl := scanUp_len (f := f) (s0 := s0) j (Nat.le_of_lt hj)
  rw [getElem!_pos _ j (by rw [midS_len (by omega)]; exact hj)]
  simp only [midS]
  rw [List.getElem_append_right (by omega)]
  simp [hl]
theorem midS_next {j : Nat} (hj : j < code.length) (k : Nat) (hk : k < code.length) :
    (midS f s0 code (j + 1))[k]! = if k = j then (f (scanUp f s0 code j).1 code[j]).2 else (midS f s0 code j)[k]! := by
  have hl := scanUp_len (f := f) (s0 := s0) j (Nat.le_of_lt hj)
  have hl1 := scanUp_len (f := f) (s0 := s0) (j + 1) hj
  rw [getElem!_pos _ k (by rw [midS_len (by omega)]; exact hk)]
  split
  · rename_i e
    subst e
    simp only [midS]
    rw [List.getElem_append_left (by omega)]
    simp only [scanUp_at hj]
    rw [List.getElem_append_right (by omega)]
    simp [hl]
  · rename_i e
    rw [getElem!_pos _ k (by rw [midS_len (by omega)]; exact hk)]
    simp only [midS]
    by_cases hkj : k < j
    · rw [List.getElem_append_left (by omega), List.getElem_append_left (by omega)]
      simp only [scanUp_at hj]
      rw [List.getElem_append_left (by omega)]
    · rw [List.getElem_append_right (by omega), List.getElem_append_right (by omega)]
      simp only [List.getElem_drop]
      congr 1
      omega
theorem scanUp_all {P : Ins → Prop} (hP : ∀ s x, P x → P (f s x).2) (hc : ∀ x ∈ code, P x) : ∀ j, ∀ y ∈ (scanUp f s0 code j).2, P y
  | 0, y, hy => by simp [scanUp] at hy
  | j + 1, y, hy => by
    by_cases h : j < code.length
    · rw [scanUp_at h] at hy
      rcases List.mem_append.1 hy with hy | hy
      · exact scanUp_all hP hc j y hy
      · rw [List.mem_singleton.1 hy]
        exact hP _ _ (hc _ (List.getElem_mem h))
    · have e : scanUp f s0 code (j + 1) = scanUp f s0 code j := by
        show (match code[j]? with | some x => _ | none => _) = _
        rw [List.getElem?_eq_none (by omega)]
      rw [e] at hy
      exact scanUp_all hP hc j y hy
end
/-- What is known of the slots. -/
abbrev Kn := Int → Option Int
/-- A step with what is known reckoned. -/
def foldX (K : Kn) (x : Ins) : Ins :=
  if x.op = 1 then match K x.a with
    | some v => ⟨0, x.d, 0, 0, 0, v, ⟨#[]⟩⟩
    | none => x
  else if x.op = 2 then match K x.a, K x.b with
    | some v, some u => ⟨0, x.d, 0, 0, 0, binL x.t.toList v u, ⟨#[]⟩⟩
    | _, _ => x
  else x
/-- What is known behind a step. -/
def setK (K : Kn) (x : Ins) : Kn := if x.op = 4 ∨ x.op = 6 then K else fun s => if s = x.d then (if x.op = 0 then some x.n else none) else K s
def foldF (K : Kn) (x : Ins) : Kn × Ins := (setK K (foldX K x), foldX K x)
def foldUp (code : List Ins) : Kn × List Ins := scanUp foldF (fun _ => none) code code.length
def foldB (b : Blk) : Blk :=
  if b.jump = 1 then match (foldUp b.code).1 b.a with
    | some v => ⟨(foldUp b.code).2, 0, 0, if v = 0 then b.els else b.to, 0⟩
    | none => { b with code := (foldUp b.code).2 }
  else { b with code := (foldUp b.code).2 }
def foldP (g : Gr) : Gr := if grOk g = true then { g with blocks := g.blocks.map foldB } else g
theorem foldP_ok {g : Gr} (h : grOk g = true) : foldP g = { g with blocks := g.blocks.map foldB } := by unfold foldP; rw [if_pos h]
theorem foldP_no {g : Gr} (h : ¬ grOk g = true) : foldP g = g := by unfold foldP; rw [if_neg h]
theorem foldUp_len (code : List Ins) : (foldUp code).2.length = code.length := scanUp_len _ (Nat.le_refl _)
theorem foldB_len (b : Blk) : (foldB b).code.length = b.code.length := by
  unfold foldB
  split
  · split <;> exact foldUp_len _
  · exact foldUp_len _
/-- A step whose slots are told as those of which they are copies. -/
def useX (of : Int → Int) (x : Ins) : Ins :=
  if x.op = 1 ∨ x.op = 6 then { x with a := of x.a }
  else if x.op = 2 then { x with a := of x.a, b := of x.b }
  else if x.op = 3 then { x with b := of x.b, a := if 0 ≤ x.a then of x.a else x.a }
  else if x.op = 4 then { x with b := of x.b, a := if 0 ≤ x.a then of x.a else x.a, c := of x.c }
  else x
/-- Copies behind a step that is told so. -/
def madeX (of : Int → Int) (x : Ins) : Int → Int :=
  if x.op = 4 ∨ x.op = 6 ∨ (x.op = 1 ∧ x.a = x.d) then of else fun s => if s = x.d then (if x.op = 1 then x.a else x.d) else if of s = x.d then s else of s
def copF (of : Int → Int) (x : Ins) : (Int → Int) × Ins := (madeX of (useX of x), useX of x)
def copUp (code : List Ins) : (Int → Int) × List Ins := scanUp copF (fun s => s) code code.length
def copB (b : Blk) : Blk := { b with code := (copUp b.code).2, a := if b.jump = 0 then b.a else (copUp b.code).1 b.a }
def copP (g : Gr) : Gr := if grOk g = true then { g with blocks := g.blocks.map copB } else g
theorem copP_ok {g : Gr} (h : grOk g = true) : copP g = { g with blocks := g.blocks.map copB } := by unfold copP; rw [if_pos h]
theorem copP_no {g : Gr} (h : ¬ grOk g = true) : copP g = g := by unfold copP; rw [if_neg h]
theorem copB_len (b : Blk) : (copB b).code.length = b.code.length := scanUp_len _ (Nat.le_refl _)
end Go.Proofs.Ytjmclmbepnbeoaa

/- What is known of the slots, as spec.Fold keeps it: a row of truths, a row of numbers. -/
namespace Go.Proofs.Ytjmclmbepnbeoaa
open Go.ChangeShapes Go.WideShapes Go.ChangeAt Go.RowKit
structure KnAt (kb vb V : Nat) (K : Kn) (W : World) : Prop where
  kn : ∃ ck, W.heap[kb]? = some (.cells ck 4 (0, 0)) ∧ V ≤ ck.size ∧ ∀ s : Nat, s < V → ck[s]? = some (.bool (K s).isSome)
  vl : ∃ cw, W.heap[vb]? = some (.cells cw 3 (0, 0)) ∧ V ≤ cw.size ∧ ∀ s : Nat, s < V → ∃ v, cw[s]? = some (.int .i64 v) ∧ ∀ u, K s = some u → v = u
section
variable {kb vb V : Nat} {K : Kn} {W W' : World}
theorem KnAt.ne (h : KnAt kb vb V K W) : kb ≠ vb := fun e => by
  obtain ⟨ck, h1, _⟩ := h.kn
  obtain ⟨cw, h2, _⟩ := h.vl
  rw [e, h2] at h1
  injection h1 with h1
  injection h1 with _ e2
  exact absurd e2 (by decide)
theorem KnAt.lt (h : KnAt kb vb V K W) : kb < W.heap.size ∧ vb < W.heap.size := by
  obtain ⟨ck, h1, _⟩ := h.kn
  obtain ⟨cw, h2, _⟩ := h.vl
  exact ⟨(Array.getElem?_eq_some_iff.1 h1).1, (Array.getElem?_eq_some_iff.1 h2).1⟩
theorem KnAt.keep (h : KnAt kb vb V K W) (h1 : W'.heap[kb]? = W.heap[kb]?) (h2 : W'.heap[vb]? = W.heap[vb]?) : KnAt kb vb V K W' := by
  obtain ⟨ck, a1, a2⟩ := h.kn
  obtain ⟨cw, b1, b2⟩ := h.vl
  exact ⟨⟨ck, h1.trans a1, a2⟩, ⟨cw, h2.trans b1, b2⟩⟩
theorem KnAt.stays (h : KnAt kb vb V K W) (b : Below W.heap.size W W') : KnAt kb vb V K W' := h.keep (b.block _ h.lt.1) (b.block _ h.lt.2)
theorem KnAt.but (h : KnAt kb vb V K W) {g : Nat} (b : But g W W') (h1 : kb ≠ g) (h2 : vb ≠ g) : KnAt kb vb V K W' := h.keep (b.block _ h.lt.1 h1) (b.block _ h.lt.2 h2)
theorem KnAt.has (h : KnAt kb vb V K W) {s : Nat} (hs : s < V) : W.cell? ⟨kb, s, none⟩ = some (.bool (K s).isSome) ∧ ∀ i, W.frozen? ⟨kb, i, none⟩ = false := by
  obtain ⟨ck, a1, _, a3⟩ := h.kn
  exact ⟨by simp only [World.cell?, a1]; exact a3 s hs, (cells_of a1).2⟩
theorem KnAt.val (h : KnAt kb vb V K W) {s : Nat} (hs : s < V) : ∃ v, W.cell? ⟨vb, s, none⟩ = some (.int .i64 v) ∧ (∀ u, K s = some u → v = u) ∧ ∀ i, W.frozen? ⟨vb, i, none⟩ = false := by
  obtain ⟨cw, b1, _, b3⟩ := h.vl
  obtain ⟨v, h1, h2⟩ := b3 s hs
  exact ⟨v, by simp only [World.cell?, b1]; exact h1, h2, (cells_of b1).2⟩
/-- A slot is made anew. -/
theorem KnAt.set (h : KnAt kb vb V K W) {d : Nat} (hd : d < V) {v : Int} {k : Option Int} (hk : ∀ u, k = some u → v = u) : KnAt kb vb V (fun s => if s = (d : Int) then k else K s) ((W.setCell ⟨kb, d, none⟩ (.bool k.isSome)).setCell ⟨vb, d, none⟩ (.int .i64 v)) := by
  have ne := h.ne
  obtain ⟨ck, a1, a2, a3⟩ := h.kn
  obtain ⟨cw, b1, b2, b3⟩ := h.vl
  have s1 := heap_setCell_same W kb d ck _ (.bool k.isSome) a1
  have s2 : (W.setCell ⟨kb, d, none⟩ (.bool k.isSome)).heap[vb]? = some (.cells cw 3 (0, 0)) := (Below.heap_setCell W ⟨kb, d, none⟩ _ vb (fun e => ne e.symm)).trans b1
  have s3 := heap_setCell_same (W.setCell ⟨kb, d, none⟩ (.bool k.isSome)) vb d cw _ (.int .i64 v) s2
  have s4 : ((W.setCell ⟨kb, d, none⟩ (.bool k.isSome)).setCell ⟨vb, d, none⟩ (.int .i64 v)).heap[kb]? = _ := (Below.heap_setCell _ ⟨vb, d, none⟩ _ kb ne).trans s1
  refine ⟨⟨_, s4, by simpa using a2, fun s hs => ?_⟩, ⟨_, s3, by simpa using b2, fun s hs => ?_⟩⟩
  · rw [Array.getElem?_setIfInBounds]
    by_cases e : d = s
    · subst e
      rw [if_pos rfl, if_pos (by omega), if_pos rfl]
    · rw [if_neg e, a3 s hs, if_neg (by omega)]
  · rw [Array.getElem?_setIfInBounds]
    by_cases e : d = s
    · subst e
      rw [if_pos rfl, if_pos (by omega), if_pos rfl]
      exact ⟨v, rfl, hk⟩
    · rw [if_neg e, if_neg (by omega)]
      exact b3 s hs
end
/-- All that is known is of 64 bits. -/
def KI (K : Kn) : Prop := ∀ s u, K s = some u → I64 u
theorem i64_zero : I64 0 := by unfold I64; omega
theorem empty_few : (⟨#[]⟩ : ByteArray).size ≤ maxLen := by unfold maxLen; decide
theorem KI.fold {K : Kn} (h : KI K) {x : Ins} (hx : x.wf ∧ x.t.size ≤ maxLen) : (foldX K x).wf ∧ (foldX K x).t.size ≤ maxLen := by
  unfold foldX
  split
  · split
    · rename_i v e
      exact ⟨⟨i64_zero, hx.1.2.1, i64_zero, i64_zero, i64_zero, h _ _ e⟩, empty_few⟩
    · exact hx
  · split
    · split
      · exact ⟨⟨i64_zero, hx.1.2.1, i64_zero, i64_zero, i64_zero, binL_i64 _ _ _⟩, empty_few⟩
      · exact hx
    · exact hx
theorem KI.set {K : Kn} (h : KI K) {x : Ins} (hx : x.wf) : KI (setK K x) := by
  unfold setK
  split
  · exact h
  · intro s u e
    simp only at e
    split at e
    · split at e
      · cases e; exact hx.2.2.2.2.2
      · cases e
    · exact h s u e
theorem foldUp_ki {code : List Ins} (hw : ∀ x ∈ code, x.wf ∧ x.t.size ≤ maxLen) : ∀ j, KI (scanUp foldF (fun _ => none) code j).1 ∧ ∀ y ∈ (scanUp foldF (fun _ => none) code j).2, y.wf ∧ y.t.size ≤ maxLen
  | 0 => ⟨fun _ _ e => (by cases e), fun y hy => (by simp [scanUp] at hy)⟩
  | j + 1 => by
    obtain ⟨h1, h2⟩ := foldUp_ki hw j
    by_cases h : j < code.length
    · rw [scanUp_at h]
      have hx := h1.fold (hw _ (List.getElem_mem h))
      refine ⟨h1.set hx.1, fun y hy => ?_⟩
      rcases List.mem_append.1 hy with hy | hy
      · exact h2 y hy
      · rw [List.mem_singleton.1 hy]; exact hx
    · have e : scanUp foldF (fun _ => none) code (j + 1) = scanUp foldF (fun _ => none) code j := by
        show (match code[j]? with | some x => _ | none => _) = _
        rw [List.getElem?_eq_none (by omega)]
      rw [e]; exact ⟨h1, h2⟩
end Go.Proofs.Ytjmclmbepnbeoaa

/- Of which slots they are copies, as spec.Copies keeps it: a row of numbers. -/
namespace Go.Proofs.Ytjmclmbepnbeoaa
open Go.ChangeShapes Go.WideShapes Go.ChangeAt Go.RowKit
def OfAt (ob V : Nat) (f : Int → Int) (W : World) : Prop := ∃ cw, W.heap[ob]? = some (.cells cw 3 (0, 0)) ∧ V ≤ cw.size ∧ ∀ s : Nat, s < V → cw[s]? = some (.int .i64 (f s))
section
variable {ob V : Nat} {f f' : Int → Int} {W W' : World}
theorem OfAt.lt (h : OfAt ob V f W) : ob < W.heap.size := let ⟨_, h1, _⟩ := h; (Array.getElem?_eq_some_iff.1 h1).1
theorem OfAt.keep (h : OfAt ob V f W) (h1 : W'.heap[ob]? = W.heap[ob]?) : OfAt ob V f W' := let ⟨cw, a1, a2⟩ := h; ⟨cw, h1.trans a1, a2⟩
theorem OfAt.stays (h : OfAt ob V f W) (b : Below W.heap.size W W') : OfAt ob V f W' := h.keep (b.block _ h.lt)
theorem OfAt.but (h : OfAt ob V f W) {g : Nat} (b : But g W W') (h1 : ob ≠ g) : OfAt ob V f W' := h.keep (b.block _ h.lt h1)
theorem OfAt.congr (h : OfAt ob V f W) (e : ∀ s : Nat, s < V → f s = f' s) : OfAt ob V f' W := let ⟨cw, a1, a2, a3⟩ := h; ⟨cw, a1, a2, fun s hs => by rw [← e s hs]; exact a3 s hs⟩
theorem OfAt.at (h : OfAt ob V f W) {s : Nat} (hs : s < V) : W.cell? ⟨ob, s, none⟩ = some (.int .i64 (f s)) ∧ ∀ i, W.frozen? ⟨ob, i, none⟩ = false := by
  obtain ⟨cw, a1, _, a3⟩ := h
  exact ⟨by simp only [World.cell?, a1]; exact a3 s hs, (cells_of a1).2⟩
theorem OfAt.set (h : OfAt ob V f W) {d : Nat} (hd : d < V) (v : Int) : OfAt ob V (fun s => if s = (d : Int) then v else f s) (W.setCell ⟨ob, d, none⟩ (.int .i64 v)) := by
  obtain ⟨cw, b1, b2, b3⟩ := h
  refine ⟨_, heap_setCell_same W ob d cw _ (.int .i64 v) b1, by simpa using b2, fun s hs => ?_⟩
  rw [Array.getElem?_setIfInBounds]
  by_cases e : d = s
  · subst e
    rw [if_pos rfl, if_pos (by omega)]
    simp
  · rw [if_neg e, b3 s hs]
    have : ¬ ((s : Int) = (d : Int)) := by omega
    simp [this]
end
/-- Each slot's copy is a slot. -/
def OfOk (V : Nat) (f : Int → Int) : Prop := ∀ s : Int, 0 ≤ s → s < V → 0 ≤ f s ∧ f s < V
theorem OfOk.use {V : Nat} {f : Int → Int} (h : OfOk V f) {x : Ins} (hx : x.wf ∧ x.t.size ≤ maxLen) (hV : V ≤ 1000) (hu : ∀ s ∈ usesP x, 0 ≤ s ∧ s < V) : (useX f x).wf ∧ (useX f x).t.size ≤ maxLen := by
  have k : ∀ s : Int, 0 ≤ s → s < V → I64 (f s) := fun s h1 h2 => by have := h s h1 h2; unfold I64; omega
  obtain ⟨⟨w1, w2, w3, w4, w5, w6⟩, w7⟩ := hx
  unfold useX
  unfold usesP at hu
  by_cases e1 : x.op = 1
  · rw [if_pos (Or.inl e1)]
    simp [e1] at hu
    exact ⟨⟨w1, w2, k _ hu.1 hu.2, w4, w5, w6⟩, w7⟩
  by_cases e6 : x.op = 6
  · rw [if_pos (Or.inr e6)]
    simp [e6] at hu
    exact ⟨⟨w1, w2, k _ hu.1 hu.2, w4, w5, w6⟩, w7⟩
  rw [if_neg (by omega)]
  by_cases e2 : x.op = 2
  · rw [if_pos e2]
    simp [e2] at hu
    exact ⟨⟨w1, w2, k _ hu.1.1 hu.1.2, k _ hu.2.1 hu.2.2, w5, w6⟩, w7⟩
  rw [if_neg e2]
  by_cases e3 : x.op = 3
  · rw [if_pos e3]
    by_cases ha : 0 ≤ x.a
    · simp [e3, cellP_pos (show ¬ x.a < 0 by omega)] at hu
      simp [ha]
      exact ⟨⟨w1, w2, k _ (by omega) (by omega), k _ (by omega) (by omega), w5, w6⟩, w7⟩
    · simp [e3, cellP_neg (show x.a < 0 by omega)] at hu
      simp [ha]
      exact ⟨⟨w1, w2, w3, k _ (by omega) (by omega), w5, w6⟩, w7⟩
  rw [if_neg e3]
  by_cases e4 : x.op = 4
  · rw [if_pos e4]
    by_cases ha : 0 ≤ x.a
    · simp [e4, cellP_pos (show ¬ x.a < 0 by omega)] at hu
      simp [ha]
      exact ⟨⟨w1, w2, k _ (by omega) (by omega), k _ (by omega) (by omega), k _ (by omega) (by omega), w6⟩, w7⟩
    · simp [e4, cellP_neg (show x.a < 0 by omega)] at hu
      simp [ha]
      exact ⟨⟨w1, w2, w3, k _ (by omega) (by omega), k _ (by omega) (by omega), w6⟩, w7⟩
  rw [if_neg e4]
  exact ⟨⟨w1, w2, w3, w4, w5, w6⟩, w7⟩
end Go.Proofs.Ytjmclmbepnbeoaa
