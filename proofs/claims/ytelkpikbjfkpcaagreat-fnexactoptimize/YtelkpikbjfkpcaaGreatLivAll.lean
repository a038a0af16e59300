/- Which slots are live: plain. -/
import Derived.Test.YtelkpikbjfkpcaaGreatSetAll
import Derived.Test.YtelkpikbjfkpcaaGreatUseA
import Derived.Test.YtelkpikbjfkpcaaGreatDsSAll
import Derived.Test.YtelkpikbjfkpcaaGreatKepAll
import Derived.Deep.LoopGhost
import Derived.Deep.CutRange
import Derived.Test.YtelkpikbjfkpcaaGreatNextIS
import Derived.Test.YtelkpikbjfkpcaaGreatCpyB
import Derived.Test.YtelkpikbjfkpcaaGreatInsA
import Derived.Deep.RegionHeld3
namespace Go.Proofs.YtelkpikbjfkpcaaGreat
open Go.ChangeShapes Go.WideShapes Go.ChangeAt Go.RowKit
def jumpP (b : Blk) : List Int := if b.jump = 1 ∨ b.jump = 2 then [b.a] else []
/-- Which slots are live ahead of a step, by which are behind it. -/
def aheadQ (x : Ins) (P : Int → Prop) : Int → Prop := fun s => s ∈ usesP x ∨ (P s ∧ s ≠ makesP x)
def behindQ (b : Blk) (P : Int → Prop) : Int → Prop := fun s => P s ∨ s ∈ jumpP b
def inQ (b : Blk) (P : Int → Prop) : Int → Prop := b.code.foldr aheadQ (behindQ b P)
def usedQ (b : Blk) : Int → Prop := inQ b (fun _ => False)
def madeQ (b : Blk) (s : Int) : Prop := ∃ x ∈ b.code, makesP x = s
theorem foldr_ahead (code : List Ins) (P J : Int → Prop) (s : Int) : code.foldr aheadQ (fun s => P s ∨ J s) s ↔ code.foldr aheadQ J s ∨ (P s ∧ ∀ x ∈ code, makesP x ≠ s) := by
  induction code with
  | nil => simp [or_comm]
  | cons x c ih =>
    simp only [List.foldr_cons, aheadQ, ih, List.mem_cons, forall_eq_or_imp]
    constructor
    · rintro (h | ⟨h | ⟨h1, h2⟩, h3⟩)
      · exact Or.inl (Or.inl h)
      · exact Or.inl (Or.inr ⟨h, h3⟩)
      · exact Or.inr ⟨h1, fun e => h3 e.symm, h2⟩
    · rintro ((h | ⟨h, h3⟩) | ⟨h1, h2, h3⟩)
      · exact Or.inl h
      · exact Or.inr ⟨Or.inl h, h3⟩
      · exact Or.inr ⟨Or.inr ⟨h1, h3⟩, fun e => h2 e.symm⟩
theorem foldr_congr (code : List Ins) {P P' : Int → Prop} (h : ∀ s, P s ↔ P' s) (s : Int) : code.foldr aheadQ P s ↔ code.foldr aheadQ P' s := by
  have : P = P' := funext fun s => propext (h s)
  rw [this]
theorem inQ_iff (b : Blk) (P : Int → Prop) (s : Int) : inQ b P s ↔ usedQ b s ∨ (P s ∧ ¬ madeQ b s) := by
  unfold inQ usedQ inQ behindQ
  rw [foldr_ahead, foldr_ahead]
  constructor
  · rintro (h | ⟨h, h2⟩)
    · exact Or.inl (Or.inl h)
    · exact Or.inr ⟨h, fun ⟨x, hx, e⟩ => h2 x hx e⟩
  · rintro ((h | ⟨h, _⟩) | ⟨h, h2⟩)
    · exact Or.inl h
    · exact absurd h id
    · exact Or.inr ⟨h, fun x hx e => h2 ⟨x, hx, e⟩⟩
/-- A slot is live behind a block. -/
inductive LiveB (bs : List Blk) : Nat → Int → Prop
  | use {i t : Nat} {s : Int} (hi : i < bs.length) (ht : t < bs.length) (hn : (t : Int) ∈ nextP bs[i]) (hu : usedQ bs[t] s) : LiveB bs i s
  | on {i t : Nat} {s : Int} (hi : i < bs.length) (ht : t < bs.length) (hn : (t : Int) ∈ nextP bs[i]) (hl : LiveB bs t s) (hm : ¬ madeQ bs[t] s) : LiveB bs i s
theorem live_in {bs : List Blk} {i t : Nat} (hi : i < bs.length) (ht : t < bs.length) (hn : (t : Int) ∈ nextP bs[i]) {P : Int → Prop} (hP : ∀ s, P s → LiveB bs t s) {s : Int} (h : inQ bs[t] P s) : LiveB bs i s := by
  rcases (inQ_iff _ _ _).1 h with h | ⟨h, h2⟩
  · exact .use hi ht hn h
  · exact .on hi ht hn (hP s h) h2
theorem live_all {bs : List Blk} {P : Nat → Int → Prop} (closed : ∀ i (hi : i < bs.length) t (ht : t < bs.length), (t : Int) ∈ nextP bs[i] → ∀ s, inQ bs[t] (P t) s → P i s) {i : Nat} {s : Int} (h : LiveB bs i s) : P i s := by
  induction h with
  | use hi ht hn hu => exact closed _ hi _ ht hn _ ((inQ_iff _ _ _).2 (Or.inl hu))
  | on hi ht hn _ hm ih => exact closed _ hi _ ht hn _ ((inQ_iff _ _ _).2 (Or.inr ⟨ih, hm⟩))
/-- All slots and blocks that are named are there. -/
structure BsOk (V : Nat) (bs : List Blk) : Prop where
  code : ∀ b ∈ bs, ∀ x ∈ b.code, (∀ s ∈ usesP x, 0 ≤ s ∧ s < V) ∧ (makesP x = -1 ∧ (x.op = 4 ∨ x.op = 6) ∨ 0 ≤ makesP x ∧ makesP x < V ∧ makesP x = x.d ∧ ¬ (x.op = 4 ∨ x.op = 6))
  jump : ∀ b ∈ bs, (∀ s ∈ jumpP b, 0 ≤ s ∧ s < V) ∧ (jumpP b = [] ∧ b.jump = 0 ∨ jumpP b = [b.a] ∧ b.jump ≠ 0)
  next : ∀ b ∈ bs, ∀ t ∈ nextP b, 0 ≤ t ∧ t < bs.length
theorem bsOk_of {g : Gr} {V : Nat} (h : grOk g = true) (hV : g.slots = V) : BsOk V g.blocks := by
  have h0 := h
  simp only [grOk, Bool.and_eq_true, decide_eq_true_eq] at h0
  obtain ⟨⟨⟨⟨⟨_, _⟩, hb⟩, _⟩, hc⟩, hj⟩ := h0
  refine ⟨fun b hb x hx => ?_, fun b hb => ?_, fun b hb t ht => ?_⟩
  · have := List.all_eq_true.1 hc x (List.mem_flatMap.2 ⟨b, hb, hx⟩)
    rw [hV] at this
    exact ins_uses this
  · have := List.all_eq_true.1 hj b hb
    rw [hV] at this
    unfold jmpOk vOk at this
    unfold jumpP
    by_cases e0 : b.jump = 0
    · simp [e0]
    · by_cases e1 : b.jump = 1
      · simp [e1] at this ⊢
        omega
      · by_cases e2 : b.jump = 2
        · simp [e2] at this ⊢
          omega
        · simp [e0, e1, e2] at this
  · have := List.all_eq_true.1 hj b hb
    rw [hV] at this
    unfold jmpOk vOk at this
    unfold nextP at ht
    by_cases e0 : b.jump = 0
    · simp [e0] at this ht
      subst ht; omega
    · by_cases e1 : b.jump = 1
      · simp [e1] at this ht
        rcases ht with rfl | rfl <;> omega
      · simp [e0, e1] at ht
theorem foldr_slot {V : Nat} {code : List Ins} {P : Int → Prop} (hc : ∀ x ∈ code, ∀ s ∈ usesP x, 0 ≤ s ∧ s < V) (hP : ∀ s, P s → 0 ≤ s ∧ s < V) : ∀ s, code.foldr aheadQ P s → 0 ≤ s ∧ s < V := by
  induction code with
  | nil => exact hP
  | cons x c ih =>
    intro s hs
    rcases hs with hs | ⟨hs, _⟩
    · exact hc x List.mem_cons_self s hs
    · exact ih (fun y hy => hc y (List.mem_cons_of_mem _ hy)) s hs
theorem used_slot {V : Nat} {bs : List Blk} (h : BsOk V bs) {b : Blk} (hb : b ∈ bs) {s : Int} (hu : usedQ b s) : 0 ≤ s ∧ s < V := by
  refine foldr_slot (fun x hx => (h.code b hb x hx).1) (fun s hs => ?_) s hu
  rcases hs with hs | hs
  · exact absurd hs id
  · exact (h.jump b hb).1 s hs
theorem live_slot {V : Nat} {bs : List Blk} (h : BsOk V bs) {i : Nat} {s : Int} (hl : LiveB bs i s) : 0 ≤ s ∧ s < V := by
  induction hl with
  | use hi ht hn hu => exact used_slot h (List.getElem_mem ht) hu
  | on hi ht hn _ hm ih => exact ih
open Classical in
/-- Clean, from a block's last step to its first: what is used behind a step, whether it stays. -/
noncomputable def clF (code : List Ins) (P : Int → Prop) (i : Nat) : (Int → Prop) × Bool :=
  if ((code[i]!).op = 0 ∨ (code[i]!).op = 1 ∨ (code[i]!).op = 2) ∧ ¬ P (code[i]!).d then (P, false) else (aheadQ (code[i]!) P, true)
theorem clF_no {code : List Ins} {P : Int → Prop} {i : Nat} (h : i < code.length) (h1 : (code[i]).op = 0 ∨ (code[i]).op = 1 ∨ (code[i]).op = 2) (h2 : ¬ P (code[i]).d) : clF code P i = (P, false) := by
  unfold clF
  rw [getElem!_pos code i h, if_pos ⟨h1, h2⟩]
theorem clF_yes {code : List Ins} {P : Int → Prop} {i : Nat} (h : i < code.length) (h1 : ¬ (((code[i]).op = 0 ∨ (code[i]).op = 1 ∨ (code[i]).op = 2) ∧ ¬ P (code[i]).d)) : clF code P i = (aheadQ code[i] P, true) := by
  unfold clF
  rw [getElem!_pos code i h, if_neg h1]
noncomputable def clCode (P : Int → Prop) (code : List Ins) : List Ins := (backUp (clF code) P code code.length).2
theorem clCode_mem {P : Int → Prop} {code : List Ins} : ∀ y ∈ clCode P code, y ∈ code := backUp_mem _ (Nat.le_refl _)
theorem clCode_few (P : Int → Prop) (code : List Ins) : (clCode P code).length ≤ code.length := backUp_few _
/-- A block without what nobody wants, of what is live behind it. -/
noncomputable def clB (P : Int → Prop) (b : Blk) : Blk := { b with code := clCode (behindQ b P) b.code }
noncomputable def clP (g : Gr) : Gr := if grOk g = true then { g with blocks := g.blocks.mapIdx fun i b => clB (LiveB g.blocks i) b } else g
theorem clP_ok {g : Gr} (h : grOk g = true) : clP g = { g with blocks := g.blocks.mapIdx fun i b => clB (LiveB g.blocks i) b } := by unfold clP; rw [if_pos h]
theorem clP_no {g : Gr} (h : ¬ grOk g = true) : clP g = g := by unfold clP; rw [if_neg h]
/-- The first j blocks are done. -/
def midX (h : Nat → Blk → Blk) (bs : List Blk) : Nat → List Blk
  | 0 => bs
  | j + 1 => (midX h bs j).set j (h j (bs[j]!))
section
variable (h : Nat → Blk → Blk) (bs : List Blk)
theorem midX_len : ∀ j, (midX h bs j).length = bs.length
  | 0 => rfl
  | j + 1 => by simp [midX, midX_len j]
theorem midX_ge : ∀ j k, j ≤ k → (hk : k < bs.length) → (midX h bs j)[k]'(by rw [midX_len]; exact hk) = bs[k]
  | 0, _, _, _ => rfl
  | j + 1, k, hk, hl => by
    simp only [midX]
    rw [List.getElem_set_ne (by omega)]
    exact midX_ge j k (by omega) hl
theorem midX_lt : ∀ j k, k < j → (hk : k < bs.length) → (midX h bs j)[k]'(by rw [midX_len]; exact hk) = h k bs[k]
  | 0, _, hk, _ => absurd hk (Nat.not_lt_zero _)
  | j + 1, k, hk, hl => by
    simp only [midX]
    by_cases e : j = k
    · subst e
      rw [List.getElem_set_self, getElem!_pos bs j hl]
    · rw [List.getElem_set_ne e]
      exact midX_lt j k (by omega) hl
theorem midX_all : midX h bs bs.length = bs.mapIdx h := by
  apply List.ext_getElem (by simp [midX_len])
  intro k h1 h2
  rw [midX_lt h bs bs.length k (by rw [midX_len] at h1; exact h1) (by rw [midX_len] at h1; exact h1)]
  simp
end
end Go.Proofs.YtelkpikbjfkpcaaGreat

/- Lists of truths that a call owns: which of the first V are true. -/
namespace Go.Proofs.YtelkpikbjfkpcaaGreat
open Go.ChangeShapes Go.WideShapes Go.ChangeAt Go.RowKit
def BoE : Elem Bool := { T := 4, ST := 53, sz := 1, bys := 1, z := .bool false, cs := fun b => [.bool b] }
theorem BoOk : BoE.Ok where
  und := Tryz.underlying53
  info := by kernel_rfl
  zs := rfl
  pos := by decide
  few := by decide
  len := fun _ => rfl
  one := fun x u hu => by simp [BoE] at hu; rw [hu]; rfl
/-- Block g is a row of truths, of which the first V tell P. -/
def BoIs (w : World) (g cap V : Nat) (P : Int → Prop) : Prop := ∃ cur, w.heap[g]? = some (.cells cur 4 (0, 0)) ∧ cur.size = cap ∧ V ≤ cap ∧ cap ≤ maxLen ∧ ∀ s, s < V → ∃ b, cur[s]? = some (.bool b) ∧ (b = true ↔ P (s : Int))
section
variable {w w' : World} {g cap V : Nat} {P P' : Int → Prop}
theorem BoIs.lt (h : BoIs w g cap V P) : g < w.heap.size := let ⟨_, h1, _⟩ := h; hltP h1
theorem BoIs.keep (h : BoIs w g cap V P) (hk : w'.heap[g]? = w.heap[g]?) : BoIs w' g cap V P := let ⟨c, h1, h2⟩ := h; ⟨c, hk.trans h1, h2⟩
theorem BoIs.stays (h : BoIs w g cap V P) (b : Below w.heap.size w w') : BoIs w' g cap V P := h.keep (b.block _ h.lt)
theorem BoIs.congr (h : BoIs w g cap V P) (e : ∀ s : Nat, s < V → (P s ↔ P' s)) : BoIs w g cap V P' :=
  let ⟨c, h1, h2, h3, h4, h5⟩ := h
  ⟨c, h1, h2, h3, h4, fun s hs => let ⟨b, hb, e1⟩ := h5 s hs; ⟨b, hb, e1.trans (e s hs)⟩⟩
theorem BoIs.at (h : BoIs w g cap V P) {s : Nat} (hs : s < V) : ∃ b, w.cell? ⟨g, s, none⟩ = some (.bool b) ∧ (b = true ↔ P (s : Int)) ∧ ∀ i, w.frozen? ⟨g, i, none⟩ = false := by
  obtain ⟨c, h1, _, _, _, h5⟩ := h
  obtain ⟨b, hb, e⟩ := h5 s hs
  exact ⟨b, by simp only [World.cell?, h1]; exact hb, e, (cells_of h1).2⟩
theorem BoIs.set (h : BoIs w g cap V P) {s : Nat} (hs : s < V) {b : Bool} (e : ∀ t : Nat, t < V → (P' t ↔ if t = s then b = true else P t)) : BoIs (w.setCell ⟨g, s, none⟩ (.bool b)) g cap V P' := by
  obtain ⟨c, h1, h2, h3, h4, h5⟩ := h
  refine ⟨c.setIfInBounds s (.bool b), heap_setCell_same w g s c _ _ h1, by simpa using h2, h3, h4, fun t ht => ?_⟩
  rw [Array.getElem?_setIfInBounds]
  by_cases e1 : s = t
  · subst e1
    rw [if_pos rfl, if_pos (by omega)]
    exact ⟨b, rfl, by rw [e s hs, if_pos rfl]⟩
  · rw [if_neg e1]
    obtain ⟨b', hb, e2⟩ := h5 t ht
    exact ⟨b', hb, by rw [e t ht, if_neg (fun e3 => e1 e3.symm)]; exact e2⟩
/-- As a list. -/
theorem BoIs.list (h : BoIs w g cap V P) : ∃ l : List Bool, l.length = V ∧ (∀ s (hs : s < l.length), (l[s] = true ↔ P (s : Int))) ∧ ∀ j (hj : j < l.length) r, r < BoE.sz → w.cell? ⟨g, 0 + j * BoE.sz + r, none⟩ = (BoE.cs l[j])[r]? := by
  obtain ⟨c, h1, h2, h3, h4, h5⟩ := h
  have h6 : ∀ s : Fin V, ∃ b, c[s.1]? = some (.bool b) ∧ (b = true ↔ P (s.1 : Int)) := fun s => h5 s.1 s.2
  obtain ⟨f, hf⟩ := Classical.axiomOfChoice h6
  refine ⟨List.ofFn f, by simp, fun s hs => ?_, fun j hj r hr => ?_⟩
  · rw [List.getElem_ofFn]; exact (hf ⟨s, by simpa using hs⟩).2
  · have hr0 : r = 0 := by have : BoE.sz = 1 := rfl; omega
    subst hr0
    rw [List.getElem_ofFn]
    simp only [World.cell?, h1, Nat.zero_add, Nat.add_zero, show BoE.sz = 1 from rfl, Nat.mul_one]
    exact (hf ⟨j, by simpa using hj⟩).1
theorem OwnE.bo {B n : Nat} {l : List Bool} (h : OwnE BoE w B (.slice (some ⟨g, 0, none⟩) n cap) l) (hP : ∀ s (hs : s < l.length), (l[s] = true ↔ P (s : Int))) : BoIs w g cap l.length P ∧ B ≤ g ∧ n = l.length := by
  obtain ⟨g', cap', cur, hv, hB, hh, hc, hm, hs, hx⟩ := h.parts BoOk
  injection hv with e1 e2 e3
  injection e1 with e1
  injection e1 with e1
  subst e1 e3
  refine ⟨⟨cur, hh, by rw [hs]; exact Nat.mul_one _, hc, hm, fun s hs => ⟨l[s], ?_, hP s hs⟩⟩, hB, e2⟩
  have := hx s hs 0 (by decide)
  rw [show BoE.sz = 1 from rfl] at this
  simpa [BoE] using this
end
/-- The numbers of a list that a call owns. -/
theorem ints_at {w : World} {B g n cap : Nat} {l : List Int} (h : OwnI w B (.slice (some ⟨g, 0, none⟩) n cap) l) (j : Nat) (hj : j < l.length) : w.cell? ⟨g, j, none⟩ = some (.int .i64 l[j]) := by
  obtain ⟨g', cap', cur, hv, _, hh, _, _, _, hx⟩ := h.parts
  injection hv with e1
  injection e1 with e1
  injection e1 with e1
  subst e1
  simp only [World.cell?, hh]
  exact hx j hj
theorem ints_low {w : World} {B g n cap : Nat} {l : List Int} (h : OwnI w B (.slice (some ⟨g, 0, none⟩) n cap) l) : B ≤ g ∧ g < w.heap.size ∧ n = l.length := by
  obtain ⟨g', cap', cur, hv, hB, hh, _⟩ := h.parts
  injection hv with e1 e2
  injection e1 with e1
  injection e1 with e1
  subst e1
  exact ⟨hB, hltP hh, e2⟩
end Go.Proofs.YtelkpikbjfkpcaaGreat

/- The contract of spec.l08Ahead (written by wip/mkboa.py). -/
namespace Go.Proofs.YtelkpikbjfkpcaaGreat
open Go.ChangeShapes Go.WideShapes Go.ChangeAt Go.RowKit
theorem uses_len (x : Ins) : (usesP x).length ≤ 1000 := by
  unfold usesP cellP
  repeat' split
  all_goals simp
set_option maxRecDepth 100000 in
set_option maxHeartbeats 4000000 in
theorem ahead8_any (x : Ins) (P : Int → Prop) (w : World) (g cap V kv : Nat) (h : BoIs w g cap V P) (hu : ∀ s ∈ usesP x, 0 ≤ s ∧ s < V) (hm : makesP x = -1 ∧ (x.op = 4 ∨ x.op = 6) ∨ 0 ≤ makesP x ∧ makesP x < V ∧ makesP x = x.d ∧ ¬ (x.op = 4 ∨ x.op = 6)) (hw : x.wf ∧ x.t.size ≤ maxLen) :
    Calls Tryz.prog 46 #[.agg (insV x), .slice (some ⟨g, 0, none⟩) V kv] w fun e w' => e = .returned (.tuple #[]) ∧ BoIs w' g cap V (aheadQ x P) ∧ But g w w' := by
  have US0 := fun W => spec_uses x W 0 (insV x) ⟨rfl, hw⟩
  have DF0 := fun W => def_any x W
  obtain ⟨U, hU⟩ : ∃ U, usesP x = U := ⟨_, rfl⟩
  rw [hU] at US0 hu
  obtain ⟨P1, hP1⟩ : ∃ P1 : Int → Prop, P1 = fun s => P s ∧ s ≠ makesP x := ⟨_, rfl⟩
  have FIN : Hid (∀ s : Nat, s < V → ((fun s => s ∈ U ∨ P1 s) (s : Int) ↔ aheadQ x P s)) := fun s _ => by rw [hP1]; simp only [aheadQ, hU]
  have HU := hideP hu
  have UL : Hid (U.length ≤ 1000) := by rw [← hU]; exact uses_len x
  obtain ⟨op, d, a, b0, c0, nn, t⟩ := x
  simp only [insV] at *
  have US : Hid _ := US0
  have DF : Hid _ := DF0
  have al := (Below.refl w.heap.size w).alloc (Nat.le_refl _) (.cells #[.int .i64 op, .int .i64 d, .int .i64 a, .int .i64 b0, .int .i64 c0, .int .i64 nn, .string t] 56)
  have S1 : Hid ((w.alloc (.cells #[.int .i64 op, .int .i64 d, .int .i64 a, .int .i64 b0, .int .i64 c0, .int .i64 nn, .string t] 56)).heap[w.heap.size]? = some (.cells #[.int .i64 op, .int .i64 d, .int .i64 a, .int .i64 b0, .int .i64 c0, .int .i64 nn, .string t] 56 (0, 0)) ∧ BoIs (w.alloc (.cells #[.int .i64 op, .int .i64 d, .int .i64 a, .int .i64 b0, .int .i64 c0, .int .i64 nn, .string t] 56)) g cap V P ∧ But g w (w.alloc (.cells #[.int .i64 op, .int .i64 d, .int .i64 a, .int .i64 b0, .int .i64 c0, .int .i64 nn, .string t] 56))) := ⟨newO w _, h.stays al, But.ofBelowP al⟩
  have hgw := h.lt
  clear US0 DF0 al h hu hU
  go_enter Tryz.func46, Tryz.ntmps46
  go_wp2_with fail
  refine (DF.out _).mono ?_
  rintro e2 w2 ⟨rfl, b2⟩
  have S2 : Hid (w2.heap[w.heap.size]? = some (.cells #[.int .i64 op, .int .i64 d, .int .i64 a, .int .i64 b0, .int .i64 c0, .int .i64 nn, .string t] 56 (0, 0)) ∧ BoIs w2 g cap V P ∧ But g w w2) := ⟨(b2.block _ (hltP S1.out.1)).trans S1.out.1, S1.out.2.1.stays b2, S1.out.2.2.on b2⟩
  clear S1 b2 DF
  rcases hm with ⟨hm1, hm2⟩ | ⟨hm0, hm1, hm2, hm3⟩
  · have hdec : decide (op ≠ 4 ∧ op ≠ 6) = false := by simp; omega
    rw [hdec]
    have S3 : Hid (w2.heap[w.heap.size]? = some (.cells #[.int .i64 op, .int .i64 d, .int .i64 a, .int .i64 b0, .int .i64 c0, .int .i64 nn, .string t] 56 (0, 0)) ∧ BoIs w2 g cap V P1 ∧ But g w w2) := ⟨S2.out.1, S2.out.2.1.congr (fun s _ => by rw [hP1, hm1]; simp; try omega), S2.out.2.2⟩
    clear S2 hP1 hm1 hm2 hdec
    have c := (cells_of S3.out.1).1
    have c0' := c 0
    have c1' := c 1
    have c2' := c 2
    have c3' := c 3
    have c4' := c 4
    have c5' := c 5
    have c6' := c 6
    simp at c0' c1' c2' c3' c4' c5' c6'
    clear c
    go_wp2_with fail
    refine (US.out _).mono ?_
    rintro e4 w4 ⟨v4, rfl, o4, b4⟩
    obtain ⟨gu, cu, hv4, _⟩ := id o4
    subst hv4
    have lo4 := ints_low o4
    have S4 : Hid (BoIs w4 g cap V P1 ∧ But g w w4) := ⟨S3.out.2.1.stays b4, S3.out.2.2.on b4⟩
    have hg3 := S3.out.2.1.lt
    have hgu : gu ≠ g := by omega
    have O4 := hideP o4
    clear c0' c1' c2' c3' c4' c5' c6' b4 o4 US S3 lo4
    obtain ⟨N, hN⟩ : ∃ N, U.length = N := ⟨_, rfl⟩
    have HN := hideP hN
    rw [hN] at O4 ⊢
    have hN3 : N ≤ 1000 := by rw [← hN]; exact UL.out
    clear hN
    go_wp2
    go_loopg [5] N (fun gk i wr => ∃ k : Nat, gk + k = N ∧ i = .int .i64 k ∧ Hid (BoIs wr g cap V (fun s => s ∈ U.take k ∨ P1 s)) ∧ Hid (But g w4 wr))
    case atStart => exact ⟨0, by simp, rfl, S4.out.1.congr (fun s _ => by simp), But.refl _ _⟩
    case round =>
      obtain ⟨k, hk, rfl, hS, hB⟩ := hrel
      by_cases hlt : k < N
      · have hkl : k < U.length := by rw [HN.out]; exact hlt
        obtain ⟨s, hs⟩ : ∃ s, U[k] = s := ⟨_, rfl⟩
        have hr := HU.out s (by rw [← hs]; exact List.getElem_mem hkl)
        obtain ⟨m, hm⟩ : ∃ m : Nat, s = (m : Int) := ⟨s.toNat, by omega⟩
        subst hm
        have hmV : m < V := by omega
        have x0 := ints_at (O4.out.butG hB.out (by simp [Value.ownBlock]; omega)) k hkl
        rw [hs] at x0
        obtain ⟨b1, y0, _, yf⟩ := hS.out.at hmV
        have S5 : Hid (BoIs (wr.setCell ⟨g, m, none⟩ (.bool true)) g cap V (fun s => s ∈ U.take (k + 1) ∨ P1 s)) := hS.out.set hmV (fun t _ => by
          rw [List.take_succ_eq_append_getElem hkl, List.mem_append, hs, List.mem_singleton]
          by_cases e : t = m
          · subst e; simp
          · have : ¬ ((t : Int) = (m : Int)) := by omega
            simp [e, this])
        have B5 := hideP (hB.out.set m (.bool true))
        clear hs hS hB
        go_wp2
        go_roundg (N - (k + 1))
        case rel => exact ⟨k + 1, by omega, by go_num, S5.out, B5.out⟩
        case measure => omega
      · have hkn : k = N := by omega
        subst hkn
        have E : Hid (BoIs wr g cap V (aheadQ ⟨op, d, a, b0, c0, nn, t⟩ P) ∧ But g w wr) := by
          rw [← HN.out, List.take_length] at hS
          exact ⟨hS.out.congr FIN.out, S4.out.2.twice hB.out⟩
        go_wp2
        go_end0
        exact ⟨rfl, E.out⟩
  · have hdec : decide (op ≠ 4 ∧ op ≠ 6) = true := by simp; omega
    rw [hdec]
    obtain ⟨m, hm⟩ : ∃ m : Nat, d = (m : Int) := ⟨d.toNat, by have : makesP ⟨op, d, a, b0, c0, nn, t⟩ = d := hm2; omega⟩
    subst hm
    have hmV : m < V := by have : makesP ⟨op, (m : Int), a, b0, c0, nn, t⟩ = (m : Int) := hm2; omega
    obtain ⟨b1, y0, _, yf⟩ := S2.out.2.1.at hmV
    have z1 := (cells_of S2.out.1).1 1
    simp at z1
    have S3 : Hid ((w2.setCell ⟨g, m, none⟩ (.bool false)).heap[w.heap.size]? = some (.cells #[.int .i64 op, .int .i64 (m : Int), .int .i64 a, .int .i64 b0, .int .i64 c0, .int .i64 nn, .string t] 56 (0, 0)) ∧ BoIs (w2.setCell ⟨g, m, none⟩ (.bool false)) g cap V P1 ∧ But g w (w2.setCell ⟨g, m, none⟩ (.bool false))) := by
      have hb : But g w2 (w2.setCell ⟨g, m, none⟩ (.bool false)) := (But.refl g w2).set _ _
      refine ⟨hb.keepB S2.out.1 (by omega), S2.out.2.1.set hmV (fun t' _ => ?_), S2.out.2.2.twice hb⟩
      rw [hP1, hm2]
      by_cases e : t' = m
      · subst e; simp
      · have : ¬ ((t' : Int) = (m : Int)) := by omega
        simp [e, this]
    clear S2 hP1 hm0 hm1 hm2 hm3 hdec
    go_upto_region 3 with fail
    obtain ⟨w3, hw3⟩ : ∃ w3, w2.setCell ⟨g, m, none⟩ (.bool false) = w3 := ⟨_, rfl⟩
    rw [hw3] at S3 ⊢
    clear hw3 y0 yf z1
    have c := (cells_of S3.out.1).1
    have c0' := c 0
    have c1' := c 1
    have c2' := c 2
    have c3' := c 3
    have c4' := c 4
    have c5' := c 5
    have c6' := c 6
    simp at c0' c1' c2' c3' c4' c5' c6'
    clear c
    go_wp2_with fail
    refine (US.out _).mono ?_
    rintro e4 w4 ⟨v4, rfl, o4, b4⟩
    obtain ⟨gu, cu, hv4, _⟩ := id o4
    subst hv4
    have lo4 := ints_low o4
    have S4 : Hid (BoIs w4 g cap V P1 ∧ But g w w4) := ⟨S3.out.2.1.stays b4, S3.out.2.2.on b4⟩
    have hg3 := S3.out.2.1.lt
    have hgu : gu ≠ g := by omega
    have O4 := hideP o4
    clear c0' c1' c2' c3' c4' c5' c6' b4 o4 US S3 lo4
    obtain ⟨N, hN⟩ : ∃ N, U.length = N := ⟨_, rfl⟩
    have HN := hideP hN
    rw [hN] at O4 ⊢
    have hN3 : N ≤ 1000 := by rw [← hN]; exact UL.out
    clear hN
    go_wp2
    go_loopg [5] N (fun gk i wr => ∃ k : Nat, gk + k = N ∧ i = .int .i64 k ∧ Hid (BoIs wr g cap V (fun s => s ∈ U.take k ∨ P1 s)) ∧ Hid (But g w4 wr))
    case atStart => exact ⟨0, by simp, rfl, S4.out.1.congr (fun s _ => by simp), But.refl _ _⟩
    case round =>
      obtain ⟨k, hk, rfl, hS, hB⟩ := hrel
      by_cases hlt : k < N
      · have hkl : k < U.length := by rw [HN.out]; exact hlt
        obtain ⟨s, hs⟩ : ∃ s, U[k] = s := ⟨_, rfl⟩
        have hr := HU.out s (by rw [← hs]; exact List.getElem_mem hkl)
        obtain ⟨m2, hm⟩ : ∃ m2 : Nat, s = (m2 : Int) := ⟨s.toNat, by omega⟩
        subst hm
        have hmV2 : m2 < V := by omega
        have x0 := ints_at (O4.out.butG hB.out (by simp [Value.ownBlock]; omega)) k hkl
        rw [hs] at x0
        obtain ⟨b1, y0, _, yf⟩ := hS.out.at hmV2
        have S5 : Hid (BoIs (wr.setCell ⟨g, m2, none⟩ (.bool true)) g cap V (fun s => s ∈ U.take (k + 1) ∨ P1 s)) := hS.out.set hmV2 (fun t _ => by
          rw [List.take_succ_eq_append_getElem hkl, List.mem_append, hs, List.mem_singleton]
          by_cases e : t = m2
          · subst e; simp
          · have : ¬ ((t : Int) = (m2 : Int)) := by omega
            simp [e, this])
        have B5 := hideP (hB.out.set m2 (.bool true))
        clear hs hS hB
        go_wp2
        go_roundg (N - (k + 1))
        case rel => exact ⟨k + 1, by omega, by go_num, S5.out, B5.out⟩
        case measure => omega
      · have hkn : k = N := by omega
        subst hkn
        have E : Hid (BoIs wr g cap V (aheadQ ⟨op, (m : Int), a, b0, c0, nn, t⟩ P) ∧ But g w wr) := by
          rw [← HN.out, List.take_length] at hS
          exact ⟨hS.out.congr FIN.out, S4.out.2.twice hB.out⟩
        go_wp2
        go_end0
        exact ⟨rfl, E.out⟩
end Go.Proofs.YtelkpikbjfkpcaaGreat

/- The contracts of spec.l08Behind and spec.l08In. -/
namespace Go.Proofs.YtelkpikbjfkpcaaGreat
open Go.ChangeShapes Go.WideShapes Go.ChangeAt Go.RowKit
def BoMade (w : World) (V : Nat) (P : Int → Prop) (e : Ending) (w' : World) : Prop := ∃ g' cap', e = .returned (.slice (some ⟨g', 0, none⟩) V cap') ∧ w.heap.size ≤ g' ∧ BoIs w' g' cap' V P ∧ Below w.heap.size w w'
set_option maxRecDepth 100000 in
set_option maxHeartbeats 4000000 in
theorem behind8_any (code : List Ins) (jump a t0 els : Int) (P : Int → Prop) (w : World) (g cap V kv : Nat) (vc : Value) (h : BoIs w g cap V P) (hj : jumpP ⟨code, jump, a, t0, els⟩ = [] ∧ jump = 0 ∨ jumpP ⟨code, jump, a, t0, els⟩ = [a] ∧ jump ≠ 0) (hs : ∀ s ∈ jumpP ⟨code, jump, a, t0, els⟩, 0 ≤ s ∧ s < V) (hV : V ≤ 1000) :
    Calls Tryz.prog 45 #[.agg #[vc, .int .i64 jump, .int .i64 a, .int .i64 t0, .int .i64 els], .slice (some ⟨g, 0, none⟩) V kv] w fun e w' => BoMade w V (behindQ ⟨code, jump, a, t0, els⟩ P) e w' := by
  obtain ⟨l2, hl, hP, hcell⟩ := h.list
  obtain ⟨W2, hW2⟩ : ∃ W2, (w.alloc (.cells #[vc, .int .i64 jump, .int .i64 a, .int .i64 t0, .int .i64 els] 51)).alloc (.cells #[] 4) = W2 := ⟨_, rfl⟩
  have HW := hideP hW2
  have bel := below2 w (.cells #[vc, .int .i64 jump, .int .i64 a, .int .i64 t0, .int .i64 els] 51) (.cells #[] 4)
  have tw := (two (w := w) (o1 := .cells #[vc, .int .i64 jump, .int .i64 a, .int .i64 t0, .int .i64 els] 51) (o2 := .cells #[] 4) (Below.refl _ _)).1
  rw [hW2] at bel tw
  have O0 : Hid (OwnE BoE W2 (w.heap.size + 1) (.slice (some ⟨w.heap.size + 1, 0, none⟩) 0 0) []) := by
    have := own_nil BoOk (w.alloc (.cells #[vc, .int .i64 jump, .int .i64 a, .int .i64 t0, .int .i64 els] 51)) (w.heap.size + 1) (by simp)
    rw [show (w.alloc (.cells #[vc, .int .i64 jump, .int .i64 a, .int .i64 t0, .int .i64 els] 51)).heap.size = w.heap.size + 1 by simp] at this
    rw [← hW2]
    exact this
  have hgl := h.lt
  have OC : Hid (∀ j (hj : j < l2.length) r, r < BoE.sz → W2.cell? ⟨g, 0 + j * BoE.sz + r, none⟩ = (BoE.cs l2[j])[r]?) := fun j hj r hr => (bel.cell (p := ⟨g, _, none⟩) hgl).trans (hcell j hj r hr)
  have hsz : Hid (w.heap.size + 1 ≤ W2.heap.size) := by rw [← hW2]; show _ ≤ _; simp
  have BEL := hideP bel
  have TW := hideP tw
  have HPP := hideP hP
  have HLL := hideP hl
  clear bel tw hP hl hcell h hW2
  go_enter Tryz.func45, Tryz.ntmps45
  go_upto_region 2 with (at_builtin; rw [HW.out]; refine list_appEs BoOk _ rfl _ _ rfl (w.heap.size + 1) _ [] l2 V g 0 kv HLL.out.symm rfl rfl O0.out OC.out (by rw [HLL.out]; simp; omega) hsz.out ?_; intro v5 w5 o5 grow5 loc5)
  rw [List.nil_append] at o5
  replace grow5 : W2.grownBy w5 (some (w.heap.size + 1)) := grow5
  obtain ⟨g5, c5, hv5, _⟩ := id o5
  subst hv5
  have hb5 := o5.bo (P := P) HPP.out
  rw [HLL.out] at hb5
  have BE5 : Hid (Below w.heap.size w w5 ∧ w.heap.size + 1 ≤ g5 ∧ w5.heap[w.heap.size]? = some (.cells #[vc, .int .i64 jump, .int .i64 a, .int .i64 t0, .int .i64 els] 51 (0, 0))) := by
    refine ⟨BEL.out.grown grow5 BEL.out.size (fun b' hb' => ?_), hb5.2.1, (grow5.block _ (hltP TW.out) (by simp)).trans TW.out⟩
    have : w.heap.size + 1 = b' := by simpa using hb'
    omega
  have BB := hideP hb5.1
  rw [HLL.out]
  clear o5 hb5 grow5 loc5 O0 OC hsz BEL TW HPP HW HLL
  have z := (cells_of BE5.out.2.2).1
  have z1 := z 1
  have z2 := z 2
  simp at z1 z2
  clear z
  rcases hj with ⟨hj1, hj2⟩ | ⟨hj1, hj2⟩
  · subst hj2
    have E : Hid (BoIs w5 g5 c5 V (behindQ ⟨code, 0, a, t0, els⟩ P)) := BB.out.congr (fun s _ => by unfold behindQ; rw [hj1]; simp)
    clear hj1 hs
    go_wp2
    go_ret
    exact ⟨g5, c5, rfl, by have := BE5.out.2.1; omega, E.out, BE5.out.1⟩
  · have hja := hs a (by rw [hj1]; simp)
    obtain ⟨m, hm⟩ : ∃ m : Nat, a = (m : Int) := ⟨a.toNat, by omega⟩
    subst hm
    have hmV : m < V := by omega
    have hjb : (jump != 0) = true := by simpa using hj2
    obtain ⟨b1, y0, _, yf⟩ := BB.out.at hmV
    have E : Hid (BoIs (w5.setCell ⟨g5, m, none⟩ (.bool true)) g5 c5 V (behindQ ⟨code, jump, (m : Int), t0, els⟩ P)) := BB.out.set hmV (fun t _ => by
      unfold behindQ
      rw [hj1, List.mem_singleton]
      by_cases e : t = m
      · subst e; simp
      · have : ¬ ((t : Int) = (m : Int)) := by omega
        simp [e, this])
    have F : Hid (Below w.heap.size w (w5.setCell ⟨g5, m, none⟩ (.bool true))) := BE5.out.1.trans (((But.refl g5 w5).set m (.bool true)).below (by have := BE5.out.2.1; omega) BE5.out.1.size)
    clear hj1 hs BB
    go_wp2
    go_ret
    exact ⟨g5, c5, rfl, by have := BE5.out.2.1; omega, E.out, F.out⟩
theorem drop_fold {code : List Ins} {P : Int → Prop} {i k : Nat} (hi : i < code.length) (hk : i + k + 1 = code.length) : (code.drop (code.length - (k + 1))).foldr aheadQ P = aheadQ code[i] ((code.drop (code.length - k)).foldr aheadQ P) := by
  have e1 : code.length - (k + 1) = i := by omega
  have e2 : code.length - k = i + 1 := by omega
  rw [e1, e2, List.drop_eq_getElem_cons hi, List.foldr_cons]
set_option maxRecDepth 100000 in
set_option maxHeartbeats 4000000 in
theorem in8_any (code : List Ins) (jump a t0 els : Int) (P : Int → Prop) (w : World) (g cap V kv kc B : Nat) (uc : Option Addr) (h : BoIs w g cap V P) (hc : SlIs InsIs 7 w B uc code) (hl : code.length ≤ 1000) (hx : ∀ x ∈ code, (∀ s ∈ usesP x, 0 ≤ s ∧ s < V) ∧ (makesP x = -1 ∧ (x.op = 4 ∨ x.op = 6) ∨ 0 ≤ makesP x ∧ makesP x < V ∧ makesP x = x.d ∧ ¬ (x.op = 4 ∨ x.op = 6)))
    (hj : jumpP ⟨code, jump, a, t0, els⟩ = [] ∧ jump = 0 ∨ jumpP ⟨code, jump, a, t0, els⟩ = [a] ∧ jump ≠ 0) (hs : ∀ s ∈ jumpP ⟨code, jump, a, t0, els⟩, 0 ≤ s ∧ s < V) (hV : V ≤ 1000) :
    Calls Tryz.prog 83 #[.agg #[.slice uc code.length kc, .int .i64 jump, .int .i64 a, .int .i64 t0, .int .i64 els], .slice (some ⟨g, 0, none⟩) V kv] w fun e w' => BoMade w V (inQ ⟨code, jump, a, t0, els⟩ P) e w' := by
  have HC := hideP hc
  have HX := hideP hx
  obtain ⟨Q, hQ⟩ : ∃ Q, behindQ ⟨code, jump, a, t0, els⟩ P = Q := ⟨_, rfl⟩
  have BH : Hid (∀ W, Below w.heap.size w W → Calls Tryz.prog 45 #[.agg #[.slice uc code.length kc, .int .i64 jump, .int .i64 a, .int .i64 t0, .int .i64 els], .slice (some ⟨g, 0, none⟩) V kv] W fun e w' => BoMade W V Q e w') := fun W hW => by rw [← hQ]; exact behind8_any code jump a t0 els P W g cap V kv _ (h.stays hW) hj hs hV
  have FI : Hid (inQ ⟨code, jump, a, t0, els⟩ P = code.foldr aheadQ Q) := by show _ = _; rw [← hQ]; rfl
  obtain ⟨R, hR⟩ : ∃ R, inQ ⟨code, jump, a, t0, els⟩ P = R := ⟨_, rfl⟩
  rw [hR] at FI ⊢
  have al := (Below.refl w.heap.size w).alloc (Nat.le_refl _) (.cells #[.slice uc code.length kc, .int .i64 jump, .int .i64 a, .int .i64 t0, .int .i64 els] 51)
  have BX := hideP (newO w (.cells #[.slice uc code.length kc, .int .i64 jump, .int .i64 a, .int .i64 t0, .int .i64 els] 51))
  have AL := hideP al
  obtain ⟨N, hN⟩ : ∃ N, code.length = N := ⟨_, rfl⟩
  have HN := hideP hN
  rw [hN] at BH BX AL hl ⊢
  clear hQ hR al h hc hx hj hs hN
  go_enter Tryz.func83, Tryz.ntmps83
  go_wp2_with fail
  refine (BH.out _ AL.out).mono ?_
  rintro e2 w2 ⟨g2, c2, rfl, lo2, bo2, b2⟩
  have S2 : Hid (BoIs w2 g2 c2 V Q ∧ Below w.heap.size w w2 ∧ w2.heap[w.heap.size]? = some (.cells #[.slice uc N kc, .int .i64 jump, .int .i64 a, .int .i64 t0, .int .i64 els] 51 (0, 0))) := ⟨bo2, below_trans AL.out b2, (b2.block _ (hltP BX.out)).trans BX.out⟩
  have hlo : w.heap.size < g2 := by simp at lo2; omega
  clear lo2 bo2 b2 BH BX AL
  have z := (cells_of S2.out.2.2).1 0
  simp at z
  go_wp2
  go_loopg [6] N (fun gk i wr => ∃ k : Nat, gk + k = N ∧ i = .int .i64 ((N : Int) - 1 - k) ∧ Hid (BoIs wr g2 c2 V ((code.drop (code.length - k)).foldr aheadQ Q)) ∧ Hid (But g2 w2 wr))
  case atStart => exact ⟨0, by simp, by simp, by show BoIs _ _ _ _ _; simp; exact S2.out.1, But.refl _ _⟩
  case round =>
    obtain ⟨k, hk, rfl, hS, hB⟩ := hrel
    clear z
    have BX2 := hideP (hB.out.keepB S2.out.2.2 (by omega))
    by_cases hlt : k < N
    · obtain ⟨i, hi⟩ : ∃ i : Nat, (N : Int) - 1 - k = i := ⟨N - 1 - k, by omega⟩
      rw [hi]
      have HI : Hid ((N : Int) - 1 - k = i) := hi
      have hin : i < N := by omega
      have hic : i < code.length := by rw [HN.out]; exact hin
      have hx := HX.out _ (List.getElem_mem hic)
      have DR : Hid ((code.drop (code.length - (k + 1))).foldr aheadQ Q = aheadQ code[i] ((code.drop (code.length - k)).foldr aheadQ Q)) := drop_fold hic (by rw [HN.out]; omega)
      obtain ⟨PK, hPK⟩ : ∃ PK, (code.drop (code.length - k)).foldr aheadQ Q = PK := ⟨_, rfl⟩
      rw [hPK] at DR hS
      have hcw := HC.out.stays InsKeeps (S2.out.2.1.trans (hB.out.below (by omega) S2.out.2.1.size))
      obtain ⟨bb, oo, op, d, a2, b0, c0, nn, t, hu, _, hbl, he, q0, q1, q2, q3, q4, q5, q6, hins⟩ := Ins_get hcw i hic
      subst hu
      rw [he] at DR hx
      have AH := hideP (ahead8_any ⟨op, d, a2, b0, c0, nn, t⟩ PK wr g2 c2 V c2 hS.out hx.1 hx.2 hins.2)
      simp only [insV] at AH
      have z := (cells_of BX2.out).1 0
      simp at z
      clear hi hx hPK hcw he hins hS HX
      go_wp2_with fail
      refine AH.out.mono ?_
      rintro e5 w5 ⟨rfl, s5, b5⟩
      have S5 : Hid (BoIs w5 g2 c2 V ((code.drop (code.length - (k + 1))).foldr aheadQ Q) ∧ But g2 w2 w5) := by rw [DR.out]; exact ⟨s5, hB.out.twice b5⟩
      clear s5 b5 AH DR q0 q1 q2 q3 q4 q5 q6 z BX2 hB
      go_wp2
      go_roundg (N - (k + 1))
      case rel => exact ⟨k + 1, by omega, by have := HI.out; go_num, S5.out.1, S5.out.2⟩
      case measure => omega
    · have hkn : k = N := by omega
      subst hkn
      have E : Hid (BoIs wr g2 c2 V R ∧ Below w.heap.size w wr) := by
        rw [HN.out, Nat.sub_self, List.drop_zero, ← FI.out] at hS
        exact ⟨hS.out, S2.out.2.1.trans (hB.out.below (by omega) S2.out.2.1.size)⟩
      clear BX2
      go_wp2
      go_ret
      exact ⟨g2, c2, rfl, by omega, E.out⟩
end Go.Proofs.YtelkpikbjfkpcaaGreat

/- Which slots are live, told again and again until nothing is new: plain; rows of truths. -/
namespace Go.Proofs.YtelkpikbjfkpcaaGreat
open Go.ChangeShapes Go.WideShapes Go.ChangeAt Go.RowKit
/-- Within a round that began with P0: what is told now, whether something is new, which ways were looked at. -/
structure Jn (bs : List Blk) (P0 P : Nat → Int → Prop) (m : Bool) (D : Nat → Nat → Prop) : Prop where
  mono : ∀ i s, P0 i s → P i s
  sound : ∀ i s, P i s → LiveB bs i s
  flag : (m = true ∧ ∃ i s, ¬ P0 i s ∧ P i s) ∨ (m = false ∧ (∀ i s, P i s → P0 i s) ∧ ∀ i t (ht : t < bs.length), D i t → ∀ s, inQ bs[t] (P0 t) s → P0 i s)
theorem Jn.start {bs : List Blk} {P0 : Nat → Int → Prop} (h : ∀ i s, P0 i s → LiveB bs i s) : Jn bs P0 P0 false (fun _ _ => False) := ⟨fun _ _ h => h, h, Or.inr ⟨rfl, fun _ _ h => h, fun _ _ _ h => absurd h id⟩⟩
theorem Jn.weak {bs : List Blk} {P0 P : Nat → Int → Prop} {m : Bool} {D D' : Nat → Nat → Prop} (h : Jn bs P0 P m D) (hd : ∀ i t, D' i t → D i t) : Jn bs P0 P m D' :=
  ⟨h.mono, h.sound, h.flag.imp id (fun ⟨a, b, c⟩ => ⟨a, b, fun i t ht hD => c i t ht (hd i t hD)⟩)⟩
theorem inQ_congr {b : Blk} {P P' : Int → Prop} (h : ∀ s, P s ↔ P' s) (s : Int) : inQ b P s ↔ inQ b P' s := by
  rw [inQ_iff, inQ_iff, h s]
/-- One way more: all that is live ahead of t is told of i. -/
theorem Jn.step {bs : List Blk} {P0 P : Nat → Int → Prop} {m m' : Bool} {D : Nat → Nat → Prop} (h : Jn bs P0 P m D) {i t : Nat} (hi : i < bs.length) (ht : t < bs.length) (hn : (t : Int) ∈ nextP bs[i])
    (hm : (m' = true ∧ (m = true ∨ ∃ s, inQ bs[t] (P t) s ∧ ¬ P i s)) ∨ (m' = false ∧ m = false ∧ ∀ s, inQ bs[t] (P t) s → P i s)) :
    Jn bs P0 (fun i' s => P i' s ∨ (i' = i ∧ inQ bs[t] (P t) s)) m' (fun i' t' => D i' t' ∨ (i' = i ∧ t' = t)) := by
  refine ⟨fun i' s hs => Or.inl (h.mono i' s hs), fun i' s hs => ?_, ?_⟩
  · rcases hs with hs | ⟨rfl, hs⟩
    · exact h.sound i' s hs
    · exact live_in hi ht hn (h.sound t) hs
  · rcases hm with ⟨rfl, hm⟩ | ⟨rfl, rfl, hm⟩
    · left
      refine ⟨rfl, ?_⟩
      rcases h.flag with ⟨_, i0, s0, h1, h2⟩ | ⟨e, h1, _⟩
      · exact ⟨i0, s0, h1, Or.inl h2⟩
      · rcases hm with hm | ⟨s, h2, h3⟩
        · rw [e] at hm; cases hm
        · exact ⟨i, s, fun h4 => h3 (h.mono _ _ h4), Or.inr ⟨rfl, h2⟩⟩
    · right
      rcases h.flag with ⟨e, _⟩ | ⟨_, h1, h2⟩
      · cases e
      · have eq : ∀ j s, P j s ↔ P0 j s := fun j s => ⟨h1 j s, h.mono j s⟩
        refine ⟨rfl, fun i' s hs => ?_, fun i' t' ht' hD s hs => ?_⟩
        · rcases hs with hs | ⟨rfl, hs⟩
          · exact h1 i' s hs
          · exact h1 _ _ (hm s hs)
        · rcases hD with hD | ⟨rfl, rfl⟩
          · exact h2 i' t' ht' hD s hs
          · exact h1 _ _ (hm s ((inQ_congr (eq t') s).2 hs))
open Classical in
noncomputable def cntF (n V : Nat) (P : Nat → Int → Prop) : Nat := ((List.range n).flatMap fun i => (List.range V).map fun s => (i, s)).countP fun q => decide (¬ P q.1 (q.2 : Int))
theorem countP_lt {α : Type} {p q : α → Bool} : ∀ (l : List α), (∀ x ∈ l, q x = true → p x = true) → (∃ x ∈ l, p x = true ∧ q x = false) → l.countP q < l.countP p
  | [], _, ⟨x, hx, _⟩ => by simp at hx
  | y :: l, h, ⟨x, hx, h1, h2⟩ => by
    have hle : l.countP q ≤ l.countP p := List.countP_mono_left (fun z hz => h z (List.mem_cons_of_mem _ hz))
    rcases List.mem_cons.1 hx with rfl | hx
    · rw [List.countP_cons_of_pos h1, List.countP_cons_of_neg (by simp [h2])]
      omega
    · have ih := countP_lt l (fun z hz => h z (List.mem_cons_of_mem _ hz)) ⟨x, hx, h1, h2⟩
      rw [List.countP_cons, List.countP_cons]
      have := h y List.mem_cons_self
      cases e : q y
      · simp; omega
      · simp [this e]; omega
theorem cntF_le {n V : Nat} {P P' : Nat → Int → Prop} (h : ∀ i s, P i s → P' i s) : cntF n V P' ≤ cntF n V P := by
  unfold cntF
  exact List.countP_mono_left (fun q _ hq => by simp only [decide_eq_true_eq] at *; exact fun h1 => hq (h _ _ h1))
theorem cntF_lt {n V : Nat} {P P' : Nat → Int → Prop} (h : ∀ i s, P i s → P' i s) {i s : Nat} (hi : i < n) (hs : s < V) (h1 : ¬ P i (s : Int)) (h2 : P' i (s : Int)) : cntF n V P' < cntF n V P := by
  unfold cntF
  refine countP_lt _ (fun q _ hq => by simp only [decide_eq_true_eq] at *; exact fun h1 => hq (h _ _ h1)) ⟨(i, s), ?_, by simpa using h1, by simpa using h2⟩
  rw [List.mem_flatMap]
  exact ⟨i, List.mem_range.2 hi, List.mem_map.2 ⟨s, List.mem_range.2 hs, rfl⟩⟩
theorem live_i {bs : List Blk} {i : Nat} {s : Int} (h : LiveB bs i s) : i < bs.length := by cases h <;> assumption
/-- A round that told something new leaves fewer to tell. -/
theorem Jn.less {V : Nat} {bs : List Blk} {P0 P : Nat → Int → Prop} {m : Bool} {D : Nat → Nat → Prop} (ok : BsOk V bs) (h : Jn bs P0 P m D) : 2 * cntF bs.length V P + (if m = true then 1 else 0) < 2 * cntF bs.length V P0 + 1 := by
  have h0 := cntF_le (n := bs.length) (V := V) h.mono
  rcases h.flag with ⟨rfl, i, s, h1, h2⟩ | ⟨rfl, _⟩
  · have hl := h.sound i s h2
    have hs := live_slot ok hl
    obtain ⟨k, rfl⟩ : ∃ k : Nat, s = (k : Int) := ⟨s.toNat, by omega⟩
    have := cntF_lt (V := V) h.mono (live_i hl) (show k < V by omega) h1 h2
    simp; omega
  · simp; omega
/-- The rows, as slices of V truths. -/
def RoE (V : Nat) : Elem (Nat × Nat) := { T := 53, ST := 61, sz := 1, bys := 24, z := .slice none 0 0, cs := fun q => [.slice (some ⟨q.1, 0, none⟩) V q.2] }
theorem RoOk (V : Nat) : (RoE V).Ok where
  und := Tryz.underlying61
  info := by kernel_rfl
  zs := rfl
  pos := by show 0 < 1; decide
  few := by show 24 ≤ 1000; decide
  len := fun _ => rfl
  one := fun x u hu => by simp [RoE] at hu; rw [hu]; rfl
/-- The box of the graph, the rows and what they tell. -/
structure LvAt (w : World) (V : Nat) (bv : Array Value) (v : Value) (rows : List (Nat × Nat)) (P : Nat → Int → Prop) (W : World) : Prop where
  own : OwnE (RoE V) W (w.heap.size + 1) v rows
  row : ∀ i (hi : i < rows.length), BoIs W (rows[i]).1 (rows[i]).2 V (P i) ∧ w.heap.size + 1 ≤ (rows[i]).1
  dis : ∀ i j (hi : i < rows.length) (hj : j < rows.length), i ≠ j → (rows[i]).1 ≠ (rows[j]).1
  box : W.heap[w.heap.size]? = some (.cells bv 29 (0, 0))
  bel : Below w.heap.size w W
section
variable {w W W' : World} {V : Nat} {bv : Array Value} {v : Value} {rows : List (Nat × Nat)} {P P' : Nat → Int → Prop}
theorem LvAt.stays (h : LvAt w V bv v rows P W) (b : Below W.heap.size W W') : LvAt w V bv v rows P W' :=
  ⟨h.own.stays b, fun i hi => ⟨(h.row i hi).1.stays b, (h.row i hi).2⟩, h.dis, (b.block _ (hltP h.box)).trans h.box, below_trans h.bel b⟩
theorem LvAt.congr (h : LvAt w V bv v rows P W) (e : ∀ i s, i < rows.length → s < V → (P i (s : Nat) ↔ P' i (s : Nat))) : LvAt w V bv v rows P' W :=
  ⟨h.own, fun i hi => ⟨(h.row i hi).1.congr (fun s hs => e i s hi hs), (h.row i hi).2⟩, h.dis, h.box, h.bel⟩
theorem LvAt.apart (h : LvAt w V bv v rows P W) (i : Nat) (hi : i < rows.length) : v.ownBlock ≠ some (rows[i]).1 := fun e => by
  obtain ⟨g, cap, cur, rfl, _, hh, _⟩ := h.own.parts (RoOk V)
  obtain ⟨c, h1, _⟩ := (h.row i hi).1
  have e : g = (rows[i]).1 := by simpa [Value.ownBlock] using e
  subst e
  rw [hh] at h1
  injection h1 with h1
  injection h1 with _ h2
  exact absurd h2 (by show ¬ ((53 : Nat) = 4); decide)
/-- A slot is told of block i. -/
theorem LvAt.set (h : LvAt w V bv v rows P W) {i s : Nat} (hi : i < rows.length) (hs : s < V) (e : ∀ j t, j < rows.length → t < V → (P' j (t : Nat) ↔ P j (t : Nat) ∨ (j = i ∧ t = s))) : LvAt w V bv v rows P' (W.setCell ⟨(rows[i]).1, s, none⟩ (.bool true)) := by
  have hb : But (rows[i]).1 W (W.setCell ⟨(rows[i]).1, s, none⟩ (.bool true)) := (But.refl _ W).set _ _
  have lo := (h.row i hi).2
  refine ⟨h.own.butG hb (h.apart i hi), fun j hj => ⟨?_, (h.row j hj).2⟩, h.dis, hb.keepB h.box (by omega), h.bel.trans (hb.below (by omega) h.bel.size)⟩
  by_cases e1 : j = i
  · subst e1
    refine (h.row j hj).1.set hs (fun t ht => ?_)
    rw [e j t hj ht]
    by_cases e2 : t = s <;> simp [e2]
  · refine ((h.row j hj).1.keep (hb.block _ (h.row j hj).1.lt (h.dis j i hj hi e1))).congr (fun t ht => ?_)
    rw [e j t hj ht]
    simp [e1]
/-- Where row i stands. -/
theorem LvAt.at (h : LvAt w V bv v rows P W) {g n cap : Nat} (hv : v = .slice (some ⟨g, 0, none⟩) n cap) {i : Nat} (hi : i < rows.length) : W.cell? ⟨g, i, none⟩ = some (.slice (some ⟨(rows[i]).1, 0, none⟩) V (rows[i]).2) ∧ n = rows.length := by
  subst hv
  have h0 := h.own.at (RoOk V) i hi 0 (by show 0 < 1; decide)
  obtain ⟨g', cap', cur, hv, _⟩ := h.own.parts (RoOk V)
  injection hv with _ e2
  refine ⟨?_, e2⟩
  simpa [RoE] using h0
theorem LvAt.keep (h : LvAt w V bv v rows P W) {i : Nat} (hi : i < rows.length) (hb : But (rows[i]).1 W W') (hr : BoIs W' (rows[i]).1 (rows[i]).2 V (P' i)) (e : ∀ j t, j < rows.length → t < V → j ≠ i → (P' j (t : Nat) ↔ P j (t : Nat))) : LvAt w V bv v rows P' W' := by
  have lo := (h.row i hi).2
  refine ⟨h.own.butG hb (h.apart i hi), fun j hj => ⟨?_, (h.row j hj).2⟩, h.dis, hb.keepB h.box (by omega), h.bel.trans (hb.below (by omega) h.bel.size)⟩
  by_cases e1 : j = i
  · subst e1; exact hr
  · exact ((h.row j hj).1.keep (hb.block _ (h.row j hj).1.lt (h.dis j i hj hi e1))).congr (fun t ht => (e j t hj ht e1).symm)
end
end Go.Proofs.YtelkpikbjfkpcaaGreat

/- The contract of spec.l08Live. -/
namespace Go.Proofs.YtelkpikbjfkpcaaGreat
open Go.ChangeShapes Go.WideShapes Go.ChangeAt Go.RowKit
theorem made_bool (V : Nat) : ∀ s, s < V → (madeCells #[Value.bool false] V)[s]? = some (.bool false) := fun s hs => by simp [madeCells, hs, Nat.mod_one]
theorem infoB : (Tryz.prog.info? 4).map (fun i => (i.zero, i.size, i.bytes)) = some (some (.bool false), 1, 1) := by kernel_rfl
theorem make_bool (V : Nat) (hV : V ≤ 1000) (W : World) : (Instr.makeSlice 53 (.int .i64 (V : Int)) (.int .i64 (V : Int))).run Tryz.prog W = .ok (.slice (some ⟨W.heap.size, 0, none⟩) V V) (W.alloc (.cells (madeCells #[.bool false] V) 4)) := by
  have := make_n (P := Tryz.prog) Tryz.underlying53 infoB V (by omega) (by omega) W
  rw [Nat.mul_one] at this
  exact this
/-- One row more. -/
theorem LvAt.grow {w W W' : World} {V : Nat} {bv : Array Value} {v v' : Value} {rows : List (Nat × Nat)} {P : Nat → Int → Prop} (hV : V ≤ 1000) (h : LvAt w V bv v rows P W) {o : Obj} (ho : OwnE (RoE V) W' (w.heap.size + 1) v' (rows ++ [(W.heap.size, V)])) (hg : ((W.alloc (.cells (madeCells #[.bool false] V) 4)).alloc o).grownBy W' v.ownBlock) (hP : ∀ i s, ¬ P i s) : LvAt w V bv v' (rows ++ [(W.heap.size, V)]) P W' := by
  have b2 := below2 W (.cells (madeCells #[.bool false] V) 4) o
  have h2 := h.stays b2
  have hsz : W.heap.size < ((W.alloc (.cells (madeCells #[.bool false] V) 4)).alloc o).heap.size := by simp; omega
  have hnew : ((W.alloc (.cells (madeCells #[.bool false] V) 4)).alloc o).heap[W.heap.size]? = some (.cells (madeCells #[.bool false] V) 4 (0, 0)) := (two (w := W) (o1 := .cells (madeCells #[.bool false] V) 4) (o2 := o) (Below.refl _ _)).1
  have hvn : v.ownBlock ≠ some W.heap.size := fun e => by have := (h.own.low _ e).2; omega
  have hrow : ∀ i (hi : i < rows.length), BoIs W' (rows[i]).1 (rows[i]).2 V (P i) := fun i hi => (h2.row i hi).1.keep (hg.block _ (h2.row i hi).1.lt (fun e => h2.apart i hi e.symm))
  refine ⟨ho, fun i hi => ?_, fun i j hi hj hij => ?_, (hg.block _ (hltP h2.box) (fun e => by have := (h2.own.low _ e.symm).1; omega)).trans h2.box, h2.bel.grown hg h2.bel.size (fun b' hb' => by have := (h2.own.low b' hb').1; omega)⟩
  · by_cases e : i < rows.length
    · rw [List.getElem_append_left e]
      exact ⟨hrow i e, (h.row i e).2⟩
    · rw [List.getElem_append_right (by omega)]
      simp only [List.getElem_singleton]
      refine ⟨⟨_, (hg.block _ hsz (fun e => hvn e.symm)).trans hnew, size_madeCells _ _, Nat.le_refl _, by unfold maxLen; omega, fun s hs => ⟨false, made_bool V s hs, by simp [hP]⟩⟩, hltP h.box⟩
  · simp only [List.length_append, List.length_singleton] at hi hj
    have key : ∀ a (ha : a < rows.length), (rows[a]).1 ≠ W.heap.size := fun a ha => by have := (h.row a ha).1.lt; omega
    by_cases e1 : i < rows.length
    · by_cases e2 : j < rows.length
      · rw [List.getElem_append_left e1, List.getElem_append_left e2]
        exact h.dis i j e1 e2 hij
      · rw [List.getElem_append_left e1, List.getElem_append_right (by omega)]
        simp only [List.getElem_singleton]
        exact key i e1
    · by_cases e2 : j < rows.length
      · rw [List.getElem_append_right (by omega), List.getElem_append_left e2]
        simp only [List.getElem_singleton]
        exact fun e => key j e2 e.symm
      · omega
theorem code_le {b : Blk} : ∀ {bs : List Blk}, b ∈ bs → b.code.length ≤ (codeAll bs).length
  | [], h => by simp at h
  | c :: bs, h => by
    have e : codeAll (c :: bs) = c.code ++ codeAll bs := rfl
    rw [e, List.length_append]
    rcases List.mem_cons.1 h with rfl | h
    · omega
    · have := code_le h
      omega
def LvMade (w : World) (V : Nat) (bs : List Blk) (e : Ending) (w' : World) : Prop := ∃ g cap rows bv, e = .returned (.slice (some ⟨g, 0, none⟩) bs.length cap) ∧ rows.length = bs.length ∧ LvAt w V bv (.slice (some ⟨g, 0, none⟩) bs.length cap) rows (LiveB bs) w'
/-- What is told of block i, of what is live ahead of t, up to slot k. -/
def upTo (P : Nat → Int → Prop) (i : Nat) (Q : Int → Prop) (k : Nat) : Nat → Int → Prop := fun i' s => P i' s ∨ (i' = i ∧ Q s ∧ s < (k : Int))
theorem upTo_zero {P : Nat → Int → Prop} {i : Nat} {Q : Int → Prop} (i' s' : Nat) : P i' (s' : Int) ↔ upTo P i Q 0 i' (s' : Int) := by
  unfold upTo
  constructor
  · exact Or.inl
  · rintro (h | ⟨_, _, h⟩)
    · exact h
    · omega
theorem upTo_self {P : Nat → Int → Prop} {i : Nat} {Q : Int → Prop} (s : Nat) : upTo P i Q s i (s : Int) ↔ P i (s : Int) := by
  unfold upTo
  constructor
  · rintro (h | ⟨_, _, h⟩)
    · exact h
    · omega
  · exact Or.inl
set_option maxRecDepth 100000 in
set_option maxHeartbeats 16000000 in
theorem spec_l08Live (x : Gr) (V : Nat) (w : World) (B : Nat) (v : Array Value) (h : GrIs w B v x) (hok : grOk x = true) (hxV : x.slots = V) :
    Calls Tryz.prog 44 #[.agg v] w fun e w' => LvMade w V x.blocks e w' := by
  have BOK := hideP (bsOk_of hok hxV)
  have HG := hideP h
  have hV : V ≤ 1000 ∧ x.blocks.length ≤ 300 := by
    simp only [grOk, Bool.and_eq_true, decide_eq_true_eq] at hok
    omega
  have HCL : Hid (∀ b ∈ x.blocks, b.code.length ≤ 1000) := fun b hb => by
    simp only [grOk, Bool.and_eq_true, decide_eq_true_eq] at hok
    have h1 : (codeAll x.blocks).length ≤ 1000 := by omega
    have h2 := code_le hb
    omega
  obtain ⟨hV1, hn⟩ := hV
  have hmk := make_bool V hV1
  obtain ⟨sizes, p, q, r, blocks⟩ := x
  obtain ⟨us, cs, ub, cb, rfl, _, _, hbb⟩ := h
  simp only at *
  subst hxV
  have HBB := hideP hbb
  have S0 : Hid (LvAt w V #[.slice us sizes.length cs, .int .i64 p, .int .i64 q, .int .i64 (V : Int), .slice ub blocks.length cb] (.slice (some ⟨w.heap.size + 1, 0, none⟩) 0 0) [] (fun _ _ => False) ((w.alloc (.cells #[.slice us sizes.length cs, .int .i64 p, .int .i64 q, .int .i64 (V : Int), .slice ub blocks.length cb] 29)).alloc (.cells #[] 53))) := by
    have h2 := own_nil (RoOk V) (w.alloc (.cells #[.slice us sizes.length cs, .int .i64 p, .int .i64 q, .int .i64 (V : Int), .slice ub blocks.length cb] 29)) (w.heap.size + 1) (by simp)
    exact ⟨h2.mono (by simp), fun i hi => absurd hi (Nat.not_lt_zero _), fun i j hi => absurd hi (Nat.not_lt_zero _), (two (w := w) (o2 := .cells #[] 53) (Below.refl _ _)).1, below2 w _ _⟩
  clear hbb hok
  go_enter Tryz.func44, Tryz.ntmps44
  go_wp2
  go_loopg [3, 4] blocks.length (fun gk v ix wr => ∃ (j : Nat) (rows : List (Nat × Nat)), gk + j = blocks.length ∧ ix = .int .i64 j ∧ rows.length = j ∧ Hid (LvAt w V #[.slice us sizes.length cs, .int .i64 p, .int .i64 q, .int .i64 (V : Int), .slice ub blocks.length cb] v rows (fun _ _ => False) wr))
  case atStart => exact ⟨0, [], by simp, rfl, rfl, S0.out⟩
  case round =>
    obtain ⟨j, rows, hj, rfl, hrl, hS⟩ := hrel
    clear S0
    have b4 := (cells_of hS.out.box).1 4
    have b3 := (cells_of hS.out.box).1 3
    simp at b3 b4
    by_cases hlt : j < blocks.length
    · obtain ⟨g0, k0, hv0, _⟩ := id hS.out.own
      subst hv0
      have al := below2 wr (.cells (madeCells #[.bool false] V) 4) (.cells #[.slice (some ⟨wr.heap.size, 0, none⟩) V V] 53)
      have OA := hideP (hS.out.own.stays al)
      have CQ : Hid (∀ r, r < (RoE V).sz → ((wr.alloc (.cells (madeCells #[.bool false] V) 4)).alloc (.cells #[.slice (some ⟨wr.heap.size, 0, none⟩) V V] 53)).cell? ⟨wr.heap.size + 1, 0 + r, none⟩ = ((RoE V).cs (wr.heap.size, V))[r]?) := fun r _ => by
        have := (cells_of ((two (w := wr) (o1 := .cells (madeCells #[.bool false] V) 4) (o2 := .cells #[.slice (some ⟨wr.heap.size, 0, none⟩) V V] 53) (Below.refl _ _)).2.1)).1 r
        rw [Nat.zero_add, this]; simp [RoE]
      have hsz1 : Hid (w.heap.size + 1 ≤ ((wr.alloc (.cells (madeCells #[.bool false] V) 4)).alloc (.cells #[.slice (some ⟨wr.heap.size, 0, none⟩) V V] 53)).heap.size) := Nat.le_trans (hltP hS.out.box) al.size
      have GR := hideP (fun v' W' ho hg => hS.out.grow (v' := v') (W' := W') (o := .cells #[.slice (some ⟨wr.heap.size, 0, none⟩) V V] 53) hV1 ho hg (fun _ _ h => h))
      have HRL := hideP hrl
      clear al hS hrl
      go_wp2_with (at_builtin; refine list_appE (RoOk V) _ rfl _ _ rfl (w.heap.size + 1) _ rows (wr.heap.size, V) (wr.heap.size + 1) 0 1 rfl rfl OA.out CQ.out (by rw [HRL.out]; omega) hsz1.out ?_; intro v6 w6 o6 grow6 loc6)
      have S6 := hideP (GR.out v6 w6 o6 grow6)
      clear o6 grow6 loc6 OA CQ hsz1 GR b3 b4
      go_wp2
      go_roundg (blocks.length - (j + 1))
      case rel => exact ⟨j + 1, _, by omega, by go_num, by rw [List.length_append, HRL.out]; rfl, S6.out⟩
      case measure => omega
    · have hjn : j = blocks.length := by omega
      subst hjn
      clear hmk b3
      obtain ⟨gv, cv, hv0, _⟩ := id hS.out.own
      rw [hrl] at hv0
      subst hv0
      have HRL := hideP hrl
      have T0 := hideP hS.out
      clear hS hrl hj hlt
      obtain ⟨n, hnn⟩ : ∃ n, blocks.length = n := ⟨_, rfl⟩
      have HNN := hideP hnn
      rw [hnn] at hn HRL T0 HG b4 ⊢
      clear hnn
      go_wp2
      clear b4
      go_loopg [5] (2 * cntF n V (fun _ _ => False) + 1) (fun gk mv wr => ∃ (m : Bool) (P : Nat → Int → Prop), gk = 2 * cntF n V P + (if m = true then 1 else 0) ∧ mv = .bool m ∧ Hid (∀ i s, P i s → LiveB blocks i s) ∧ Hid (m = false → ∀ i t (ht : t < blocks.length), (∃ hi : i < blocks.length, (t : Int) ∈ nextP blocks[i]) → ∀ s, inQ blocks[t] (P t) s → P i s) ∧ Hid (LvAt w V #[.slice us sizes.length cs, .int .i64 p, .int .i64 q, .int .i64 (V : Int), .slice ub n cb] (.slice (some ⟨gv, 0, none⟩) n cv) rows P wr))
      case atStart => exact ⟨true, _, by simp, rfl, fun _ _ h => absurd h id, fun h => (by cases h), T0.out⟩
      case round =>
        obtain ⟨m, P0, hgk, rfl, hso, hcl, hS⟩ := hrel
        clear T0
        cases m with
        | false =>
          have E : Hid (LvAt w V #[.slice us sizes.length cs, .int .i64 p, .int .i64 q, .int .i64 (V : Int), .slice ub n cb] (.slice (some ⟨gv, 0, none⟩) n cv) rows (LiveB blocks) wr) := hS.out.congr (fun i s _ _ => ⟨hso.out i s, fun hl => live_all (fun i hi t ht hn s hs => hcl.out rfl i t ht ⟨hi, hn⟩ s hs) hl⟩)
          clear hcl hso hS
          go_wp2
          go_ret
          exact ⟨gv, cv, rows, _, by rw [HNN.out]; rfl, by rw [HNN.out]; exact HRL.out, by rw [HNN.out]; exact E.out⟩
        | true =>
          have b4 := (cells_of hS.out.box).1 4
          simp at b4
          have J0 : Hid (Jn blocks P0 P0 false (fun i t => ∃ hi : i < blocks.length, n ≤ i + 0 ∧ (t : Int) ∈ nextP blocks[i])) := (Jn.start hso.out).weak (fun i t ⟨hi, h0, _⟩ => by rw [HNN.out] at hi; omega)
          have U0 := hideP hS.out
          clear hcl hso hS
          go_wp2
          clear b4
          go_loopg [5, 6] n (fun gk3 mv iv wr => ∃ (k : Nat) (m : Bool) (P1 : Nat → Int → Prop), gk3 + k = n ∧ iv = .int .i64 ((n : Int) - 1 - k) ∧ mv = .bool m ∧ Hid (Jn blocks P0 P1 m (fun i t => ∃ hi : i < blocks.length, n ≤ i + k ∧ (t : Int) ∈ nextP blocks[i])) ∧ Hid (LvAt w V #[.slice us sizes.length cs, .int .i64 p, .int .i64 q, .int .i64 (V : Int), .slice ub n cb] (.slice (some ⟨gv, 0, none⟩) n cv) rows P1 wr))
          case atStart => exact ⟨0, false, P0, by simp, by simp, rfl, J0.out, U0.out⟩
          case round =>
            obtain ⟨k, m, P1, hk, rfl, rfl, hJ, hS⟩ := hrel
            clear J0 U0
            by_cases hlt : k < n
            · obtain ⟨i, hi⟩ : ∃ i : Nat, (n : Int) - 1 - k = i := ⟨n - 1 - k, by omega⟩
              rw [hi]
              have HI : Hid ((n : Int) - 1 - k = i) := hi
              have hin : i < n := by omega
              have hib : i < blocks.length := by rw [HNN.out]; exact hin
              have hir : i < rows.length := by rw [HRL.out]; exact hin
              obtain ⟨bb, oo, code, jump, a, t0, els, uc, cc, hub, _, hbl, he, q0, q1, q2, q3, q4, hbk⟩ := Blk_get (HBB.out.stays BlkKeeps hS.out.bel) i hib
              subst hub
              have NX := hideP (spec_l05Next ⟨code, jump, a, t0, els⟩ wr B _ hbk)
              have b4 := (cells_of hS.out.box).1 4
              simp at b4
              have NT := hideP (BOK.out.next _ (List.getElem_mem hib))
              obtain ⟨nx, hnx⟩ : ∃ nx, nextP blocks[i] = nx := ⟨_, rfl⟩
              have hnl : nx.length ≤ 2 := by rw [← hnx]; exact nextP_len _
              rw [hnx] at NT
              have HNX := hideP hnx
              rw [he] at hnx
              rw [hnx] at NX
              obtain ⟨gi, hgi⟩ : ∃ gi, (rows[i]).1 = gi := ⟨_, rfl⟩
              have HGI := hideP hgi
              have J4 : Hid (Jn blocks P0 P1 m (fun i' t => (∃ hi' : i' < blocks.length, n ≤ i' + k ∧ (t : Int) ∈ nextP blocks[i']) ∨ (i' = i ∧ (t : Int) ∈ nx.take 0))) := hJ.out.weak (fun i' t hd => hd.elim id (fun hd => by simp at hd))
              clear hi hnx he hbk hJ hgi
              go_wp2_with fail
              refine NX.out.mono ?_
              rintro e4 w4 ⟨v4, rfl, o4, bel4⟩
              obtain ⟨gu, cu, hv4, _⟩ := id o4
              subst hv4
              have S4 := hideP (hS.out.stays bel4)
              have lo4 := ints_low o4
              have hgi4 : gi < wr.heap.size := by rw [← HGI.out]; exact (hS.out.row i hir).1.lt
              have hgu : gu ≠ gi := by omega
              have O4 := hideP o4
              obtain ⟨N4, hN4⟩ : ∃ N4, nx.length = N4 := ⟨_, rfl⟩
              have HN4 := hideP hN4
              rw [hN4] at O4 hnl ⊢
              clear bel4 o4 hS NX b4 q0 q1 q2 q3 q4 lo4 hN4
              go_wp2
              go_loopg [5, 8] N4 (fun gk4 mv kv wr => ∃ (j : Nat) (m2 : Bool) (P2 : Nat → Int → Prop), gk4 + j = N4 ∧ kv = .int .i64 j ∧ mv = .bool m2 ∧ Hid (Jn blocks P0 P2 m2 (fun i' t => (∃ hi' : i' < blocks.length, n ≤ i' + k ∧ (t : Int) ∈ nextP blocks[i']) ∨ (i' = i ∧ (t : Int) ∈ nx.take j))) ∧ Hid (LvAt w V #[.slice us sizes.length cs, .int .i64 p, .int .i64 q, .int .i64 (V : Int), .slice (some ⟨bb, oo, none⟩) n cb] (.slice (some ⟨gv, 0, none⟩) n cv) rows P2 wr) ∧ Hid (But gi w4 wr))
              case atStart => exact ⟨0, m, P1, by simp, rfl, rfl, J4.out, S4.out, But.refl _ _⟩
              case round =>
                obtain ⟨j, m2, P2, hj, rfl, rfl, hJ, hS, hB⟩ := hrel
                clear J4 S4
                by_cases hjlt : j < N4
                · have hjl : j < nx.length := by rw [HN4.out]; exact hjlt
                  obtain ⟨tz, htz⟩ : ∃ tz, nx[j] = tz := ⟨_, rfl⟩
                  have hr := NT.out tz (by rw [← htz]; exact List.getElem_mem hjl)
                  obtain ⟨tt, htt⟩ : ∃ tt : Nat, tz = (tt : Int) := ⟨tz.toNat, by omega⟩
                  subst htt
                  rw [HNN.out] at hr
                  have htn : tt < n := by omega
                  have htb : tt < blocks.length := by rw [HNN.out]; exact htn
                  have htr : tt < rows.length := by rw [HRL.out]; exact htn
                  obtain ⟨b2, o2, code2, jump2, a2, t2, els2, uc2, cc2, hub2, _, hbl2, he2, r0, r1, r2, r3, r4, hbk2⟩ := Blk_get (HBB.out.stays BlkKeeps hS.out.bel) tt htb
                  injection hub2 with hub2
                  injection hub2 with hub2 hub3
                  subst hub2 hub3
                  have jn := BOK.out.jump _ (List.getElem_mem htb)
                  have cdn := BOK.out.code _ (List.getElem_mem htb)
                  have cdl := HCL.out _ (List.getElem_mem htb)
                  obtain ⟨Q, hQ⟩ : ∃ Q, inQ blocks[tt] (P2 tt) = Q := ⟨_, rfl⟩
                  have HQ := hideP hQ
                  rw [he2] at jn cdn cdl hQ
                  obtain ⟨ucx, ccx, hvx, _, hcx⟩ := hbk2
                  have hux : uc2 = ucx := by
                    simp only at hvx
                    have := (five_inj hvx).1
                    exact (slice_inj this).1
                  subst hux
                  obtain ⟨gt, hgt⟩ : ∃ gt, (rows[tt]).1 = gt := ⟨_, rfl⟩
                  obtain ⟨ct, hct⟩ : ∃ ct, (rows[tt]).2 = ct := ⟨_, rfl⟩
                  have hbo := (hS.out.row tt htr).1
                  rw [hgt, hct] at hbo
                  have IN : Hid (∀ W, Below wr.heap.size wr W → Calls Tryz.prog 83 #[.agg #[.slice uc2 code2.length cc2, .int .i64 jump2, .int .i64 a2, .int .i64 t2, .int .i64 els2], .slice (some ⟨gt, 0, none⟩) V ct] W fun e w' => BoMade W V Q e w') := fun W hW => by
                    rw [← hQ]
                    exact in8_any code2 jump2 a2 t2 els2 (P2 tt) W gt ct V ct cc2 B uc2 (hbo.stays hW) (hcx.stays InsKeeps hW) cdl cdn jn.2 jn.1 hV1
                  have rc := (hS.out.at rfl htr).1
                  rw [hgt, hct] at rc
                  have x0 := ints_at (O4.out.butG hB.out (by simp [Value.ownBlock]; omega)) j hjl
                  rw [htz] at x0
                  have b4 := (cells_of hS.out.box).1 4
                  simp at b4
                  have hgv := (hS.out.own.low gv rfl).2
                  have hguw : gu < wr.heap.size := by have := (ints_low O4.out).2.1; have := hB.out.size; omega
                  have hbw := hltP hS.out.box
                  have SK : Hid (∀ (W' : World), Below wr.heap.size wr W' → W'.cell? ⟨w.heap.size, 4, none⟩ = some (.slice (some ⟨bb, oo, none⟩) n cb) ∧ W'.cell? ⟨gu, j, none⟩ = some (.int .i64 (tt : Int)) ∧ W'.cell? ⟨bb, oo + tt * 5, none⟩ = some (.slice uc2 code2.length cc2) ∧ W'.cell? ⟨bb, oo + tt * 5 + 1, none⟩ = some (.int .i64 jump2) ∧ W'.cell? ⟨bb, oo + tt * 5 + 2, none⟩ = some (.int .i64 a2) ∧ W'.cell? ⟨bb, oo + tt * 5 + 3, none⟩ = some (.int .i64 t2) ∧ W'.cell? ⟨bb, oo + tt * 5 + 4, none⟩ = some (.int .i64 els2) ∧ W'.cell? ⟨gv, tt, none⟩ = some (.slice (some ⟨gt, 0, none⟩) V ct)) := fun W' hk => by
                    have g : ∀ (b o : Nat) (u : Value), b < wr.heap.size → wr.cell? ⟨b, o, none⟩ = some u → W'.cell? ⟨b, o, none⟩ = some u := fun b o u hb hc => (hk.cell (p := ⟨b, o, none⟩) hb).trans hc
                    exact ⟨g _ _ _ hbw b4, g _ _ _ hguw x0, g _ _ _ hbl2 r0, g _ _ _ hbl2 r1, g _ _ _ hbl2 r2, g _ _ _ hbl2 r3, g _ _ _ hbl2 r4, g _ _ _ hgv rc⟩
                  have IN0 := hideP hS.out
                  have HTZ := hideP htz
                  clear hS hQ hgt hct hbo rc x0 b4 r0 r1 r2 r3 r4 hcx hvx jn cdn cdl htz he2
                  go_upto_region 16 with fail
                  go_region_held3 (fun W' => W'.cell? ⟨w.heap.size, 4, none⟩ = some (.slice (some ⟨bb, oo, none⟩) n cb) ∧ W'.cell? ⟨gu, j, none⟩ = some (.int .i64 (tt : Int)) ∧ W'.cell? ⟨bb, oo + tt * 5, none⟩ = some (.slice uc2 code2.length cc2) ∧ W'.cell? ⟨bb, oo + tt * 5 + 1, none⟩ = some (.int .i64 jump2) ∧ W'.cell? ⟨bb, oo + tt * 5 + 2, none⟩ = some (.int .i64 a2) ∧ W'.cell? ⟨bb, oo + tt * 5 + 3, none⟩ = some (.int .i64 t2) ∧ W'.cell? ⟨bb, oo + tt * 5 + 4, none⟩ = some (.int .i64 els2) ∧ W'.cell? ⟨gv, tt, none⟩ = some (.slice (some ⟨gt, 0, none⟩) V ct)) (first | with_reducible exact SK.out _ F5.out | with_reducible exact SK.out _ (Below.refl _ _).drew) (first
                    | (go_at_call 83; refine (IN.out _ (Below.refl _ _).drew).mono ?_; rintro e5 w5 ⟨gn, cn, rfl, lon, bon, b5⟩; have F5 : Hid (Below wr.heap.size wr w5) := (Below.refl _ _).drew.trans (b5.mono (Nat.le_refl _)); have BN := hideP bon; have LN : Hid (wr.heap.size ≤ gn) := lon; clear b5 bon lon))
                  have S5 := hideP (IN0.out.stays F5.out)
                  have hgi5 : gi < wr.heap.size := by rw [← HGI.out]; exact (IN0.out.row i hir).1.lt
                  have hgn : gn ≠ gi := by have := LN.out; omega
                  have HB5 := hideP (hB.out.on F5.out)
                  clear SK IN IN0 LN hB
                  obtain ⟨ci, hci⟩ : ∃ ci, (rows[i]).2 = ci := ⟨_, rfl⟩
                  have S50 : Hid (LvAt w V #[.slice us sizes.length cs, .int .i64 p, .int .i64 q, .int .i64 (V : Int), .slice (some ⟨bb, oo, none⟩) n cb] (.slice (some ⟨gv, 0, none⟩) n cv) rows (upTo P2 i Q 0) w5) := S5.out.congr (fun i' s' _ _ => upTo_zero i' s')
                  clear S5 F5
                  go_wp2
                  go_loopg [5, 10] V (fun gk5 mv sv wr => ∃ (s : Nat) (m5 : Bool), gk5 + s = V ∧ sv = .int .i64 s ∧ mv = .bool m5 ∧ Hid ((m5 = true ∧ (m2 = true ∨ ∃ s' : Nat, s' < s ∧ Q s' ∧ ¬ P2 i s')) ∨ (m5 = false ∧ m2 = false ∧ ∀ s' : Nat, s' < s → Q s' → P2 i s')) ∧ Hid (LvAt w V #[.slice us sizes.length cs, .int .i64 p, .int .i64 q, .int .i64 (V : Int), .slice (some ⟨bb, oo, none⟩) n cb] (.slice (some ⟨gv, 0, none⟩) n cv) rows (upTo P2 i Q s) wr) ∧ Hid (But gi w5 wr))
                  case atStart => exact ⟨0, m2, by simp, rfl, rfl, by show _ ∨ _; cases m2 <;> simp, S50.out, But.refl _ _⟩
                  case round =>
                    obtain ⟨s, m5, hs5, rfl, rfl, hfl, hS, hB5⟩ := hrel
                    clear S50
                    have b3 := (cells_of hS.out.box).1 3
                    simp at b3
                    by_cases hsV : s < V
                    · obtain ⟨b1, y1, e1, _⟩ := (BN.out.keep (hB5.out.block gn BN.out.lt hgn)).at hsV
                      have rc := (hS.out.at rfl hir).1
                      obtain ⟨b2, y2, e2, yf⟩ := (hS.out.row i hir).1.at hsV
                      rw [HGI.out] at rc y2 yf
                      rw [hci] at rc
                      have E1 := hideP e1
                      have E2 : Hid (b2 = true ↔ P2 i s) := e2.trans (upTo_self s)
                      clear e1 e2
                      cases b1 with
                      | false =>
                        have NQ : ¬ Q s := fun h => by have := E1.out.2 h; cases this
                        have S6 : Hid (LvAt w V #[.slice us sizes.length cs, .int .i64 p, .int .i64 q, .int .i64 (V : Int), .slice (some ⟨bb, oo, none⟩) n cb] (.slice (some ⟨gv, 0, none⟩) n cv) rows (upTo P2 i Q (s + 1)) wr) := hS.out.congr (fun i' s' _ _ => by
                          unfold upTo
                          constructor
                          · rintro (h | ⟨h1, h2, h3⟩)
                            · exact Or.inl h
                            · exact Or.inr ⟨h1, h2, by omega⟩
                          · rintro (h | ⟨h1, h2, h3⟩)
                            · exact Or.inl h
                            · refine Or.inr ⟨h1, h2, ?_⟩
                              by_cases e : s' = s
                              · subst e; exact absurd h2 NQ
                              · omega)
                        have F6 : Hid ((m5 = true ∧ (m2 = true ∨ ∃ s' : Nat, s' < s + 1 ∧ Q s' ∧ ¬ P2 i s')) ∨ (m5 = false ∧ m2 = false ∧ ∀ s' : Nat, s' < s + 1 → Q s' → P2 i s')) := by
                          rcases hfl.out with ⟨h1, h2 | ⟨s', h3, h4⟩⟩ | ⟨h1, h2, h3⟩
                          · exact Or.inl ⟨h1, Or.inl h2⟩
                          · exact Or.inl ⟨h1, Or.inr ⟨s', by omega, h4⟩⟩
                          · refine Or.inr ⟨h1, h2, fun s' hs' hq => ?_⟩
                            by_cases e : s' = s
                            · subst e; exact absurd hq NQ
                            · exact h3 s' (by omega) hq
                        clear hfl hS E1 E2 NQ
                        go_wp2
                        go_roundg (V - (s + 1))
                        case rel => exact ⟨s + 1, m5, by omega, by go_num, rfl, F6.out, S6.out, hB5.out⟩
                        case measure => omega
                      | true =>
                        have YQ : Q s := E1.out.1 rfl
                        cases b2 with
                        | true =>
                          have YP : P2 i s := E2.out.1 rfl
                          have S6 : Hid (LvAt w V #[.slice us sizes.length cs, .int .i64 p, .int .i64 q, .int .i64 (V : Int), .slice (some ⟨bb, oo, none⟩) n cb] (.slice (some ⟨gv, 0, none⟩) n cv) rows (upTo P2 i Q (s + 1)) wr) := hS.out.congr (fun i' s' _ _ => by
                            unfold upTo
                            constructor
                            · rintro (h | ⟨h1, h2, h3⟩)
                              · exact Or.inl h
                              · exact Or.inr ⟨h1, h2, by omega⟩
                            · rintro (h | ⟨h1, h2, h3⟩)
                              · exact Or.inl h
                              · by_cases e : s' = s
                                · subst e h1; exact Or.inl YP
                                · exact Or.inr ⟨h1, h2, by omega⟩)
                          have F6 : Hid ((m5 = true ∧ (m2 = true ∨ ∃ s' : Nat, s' < s + 1 ∧ Q s' ∧ ¬ P2 i s')) ∨ (m5 = false ∧ m2 = false ∧ ∀ s' : Nat, s' < s + 1 → Q s' → P2 i s')) := by
                            rcases hfl.out with ⟨h1, h2 | ⟨s', h3, h4⟩⟩ | ⟨h1, h2, h3⟩
                            · exact Or.inl ⟨h1, Or.inl h2⟩
                            · exact Or.inl ⟨h1, Or.inr ⟨s', by omega, h4⟩⟩
                            · refine Or.inr ⟨h1, h2, fun s' hs' hq => ?_⟩
                              by_cases e : s' = s
                              · subst e; exact YP
                              · exact h3 s' (by omega) hq
                          clear hfl hS E1 E2 YQ YP
                          go_wp2
                          go_roundg (V - (s + 1))
                          case rel => exact ⟨s + 1, m5, by omega, by go_num, rfl, F6.out, S6.out, hB5.out⟩
                          case measure => omega
                        | false =>
                          have NP : ¬ P2 i s := fun h => by have := E2.out.2 h; cases this
                          have S6 : Hid (LvAt w V #[.slice us sizes.length cs, .int .i64 p, .int .i64 q, .int .i64 (V : Int), .slice (some ⟨bb, oo, none⟩) n cb] (.slice (some ⟨gv, 0, none⟩) n cv) rows (upTo P2 i Q (s + 1)) (wr.setCell ⟨gi, s, none⟩ (.bool true))) := by
                            have := hS.out.set (P' := upTo P2 i Q (s + 1)) hir hsV (fun i' s' _ _ => by
                              unfold upTo
                              constructor
                              · rintro (h | ⟨h1, h2, h3⟩)
                                · exact Or.inl (Or.inl h)
                                · by_cases e : s' = s
                                  · exact Or.inr ⟨h1, e⟩
                                  · exact Or.inl (Or.inr ⟨h1, h2, by omega⟩)
                              · rintro ((h | ⟨h1, h2, h3⟩) | ⟨h1, h2⟩)
                                · exact Or.inl h
                                · exact Or.inr ⟨h1, h2, by omega⟩
                                · subst h2; exact Or.inr ⟨h1, YQ, by omega⟩)
                            rw [HGI.out] at this
                            exact this
                          have F6 : Hid (m2 = true ∨ ∃ s' : Nat, s' < s + 1 ∧ Q s' ∧ ¬ P2 i s') := Or.inr ⟨s, by omega, YQ, NP⟩
                          have B6 := hideP (hB5.out.set s (.bool true))
                          clear hfl hS E1 E2 YQ NP hB5
                          go_wp2
                          go_roundg (V - (s + 1))
                          case rel => exact ⟨s + 1, true, by omega, by go_num, rfl, Or.inl ⟨rfl, F6.out⟩, S6.out, B6.out⟩
                          case measure => omega
                    · have hsn : s = V := by omega
                      subst hsn
                      have hedge : (tt : Int) ∈ nextP blocks[i] := by rw [HNX.out, ← HTZ.out]; exact List.getElem_mem hjl
                      have RG : ∀ z, Q z → 0 ≤ z ∧ z < s := fun z hz => live_slot BOK.out (live_in hib htb hedge (hJ.out.sound tt) (by rw [HQ.out]; exact hz))
                      have J6 : Hid (Jn blocks P0 (fun i' z => P2 i' z ∨ (i' = i ∧ inQ blocks[tt] (P2 tt) z)) m5 (fun i' t => (∃ hi' : i' < blocks.length, n ≤ i' + k ∧ (t : Int) ∈ nextP blocks[i']) ∨ (i' = i ∧ (t : Int) ∈ nx.take (j + 1)))) := by
                        refine (hJ.out.step (m' := m5) hib htb hedge ?_).weak (fun i' t hd => ?_)
                        · rw [HQ.out]
                          rcases hfl.out with ⟨h1, h2 | ⟨s', h3, h4, h5⟩⟩ | ⟨h1, h2, h3⟩
                          · exact Or.inl ⟨h1, Or.inl h2⟩
                          · exact Or.inl ⟨h1, Or.inr ⟨s', h4, h5⟩⟩
                          · refine Or.inr ⟨h1, h2, fun z hz => ?_⟩
                            have hr := RG z hz
                            obtain ⟨zn, rfl⟩ : ∃ zn : Nat, z = (zn : Int) := ⟨z.toNat, by omega⟩
                            exact h3 zn (by omega) hz
                        · rcases hd with hd | ⟨h1, h2⟩
                          · exact Or.inl (Or.inl hd)
                          · rw [List.take_succ_eq_append_getElem hjl, List.mem_append, HTZ.out, List.mem_singleton] at h2
                            rcases h2 with h2 | h2
                            · exact Or.inl (Or.inr ⟨h1, h2⟩)
                            · exact Or.inr ⟨h1, by omega⟩
                      have S6 : Hid (LvAt w s #[.slice us sizes.length cs, .int .i64 p, .int .i64 q, .int .i64 (s : Int), .slice (some ⟨bb, oo, none⟩) n cb] (.slice (some ⟨gv, 0, none⟩) n cv) rows (fun i' z => P2 i' z ∨ (i' = i ∧ inQ blocks[tt] (P2 tt) z)) wr) := hS.out.congr (fun i' z _ hz => by
                        unfold upTo
                        rw [HQ.out]
                        constructor
                        · rintro (h | ⟨h1, h2, _⟩)
                          · exact Or.inl h
                          · exact Or.inr ⟨h1, h2⟩
                        · rintro (h | ⟨h1, h2⟩)
                          · exact Or.inl h
                          · exact Or.inr ⟨h1, h2, by omega⟩)
                      have B6 := hideP (HB5.out.twice hB5.out)
                      clear hJ hfl hS RG hB5 HB5
                      go_wp2
                      go_roundg (N4 - (j + 1))
                      case rel => exact ⟨j + 1, m5, _, by omega, by go_num, rfl, J6.out, S6.out, B6.out⟩
                      case measure => omega
                · have hjn : j = N4 := by omega
                  subst hjn
                  have J6 : Hid (Jn blocks P0 P2 m2 (fun i' t => ∃ hi' : i' < blocks.length, n ≤ i' + (k + 1) ∧ (t : Int) ∈ nextP blocks[i'])) := hJ.out.weak (fun i' t ⟨hi', h1, h2⟩ => by
                    by_cases e : n ≤ i' + k
                    · exact Or.inl ⟨hi', e, h2⟩
                    · have e2 : i' = i := by have := HI.out; omega
                      subst e2
                      refine Or.inr ⟨rfl, ?_⟩
                      rw [← HN4.out, List.take_length, ← HNX.out]
                      exact h2)
                  clear hJ
                  go_wp2
                  go_roundg (n - (k + 1))
                  case rel => exact ⟨k + 1, m2, P2, by omega, by have := HI.out; go_num, rfl, J6.out, hS.out⟩
                  case measure => omega
            · have hkn : k = n := by omega
              subst hkn
              have L := Jn.less BOK.out hJ.out
              rw [HNN.out] at L
              have CL : Hid (m = false → ∀ i t (ht : t < blocks.length), (∃ hi : i < blocks.length, (t : Int) ∈ nextP blocks[i]) → ∀ s, inQ blocks[t] (P1 t) s → P1 i s) := fun hm i t ht ⟨hi, hnx⟩ s hs => by
                rcases hJ.out.flag with ⟨e, _⟩ | ⟨_, h1, h2⟩
                · rw [hm] at e; cases e
                · exact hJ.out.mono _ _ (h2 i t ht ⟨hi, by omega, hnx⟩ s ((inQ_congr (fun s => ⟨h1 t s, hJ.out.mono t s⟩) s).1 hs))
              have SO := hideP hJ.out.sound
              clear hJ
              go_wp2
              go_roundg (2 * cntF k V P1 + (if m = true then 1 else 0))
              case rel => exact ⟨m, P1, rfl, rfl, SO.out, CL.out, hS.out⟩
              case measure => simp at hgk; omega
end Go.Proofs.YtelkpikbjfkpcaaGreat

/- The contract of spec.Clean (written by wip/mkclsc.py). -/
namespace Go.Proofs.YtelkpikbjfkpcaaGreat
open Go.ChangeShapes Go.WideShapes Go.ChangeAt Go.RowKit
/-- The rows alone. -/
structure RwAt (lo V : Nat) (v : Value) (rows : List (Nat × Nat)) (P : Nat → Int → Prop) (W : World) : Prop where
  own : OwnE (RoE V) W lo v rows
  row : ∀ i (hi : i < rows.length), BoIs W (rows[i]).1 (rows[i]).2 V (P i) ∧ lo ≤ (rows[i]).1
theorem RwAt.stays {lo V : Nat} {v : Value} {rows : List (Nat × Nat)} {P : Nat → Int → Prop} {W W' : World} (h : RwAt lo V v rows P W) (b : Below W.heap.size W W') : RwAt lo V v rows P W' := ⟨h.own.stays b, fun i hi => ⟨(h.row i hi).1.stays b, (h.row i hi).2⟩⟩
theorem RwAt.but {lo V g : Nat} {v : Value} {rows : List (Nat × Nat)} {P : Nat → Int → Prop} {W W' : World} (h : RwAt lo V v rows P W) (b : But g W W') (hg : g < lo) : RwAt lo V v rows P W' :=
  ⟨h.own.butG b (fun e => by have := (h.own.low _ e).1; omega), fun i hi => ⟨(h.row i hi).1.keep (b.block _ (h.row i hi).1.lt (by have := (h.row i hi).2; omega)), (h.row i hi).2⟩⟩
/-- Between two steps: those that stay, what is used. -/
structure CkAt (wb : World) (gl cl V : Nat) (o : Value) (S : (Int → Prop) × List Ins) (W : World) : Prop where
  out : OwnE InE W wb.heap.size o S.2
  bo : BoIs W gl cl V S.1
  but : But gl wb W
theorem CkAt.stays {wb W W' : World} {gl cl V : Nat} {o : Value} {S : (Int → Prop) × List Ins} (h : CkAt wb gl cl V o S W) (b : Below W.heap.size W W') : CkAt wb gl cl V o S W' := ⟨h.out.stays b, h.bo.stays b, h.but.on b⟩
theorem CkAt.ahead {wb W W' : World} {gl cl V : Nat} {o : Value} {P P' : Int → Prop} {O : List Ins} (h : CkAt wb gl cl V o (P, O) W) (hg : gl < wb.heap.size) (s : BoIs W' gl cl V P') (b : But gl W W') : CkAt wb gl cl V o (P', O) W' :=
  ⟨h.out.butG b (fun e => by have := (h.out.low _ e).1; omega), s, h.but.twice b⟩
theorem CkAt.pre {wb W W' : World} {gl cl V : Nat} {o : Value} {P : Int → Prop} {O : List Ins} (h : CkAt wb gl cl V o (P, O) W) {x : Ins} {o0 : Obj} {v' : Value} (ho : OwnE InE W' wb.heap.size v' ([x] ++ O)) (hg : (W.alloc o0).grownBy W' (some W.heap.size)) : CkAt wb gl cl V v' (P, x :: O) W' := by
  have al := (Below.refl W.heap.size W).alloc (Nat.le_refl _) o0
  have b : Below W.heap.size W W' := ⟨hg.os.trans al.os, hg.tape.trans al.tape, hg.output.trans al.output, Nat.le_trans al.size hg.size, fun k hk => (hg.block k (Nat.lt_of_lt_of_le hk al.size) (by simp; omega)).trans (al.block k hk)⟩
  exact ⟨ho, h.bo.stays b, h.but.on b⟩
theorem RwAt.at {lo V g n cap : Nat} {rows : List (Nat × Nat)} {P : Nat → Int → Prop} {W : World} (h : RwAt lo V (.slice (some ⟨g, 0, none⟩) n cap) rows P W) {i : Nat} (hi : i < rows.length) : W.cell? ⟨g, i, none⟩ = some (.slice (some ⟨(rows[i]).1, 0, none⟩) V (rows[i]).2) ∧ n = rows.length := by
  have h0 := h.own.at (RoOk V) i hi 0 (by show 0 < 1; decide)
  obtain ⟨g', cap', cur, hv, _⟩ := h.own.parts (RoOk V)
  injection hv with _ e2
  exact ⟨by simpa [RoE] using h0, e2⟩
set_option maxRecDepth 100000 in
set_option maxHeartbeats 8000000 in
theorem spec_clean0 (x : Gr) (w : World) (B : Nat) (v : Array Value) (h : GrIs w B v x) (GO : OkIs 14 x) (hf : Fits x) :
    Calls Tryz.prog 19 #[.agg v] w fun en w' => SpGrF w (clP x) en w' := by
  have HG0 := hideP h
  have HGO := hideP GO
  obtain ⟨y, hy⟩ : ∃ y, grOk x = y := ⟨_, rfl⟩
  have HY := hideP hy
  have CY : Hid (∀ W, Below w.heap.size w W → Calls Tryz.prog 14 #[.agg v] W fun en w' => en = .returned (.bool y) ∧ Below W.heap.size W w') := fun W hW => by rw [← hy]; exact GO W B v (GrKeeps.stays h hW)
  have CC : Hid (∀ W, Below w.heap.size w W → Calls Tryz.prog 13 #[.agg v] W fun en w' => ∃ v', en = .returned (.agg v') ∧ GrIs w' W.heap.size v' x ∧ Below W.heap.size W w' ∧ CpGr W.heap.size x v' w') := fun W hW => spec_copyX x W B v (GrKeeps.stays h hW) hf
  obtain ⟨X, hX⟩ : ∃ X, clP x = X := ⟨_, rfl⟩
  have HX := hideP hX
  rw [hX]
  clear hy hX GO hf
  obtain ⟨sizes, p, q, r, blocks⟩ := x
  obtain ⟨us, cs, ub, cb, rfl, _, _, hbb⟩ := h
  simp only at *
  have hbm := hbb.1
  have HBB := hideP hbb
  have AL := hideP (below2 w (.cells #[.slice us sizes.length cs, .int .i64 p, .int .i64 q, .int .i64 r, .slice ub blocks.length cb] 29) (.cells #[.slice none 0 0, .int .i64 0, .int .i64 0, .int .i64 0, .slice none 0 0] 29))
  have TW := hideP (fun w1 => two (w := w) (w1 := w1) (o1 := .cells #[.slice us sizes.length cs, .int .i64 p, .int .i64 q, .int .i64 r, .slice ub blocks.length cb] 29) (o2 := .cells #[.slice none 0 0, .int .i64 0, .int .i64 0, .int .i64 0, .slice none 0 0] 29))
  have HZ2 : Hid (((w.alloc (.cells #[.slice us sizes.length cs, .int .i64 p, .int .i64 q, .int .i64 r, .slice ub blocks.length cb] 29)).alloc (.cells #[.slice none 0 0, .int .i64 0, .int .i64 0, .int .i64 0, .slice none 0 0] 29)).heap.size = w.heap.size + 2) := by show _ = _; simp
  clear hbb
  go_enter Tryz.func19, Tryz.ntmps19
  go_wp2_with fail
  refine (CC.out _ AL.out).mono ?_
  rintro e1 w1 ⟨v1, rfl, _, bel1, sa, kS, gq, cq, rows1, rfl, cp1⟩
  obtain ⟨P1, RR, L1, hw⟩ := TW.out w1 bel1
  rw [HZ2.out] at cp1
  simp only at cp1 ⊢
  have al2 := (Below.refl w1.heap.size w1).alloc (Nat.le_refl _) (.cells #[.slice sa sizes.length kS, .int .i64 p, .int .i64 q, .int .i64 r, .slice (some ⟨gq, 0, none⟩) blocks.length cq] 29)
  have LO : Hid (w.heap.size + 2 ≤ gq ∧ gq < w1.heap.size) := cp1.own.low gq rfl
  have I0 : Hid (SfAt w w1.heap.size #[.slice us sizes.length cs, .int .i64 p, .int .i64 q, .int .i64 r, .slice ub blocks.length cb] #[.slice none 0 0, .int .i64 0, .int .i64 0, .int .i64 0, .slice none 0 0] #[.slice sa sizes.length kS, .int .i64 p, .int .i64 q, .int .i64 r, .slice (some ⟨gq, 0, none⟩) blocks.length cq] ⟨sizes, p, q, r, blocks⟩ sa kS gq cq (w1.alloc (.cells #[.slice sa sizes.length kS, .int .i64 p, .int .i64 q, .int .i64 r, .slice (some ⟨gq, 0, none⟩) blocks.length cq] 29))) := ⟨⟨rows1, cp1.stays al2⟩, (al2.block _ (hltP P1)).trans P1, (al2.block _ (hltP RR)).trans RR, blk_newG w1 _, below_trans hw al2⟩
  clear bel1 P1 RR hw TW AL CC al2 cp1 HZ2 L1
  go_upto_region 2 with fail
  obtain ⟨Wb, hWb⟩ : ∃ Wb, w1.alloc (.cells #[.slice sa sizes.length kS, .int .i64 p, .int .i64 q, .int .i64 r, .slice (some ⟨gq, 0, none⟩) blocks.length cq] 29) = Wb := ⟨_, rfl⟩
  rw [hWb] at I0 ⊢
  clear hWb
  have c0 := (cells_of I0.out.bP).1 0
  have c1 := (cells_of I0.out.bP).1 1
  have c2 := (cells_of I0.out.bP).1 2
  have c3 := (cells_of I0.out.bP).1 3
  have c4 := (cells_of I0.out.bP).1 4
  simp at c0 c1 c2 c3 c4
  go_wp2_with fail
  refine (CY.out _ I0.out.bel).mono ?_
  rintro e2 w2 ⟨rfl, bel2⟩
  have I2 := hideP (I0.out.stays bel2)
  clear CY c0 c1 c2 c3 c4 I0 bel2
  cases y with
  | false =>
    have E : Hid (X = ⟨sizes, p, q, r, blocks⟩) := by show _ = _; rw [← HX.out]; exact clP_no (by rw [HY.out]; simp)
    have z := I2.out.bR
    have d0 := (cells_of I2.out.bO).1 0
    have d1 := (cells_of I2.out.bO).1 1
    have d2 := (cells_of I2.out.bO).1 2
    have d3 := (cells_of I2.out.bO).1 3
    have d4 := (cells_of I2.out.bO).1 4
    have r0 := (cells_of z).1 0
    have r1 := (cells_of z).1 1
    have r2 := (cells_of z).1 2
    have r3 := (cells_of z).1 3
    have r4 := (cells_of z).1 4
    have rf := (cells_of z).2
    simp at d0 d1 d2 d3 d4 r0 r1 r2 r3 r4
    have z0 := heap_setCell_same w2 _ 0 _ _ (.slice sa sizes.length kS) z
    have z1 := heap_setCell_same _ _ 1 _ _ (.int .i64 p) z0
    have z2 := heap_setCell_same _ _ 2 _ _ (.int .i64 q) z1
    have z3 := heap_setCell_same _ _ 3 _ _ (.int .i64 r) z2
    have z4 : (((((w2.setCell ⟨w.heap.size + 1, 0, none⟩ (.slice sa sizes.length kS)).setCell ⟨w.heap.size + 1, 1, none⟩ (.int .i64 p)).setCell ⟨w.heap.size + 1, 2, none⟩ (.int .i64 q)).setCell ⟨w.heap.size + 1, 3, none⟩ (.int .i64 r)).setCell ⟨w.heap.size + 1, 4, none⟩ (.slice (some ⟨gq, 0, none⟩) blocks.length cq)).heap[w.heap.size + 1]? = some (.cells #[.slice sa sizes.length kS, .int .i64 p, .int .i64 q, .int .i64 r, .slice (some ⟨gq, 0, none⟩) blocks.length cq] 29 (0, 0)) := heap_setCell_same _ _ 4 _ _ (.slice (some ⟨gq, 0, none⟩) blocks.length cq) z3
    have ZF := hideP z4
    have BU : Hid (But (w.heap.size + 1) w2 (((((w2.setCell ⟨w.heap.size + 1, 0, none⟩ (.slice sa sizes.length kS)).setCell ⟨w.heap.size + 1, 1, none⟩ (.int .i64 p)).setCell ⟨w.heap.size + 1, 2, none⟩ (.int .i64 q)).setCell ⟨w.heap.size + 1, 3, none⟩ (.int .i64 r)).setCell ⟨w.heap.size + 1, 4, none⟩ (.slice (some ⟨gq, 0, none⟩) blocks.length cq))) := ((((((But.refl (w.heap.size + 1) w2).set 0 (.slice sa sizes.length kS)).set 1 (.int .i64 p)).set 2 (.int .i64 q)).set 3 (.int .i64 r)).set 4 (.slice (some ⟨gq, 0, none⟩) blocks.length cq))
    clear z z0 z1 z2 z3 z4
    go_wp2
    refine bodyPost_ret (results_cell_row rfl _ _ (w.heap.size + 1) 29 #[.slice sa sizes.length kS, .int .i64 p, .int .i64 q, .int .i64 r, .slice (some ⟨gq, 0, none⟩) blocks.length cq] (0, 0) _ rfl ZF.out Tryz.underlying29 rfl (by kernel_rfl)) rfl ?_
    rw [E.out]
    have hlt9 := hltP I2.out.bR
    obtain ⟨rows9, hr9⟩ := I2.out.cp
    exact ⟨_, rfl, GrKeeps.mono (GrKeeps.but (hr9.gr hbm) (by omega) BU.out) (by omega), I2.out.bel.trans (BU.out.below (by omega) (by omega))⟩
  | true =>
    have hok : Hid (grOk ⟨sizes, p, q, r, blocks⟩ = true) := HY.out
    have hbl : blocks.length ≤ 300 := by have := hok.out; simp only [grOk, Bool.and_eq_true, decide_eq_true_eq] at this; omega
    obtain ⟨V, hV⟩ : ∃ V : Nat, r = (V : Int) := by
      have := hok.out
      simp only [grOk, frOk, Bool.and_eq_true, decide_eq_true_eq] at this
      exact ⟨r.toNat, by omega⟩
    subst hV
    have E : Hid (X = ⟨sizes, p, q, (V : Int), blocks.mapIdx (fun j b => clB (LiveB blocks j) b)⟩) := by show _ = _; rw [← HX.out]; exact clP_ok hok.out
    have HOK := hideP (bsOk_of (g := ⟨sizes, p, q, (V : Int), blocks⟩) (V := V) hok.out rfl)
    have hV1 : V ≤ 1000 := by have := hok.out; simp only [grOk, Bool.and_eq_true, decide_eq_true_eq] at this; omega
    have HCL : Hid (∀ b ∈ blocks, b.code.length ≤ 1000) := fun b hb => by
      have := hok.out
      simp only [grOk, Bool.and_eq_true, decide_eq_true_eq] at this
      have h1 : (codeAll blocks).length ≤ 1000 := by omega
      have h2 := code_le hb
      omega
    have LVC : Hid (∀ W, Below w.heap.size w W → Calls Tryz.prog 44 #[.agg #[.slice us sizes.length cs, .int .i64 p, .int .i64 q, .int .i64 (V : Int), .slice ub blocks.length cb]] W fun e w' => LvMade W V blocks e w') := fun W hW => spec_l08Live ⟨sizes, p, q, (V : Int), blocks⟩ V W B _ (GrKeeps.stays HG0.out hW) hok.out rfl
    clear HX HY
    have y0 := (cells_of I2.out.bP).1 0
    have y1 := (cells_of I2.out.bP).1 1
    have y2 := (cells_of I2.out.bP).1 2
    have y3 := (cells_of I2.out.bP).1 3
    have y4 := (cells_of I2.out.bP).1 4
    simp at y0 y1 y2 y3 y4
    go_wp2_with fail
    refine (LVC.out _ I2.out.bel).mono ?_
    rintro e3 w3 ⟨gr, cr, rows, bv3, rfl, hrl, lv⟩
    have I3 := hideP (I2.out.stays lv.bel)
    have hgq2 : gq < w2.heap.size := by have := LO.out; have := hltP I2.out.bO; omega
    have RW : Hid (RwAt (w2.heap.size + 1) V (.slice (some ⟨gr, 0, none⟩) blocks.length cr) rows (LiveB blocks) w3) := ⟨lv.own, lv.row⟩
    have HRL := hideP hrl
    clear y0 y1 y2 y3 y4 LVC I2 lv hrl
    go_wp2
    go_loopg [5] blocks.length (fun gk ix wr => ∃ j : Nat, gk + j = blocks.length ∧ ix = .int .i64 j ∧ Hid (SfAt w w1.heap.size #[.slice us sizes.length cs, .int .i64 p, .int .i64 q, .int .i64 (V : Int), .slice ub blocks.length cb] #[.slice none 0 0, .int .i64 0, .int .i64 0, .int .i64 0, .slice none 0 0] #[.slice sa sizes.length kS, .int .i64 p, .int .i64 q, .int .i64 (V : Int), .slice (some ⟨gq, 0, none⟩) blocks.length cq] ⟨sizes, p, q, (V : Int), midX (fun j b => clB (LiveB blocks j) b) blocks j⟩ sa kS gq cq wr) ∧ Hid (RwAt (w2.heap.size + 1) V (.slice (some ⟨gr, 0, none⟩) blocks.length cr) rows (LiveB blocks) wr))
    case atStart => exact ⟨0, by simp, rfl, I3.out, RW.out⟩
    case round =>
      obtain ⟨j, hj, rfl, hI, hRW⟩ := hrel
      clear I3 RW
      have b4 := (cells_of hI.out.bP).1 4
      simp at b4
      by_cases hlt : j < blocks.length
      · have hjr : j < rows.length := by rw [HRL.out]; exact hlt
        obtain ⟨bb, oo, code, jump, a, t0, els, uc, kc, hub, _, hbl0, hBK, q0, q1, q2, q3, q4, hbk⟩ := Blk_get (HBB.out.stays BlkKeeps hI.out.bel) j hlt
        subst hub
        have HBK := hideP hBK
        have jn := HOK.out.jump _ (List.getElem_mem hlt)
        have cdn := HOK.out.code _ (List.getElem_mem hlt)
        have cdl := HCL.out _ (List.getElem_mem hlt)
        rw [hBK] at jn cdn cdl
        simp only at cdn cdl
        obtain ⟨ucx, ccx, hvx, _, hcode⟩ := hbk
        have hux : uc = ucx := by
          simp only at hvx
          exact (slice_inj (five_inj hvx).1).1
        subst hux
        simp only at hcode
        have hw := ins_all hcode
        have HWF := hideP hw
        have CDN := hideP cdn
        have al := (Below.refl wr.heap.size wr).alloc (Nat.le_refl _) (.cells #[.slice uc code.length kc, .int .i64 jump, .int .i64 a, .int .i64 t0, .int .i64 els] 51)
        have IB := hideP (hI.out.stays al)
        have RB := hideP (hRW.out.stays al)
        have BX := hideP (newO wr (.cells #[.slice uc code.length kc, .int .i64 jump, .int .i64 a, .int .i64 t0, .int .i64 els] 51))
        have HC := hideP (hcode.stays InsKeeps al)
        obtain ⟨gj, hgj⟩ : ∃ gj, (rows[j]).1 = gj := ⟨_, rfl⟩
        obtain ⟨cj, hcj⟩ : ∃ cj, (rows[j]).2 = cj := ⟨_, rfl⟩
        have rc := (hRW.out.at hjr).1
        have bo := (RB.out.row j hjr).1
        rw [hgj, hcj] at rc bo
        have BHD : Hid (∀ W, Below (wr.alloc (.cells #[.slice uc code.length kc, .int .i64 jump, .int .i64 a, .int .i64 t0, .int .i64 els] 51)).heap.size (wr.alloc (.cells #[.slice uc code.length kc, .int .i64 jump, .int .i64 a, .int .i64 t0, .int .i64 els] 51)) W → Calls Tryz.prog 45 #[.agg #[.slice uc code.length kc, .int .i64 jump, .int .i64 a, .int .i64 t0, .int .i64 els], .slice (some ⟨gj, 0, none⟩) V cj] W fun e w' => BoMade W V (behindQ ⟨code, jump, a, t0, els⟩ (LiveB blocks j)) e w') := fun W hW => behind8_any code jump a t0 els (LiveB blocks j) W gj cj V cj _ (bo.stays hW) jn.2 jn.1 hV1
        obtain ⟨PB, hPB⟩ : ∃ PB, behindQ ⟨code, jump, a, t0, els⟩ (LiveB blocks j) = PB := ⟨_, rfl⟩
        have HPB := hideP hPB
        rw [hPB] at BHD
        have RC0 := hideP rc
        have hgrl := (hRW.out.own.low gr rfl).2
        clear hI hRW hvx hcode hw cdn al hBK bo rc hgj hcj hPB jn
        go_upto_region 9 with fail
        obtain ⟨wb, hwb⟩ : ∃ wb, wr.alloc (.cells #[.slice uc code.length kc, .int .i64 jump, .int .i64 a, .int .i64 t0, .int .i64 els] 51) = wb := ⟨_, rfl⟩
        have AL : Hid (Below wr.heap.size wr wb) := hwb ▸ (Below.refl wr.heap.size wr).alloc (Nat.le_refl _) _
        rw [hwb] at IB RB BX HC BHD ⊢
        clear hwb q0 q1 q2 q3 q4 b4
        have SK : Hid (∀ (W' : World), Below wb.heap.size wb W' → W'.cell? ⟨wr.heap.size, 0, none⟩ = some (.slice uc code.length kc) ∧ W'.cell? ⟨wr.heap.size, 1, none⟩ = some (.int .i64 jump) ∧ W'.cell? ⟨wr.heap.size, 2, none⟩ = some (.int .i64 a) ∧ W'.cell? ⟨wr.heap.size, 3, none⟩ = some (.int .i64 t0) ∧ W'.cell? ⟨wr.heap.size, 4, none⟩ = some (.int .i64 els) ∧ W'.cell? ⟨gr, j, none⟩ = some (.slice (some ⟨gj, 0, none⟩) V cj)) := fun W' hk => by
          have c := (cells_of ((hk.block _ (hltP BX.out)).trans BX.out)).1
          exact ⟨c 0, c 1, c 2, c 3, c 4, (hk.cell (p := ⟨gr, j, none⟩) (by have := AL.out.size; show gr < _; omega)).trans ((AL.out.cell (p := ⟨gr, j, none⟩) hgrl).trans RC0.out)⟩
        go_region_held3 (fun W' => W'.cell? ⟨wr.heap.size, 0, none⟩ = some (.slice uc code.length kc) ∧ W'.cell? ⟨wr.heap.size, 1, none⟩ = some (.int .i64 jump) ∧ W'.cell? ⟨wr.heap.size, 2, none⟩ = some (.int .i64 a) ∧ W'.cell? ⟨wr.heap.size, 3, none⟩ = some (.int .i64 t0) ∧ W'.cell? ⟨wr.heap.size, 4, none⟩ = some (.int .i64 els) ∧ W'.cell? ⟨gr, j, none⟩ = some (.slice (some ⟨gj, 0, none⟩) V cj)) (first | with_reducible exact SK.out _ F5.out | with_reducible exact SK.out _ (Below.refl _ _).drew) (first
          | (go_at_call 45; refine (BHD.out _ (Below.refl _ _).drew).mono ?_; rintro e5 w5 ⟨gl, cl, rfl, lon, bon, b5⟩; have F5 : Hid (Below wb.heap.size wb w5) := (Below.refl _ _).drew.trans (b5.mono (Nat.le_refl _)); have BN := hideP bon; have LN : Hid (wb.heap.size ≤ gl) := lon; clear b5 bon lon))
        clear SK BHD RC0
        have hgl5 := BN.out.lt
        have C0 : Hid (CkAt w5 gl cl V (.slice (some ⟨w5.heap.size, 0, none⟩) 0 0) (backUp (clF code) PB code 0) (w5.alloc (.cells #[] 56))) := by
          have al := (Below.refl w5.heap.size w5).alloc (Nat.le_refl _) (.cells #[] 56)
          exact ⟨own_nil InOk w5 w5.heap.size rfl, BN.out.stays al, But.ofBelowP al⟩
        have BX5 := hideP ((F5.out.block _ (hltP BX.out)).trans BX.out)
        have bx0 : (w5.alloc (.cells #[] 56)).cell? ⟨wr.heap.size, 0, none⟩ = some (.slice uc code.length kc) := ((Below.refl w5.heap.size w5).alloc (Nat.le_refl _) (.cells #[] 56)).cell (p := ⟨wr.heap.size, 0, none⟩) (hltP BX5.out) |>.trans ((cells_of BX5.out).1 0)
        have hn8 : wr.heap.size < wb.heap.size := hltP BX.out
        obtain ⟨n8, hn8e⟩ : ∃ n8, wr.heap.size = n8 := ⟨_, rfl⟩
        rw [hn8e] at bx0 BX5 hn8 ⊢
        obtain ⟨N, hN⟩ : ∃ N, code.length = N := ⟨_, rfl⟩
        have HN := hideP hN
        rw [hN] at bx0 BX5 cdl ⊢
        have hblw : Hid (gq < wb.heap.size) := by have := LO.out; have := hltP IB.out.bO; show _ < _; omega
        clear BN BX hN hn8e
        go_wp2
        clear bx0
        go_loopg [8, 9] N (fun gk2 o kv wr => ∃ k : Nat, gk2 + k = N ∧ kv = .int .i64 ((N : Int) - 1 - k) ∧ Hid (CkAt w5 gl cl V o (backUp (clF code) PB code k) wr))
        case atStart => exact ⟨0, by simp, by simp, C0.out⟩
        case round =>
          obtain ⟨k, hk, rfl, hC⟩ := hrel
          clear C0
          have LN1 := LN.out
          have BW : Hid (Below wb.heap.size wb wr) := F5.out.trans (hC.out.but.below (by omega) F5.out.size)
          have BXW := hideP (hC.out.but.keepB BX5.out (by omega))
          have bx0 := (cells_of BXW.out).1 0
          simp at bx0
          by_cases hkl : k < N
          · obtain ⟨i, hi⟩ : ∃ i : Nat, (N : Int) - 1 - k = i := ⟨N - 1 - k, by omega⟩
            rw [hi]
            have HI : Hid ((N : Int) - 1 - k = i) := hi
            have hin : i < N := by omega
            have hic : i < code.length := by rw [HN.out]; exact hin
            have UP : Hid (backUp (clF code) PB code (k + 1) = ((clF code (backUp (clF code) PB code k).1 i).1, if (clF code (backUp (clF code) PB code k).1 i).2 = true then code[i]'hic :: (backUp (clF code) PB code k).2 else (backUp (clF code) PB code k).2)) := backUp_at (by rw [HN.out]; exact hkl) (by rw [HN.out]; omega)
            have hOl := backUp_few (f := clF code) (s0 := PB) (code := code) k
            obtain ⟨PK, hPK⟩ : ∃ PK, (backUp (clF code) PB code k).1 = PK := ⟨_, rfl⟩
            obtain ⟨O, hO⟩ : ∃ O, (backUp (clF code) PB code k).2 = O := ⟨_, rfl⟩
            rw [hPK] at UP
            rw [hO] at UP hOl
            have hC2 : Hid (CkAt w5 gl cl V u8 (PK, O) wr) := by
              have := hC.out
              rw [show backUp (clF code) PB code k = (PK, O) by rw [← hPK, ← hO]] at this
              exact this
            obtain ⟨bb3, oo3, op, d, a2, b0, c0, nn, t, hu, _, hbl3, he, x0, x1, x2, x3, x4, x5, x6, hins⟩ := Ins_get (HC.out.stays InsKeeps BW.out) i hic
            subst hu
            have ok := CDN.out _ (List.getElem_mem hic)
            rw [he] at ok
            have HOL := hideP hOl
            have hCN := hideP (fun h1 h2 => clF_no (P := PK) hic h1 h2)
            have hCY := hideP (fun h1 => clF_yes (P := PK) hic h1)
            rw [he] at UP hCN hCY
            have AH : Hid (∀ W, BoIs W gl cl V PK → Calls Tryz.prog 46 #[.agg #[.int .i64 op, .int .i64 d, .int .i64 a2, .int .i64 b0, .int .i64 c0, .int .i64 nn, .string t], .slice (some ⟨gl, 0, none⟩) V cl] W fun e w' => e = .returned (.tuple #[]) ∧ BoIs w' gl cl V (aheadQ ⟨op, d, a2, b0, c0, nn, t⟩ PK) ∧ But gl W w') := fun W hW => ahead8_any ⟨op, d, a2, b0, c0, nn, t⟩ PK W gl cl V cl hW ok.1 ok.2 hins.2
            have al := (Below.refl wr.heap.size wr).alloc (Nat.le_refl _) (.cells #[.int .i64 op, .int .i64 d, .int .i64 a2, .int .i64 b0, .int .i64 c0, .int .i64 nn, .string t] 56)
            have C1 := hideP (hC2.out.stays al)
            have XB := hideP (newO wr (.cells #[.int .i64 op, .int .i64 d, .int .i64 a2, .int .i64 b0, .int .i64 c0, .int .i64 nn, .string t] 56))
            have hglw : gl < wr.heap.size := hC2.out.bo.lt
            clear hi hPK hO hC hC2 he hins al hOl BW
            go_upto_region 15 with fail
            obtain ⟨wx, hwx⟩ : ∃ wx, wr.alloc (.cells #[.int .i64 op, .int .i64 d, .int .i64 a2, .int .i64 b0, .int .i64 c0, .int .i64 nn, .string t] 56) = wx := ⟨_, rfl⟩
            rw [hwx] at C1 XB ⊢
            clear hwx x0 x1 x2 x3 x4 x5 x6 bx0
            have z := (cells_of XB.out).1
            have z0 := z 0
            have z1 := z 1
            have z2 := z 2
            have z3 := z 3
            have z4 := z 4
            have z5 := z 5
            have z6 := z 6
            simp at z0 z1 z2 z3 z4 z5 z6
            clear z
            by_cases h012 : op = 0 ∨ op = 1 ∨ op = 2
            · have LI : Hid (∀ W, Calls Tryz.prog 15 #[.int .i64 op, .int .i64 0, .int .i64 2] W fun e w' => e = .returned (.bool true) ∧ w' = W) := fun W => by
                have := l01In_any op 0 2 W
                rw [show inB op 0 2 = true by simp [inB]; omega] at this
                exact this
              obtain ⟨m, hm⟩ : ∃ m : Nat, d = (m : Int) := ⟨d.toNat, by have := ok.2; simp only at this; omega⟩
              subst hm
              have hmV : m < V := by have := ok.2; simp only at this; omega
              obtain ⟨b1, y0, e1, _⟩ := C1.out.bo.at hmV
              have E1 := hideP e1
              clear e1 ok
              go_wp2_with fail
              refine (LI.out _).mono ?_
              rintro e6 w6 ⟨rfl, hw6⟩
              subst hw6
              cases b1 with
              | false =>
                have K5 : Hid (backUp (clF code) PB code (k + 1) = (PK, O)) := by
                  show _ = _
                  rw [UP.out, hCN.out h012 (fun hp => by have := E1.out.2 hp; cases this)]
                  rfl
                clear UP hCN hCY AH E1 LI
                go_wp2
                go_roundg (N - (k + 1))
                case rel => exact ⟨k + 1, by omega, by have := HI.out; go_num, by rw [K5.out]; exact C1.out⟩
                case measure => omega
              | true =>
                have K5 : Hid (backUp (clF code) PB code (k + 1) = (aheadQ ⟨op, (m : Int), a2, b0, c0, nn, t⟩ PK, (⟨op, (m : Int), a2, b0, c0, nn, t⟩ : Ins) :: O)) := by
                  show _ = _
                  rw [UP.out, hCY.out (fun h => h.2 (E1.out.1 rfl))]
                  rfl
                clear UP hCN hCY E1 LI
                go_wp2_with fail
                refine (AH.out _ C1.out.bo).mono ?_
                rintro e7 w7 ⟨rfl, s7, b7⟩
                clear y0
                have C7 := hideP (C1.out.ahead hgl5 s7 b7)
                have XB7 := hideP (b7.keepB XB.out (by omega))
                clear s7 b7 C1 XB AH z0 z1 z2 z3 z4 z5 z6
                have z := (cells_of XB7.out).1
                have z0 := z 0
                have z1 := z 1
                have z2 := z 2
                have z3 := z 3
                have z4 := z 4
                have z5 := z 5
                have z6 := z 6
                simp at z0 z1 z2 z3 z4 z5 z6
                clear z
                obtain ⟨go, co, ho0, _⟩ := id C7.out.out
                subst ho0
                have al := (Below.refl w7.heap.size w7).alloc (Nat.le_refl _) (.cells #[.int .i64 op, .int .i64 (m : Int), .int .i64 a2, .int .i64 b0, .int .i64 c0, .int .i64 nn, .string t] 56)
                have LT : Hid (OwnE InE (w7.alloc (.cells #[.int .i64 op, .int .i64 (m : Int), .int .i64 a2, .int .i64 b0, .int .i64 c0, .int .i64 nn, .string t] 56)) w5.heap.size (.slice (some ⟨w7.heap.size, 0, none⟩) 1 1) [(⟨op, (m : Int), a2, b0, c0, nn, t⟩ : Ins)]) := (own_one InOk w7 ⟨op, (m : Int), a2, b0, c0, nn, t⟩ #[.int .i64 op, .int .i64 (m : Int), .int .i64 a2, .int .i64 b0, .int .i64 c0, .int .i64 nn, .string t] rfl).mono C7.out.but.size
                have OC := hideP (fun j hj r hr => (C7.out.out.stays al).at InOk j hj r hr)
                have hsz1 : Hid (w5.heap.size ≤ (w7.alloc (.cells #[.int .i64 op, .int .i64 (m : Int), .int .i64 a2, .int .i64 b0, .int .i64 c0, .int .i64 nn, .string t] 56)).heap.size) := Nat.le_trans C7.out.but.size al.size
                have PRE := hideP (fun v' w' (ho : OwnE InE w' w5.heap.size v' ([(⟨op, (m : Int), a2, b0, c0, nn, t⟩ : Ins)] ++ O)) hg => C7.out.pre (x := ⟨op, (m : Int), a2, b0, c0, nn, t⟩) (o0 := .cells #[.int .i64 op, .int .i64 (m : Int), .int .i64 a2, .int .i64 b0, .int .i64 c0, .int .i64 nn, .string t] 56) ho hg)
                clear al
                go_wp2_with (at_builtin; refine list_appEs InOk _ rfl _ _ rfl w5.heap.size _ [(⟨op, (m : Int), a2, b0, c0, nn, t⟩ : Ins)] O _ go 0 co rfl rfl rfl LT.out OC.out (by have := HOL.out; simp only [List.length_singleton]; omega) hsz1.out ?_; intro v9 w9 o9 grow9 loc9)
                have C9 := hideP (PRE.out v9 w9 o9 grow9)
                clear o9 grow9 loc9 LT OC hsz1 PRE C7 XB7 z0 z1 z2 z3 z4 z5 z6
                go_wp2
                go_roundg (N - (k + 1))
                case rel => exact ⟨k + 1, by omega, by have := HI.out; go_num, by rw [K5.out]; exact C9.out⟩
                case measure => omega
            · have LI : Hid (∀ W, Calls Tryz.prog 15 #[.int .i64 op, .int .i64 0, .int .i64 2] W fun e w' => e = .returned (.bool false) ∧ w' = W) := fun W => by
                have := l01In_any op 0 2 W
                rw [show inB op 0 2 = false by simp [inB]; omega] at this
                exact this
              have K5 : Hid (backUp (clF code) PB code (k + 1) = (aheadQ ⟨op, d, a2, b0, c0, nn, t⟩ PK, (⟨op, d, a2, b0, c0, nn, t⟩ : Ins) :: O)) := by
                show _ = _
                rw [UP.out, hCY.out (fun h => h012 h.1)]
                rfl
              clear UP hCN hCY ok
              go_wp2_with fail
              refine (LI.out _).mono ?_
              rintro e6 w6 ⟨rfl, hw6⟩
              subst hw6
              clear LI
              go_wp2_with fail
              refine (AH.out _ C1.out.bo).mono ?_
              rintro e7 w7 ⟨rfl, s7, b7⟩
              have C7 := hideP (C1.out.ahead hgl5 s7 b7)
              have XB7 := hideP (b7.keepB XB.out (by omega))
              clear s7 b7 C1 XB AH z0 z1 z2 z3 z4 z5 z6
              have z := (cells_of XB7.out).1
              have z0 := z 0
              have z1 := z 1
              have z2 := z 2
              have z3 := z 3
              have z4 := z 4
              have z5 := z 5
              have z6 := z 6
              simp at z0 z1 z2 z3 z4 z5 z6
              clear z
              obtain ⟨go, co, ho0, _⟩ := id C7.out.out
              subst ho0
              have al := (Below.refl w7.heap.size w7).alloc (Nat.le_refl _) (.cells #[.int .i64 op, .int .i64 d, .int .i64 a2, .int .i64 b0, .int .i64 c0, .int .i64 nn, .string t] 56)
              have LT : Hid (OwnE InE (w7.alloc (.cells #[.int .i64 op, .int .i64 d, .int .i64 a2, .int .i64 b0, .int .i64 c0, .int .i64 nn, .string t] 56)) w5.heap.size (.slice (some ⟨w7.heap.size, 0, none⟩) 1 1) [(⟨op, d, a2, b0, c0, nn, t⟩ : Ins)]) := (own_one InOk w7 ⟨op, d, a2, b0, c0, nn, t⟩ #[.int .i64 op, .int .i64 d, .int .i64 a2, .int .i64 b0, .int .i64 c0, .int .i64 nn, .string t] rfl).mono C7.out.but.size
              have OC := hideP (fun j hj r hr => (C7.out.out.stays al).at InOk j hj r hr)
              have hsz1 : Hid (w5.heap.size ≤ (w7.alloc (.cells #[.int .i64 op, .int .i64 d, .int .i64 a2, .int .i64 b0, .int .i64 c0, .int .i64 nn, .string t] 56)).heap.size) := Nat.le_trans C7.out.but.size al.size
              have PRE := hideP (fun v' w' (ho : OwnE InE w' w5.heap.size v' ([(⟨op, d, a2, b0, c0, nn, t⟩ : Ins)] ++ O)) hg => C7.out.pre (x := ⟨op, d, a2, b0, c0, nn, t⟩) (o0 := .cells #[.int .i64 op, .int .i64 d, .int .i64 a2, .int .i64 b0, .int .i64 c0, .int .i64 nn, .string t] 56) ho hg)
              clear al
              go_wp2_with (at_builtin; refine list_appEs InOk _ rfl _ _ rfl w5.heap.size _ [(⟨op, d, a2, b0, c0, nn, t⟩ : Ins)] O _ go 0 co rfl rfl rfl LT.out OC.out (by have := HOL.out; simp only [List.length_singleton]; omega) hsz1.out ?_; intro v9 w9 o9 grow9 loc9)
              have C9 := hideP (PRE.out v9 w9 o9 grow9)
              clear o9 grow9 loc9 LT OC hsz1 PRE C7 XB7 z0 z1 z2 z3 z4 z5 z6
              go_wp2
              go_roundg (N - (k + 1))
              case rel => exact ⟨k + 1, by omega, by have := HI.out; go_num, by rw [K5.out]; exact C9.out⟩
              case measure => omega
          · have hkn : k = N := by omega
            subst hkn
            have S9 := hideP (IB.out.stays BW.out)
            have R9 := hideP (RB.out.stays BW.out)
            have DC : (backUp (clF code) PB code k).2 = clCode PB code := by unfold clCode; rw [HN.out]
            have hC2 := hC.out.out
            rw [DC] at hC2
            have HWD : (clCode PB code).length ≤ maxLen ∧ ∀ z ∈ clCode PB code, z.wf ∧ z.t.size ≤ maxLen := ⟨by have h1 := clCode_few PB code; unfold maxLen; rw [HN.out] at h1; omega, fun z hz => HWF.out z (clCode_mem z hz)⟩
            have hPBC : clB (LiveB blocks j) ⟨code, jump, a, t0, els⟩ = ⟨clCode PB code, jump, a, t0, els⟩ := by unfold clB; rw [HPB.out]
            obtain ⟨dc, hdc⟩ : ∃ dc, clCode PB code = dc := ⟨_, rfl⟩
            rw [hdc] at hC2 HWD hPBC
            obtain ⟨gn, kn, hv9, _⟩ := id hC2
            subst hv9
            obtain ⟨dn, hdn⟩ : ∃ dn, dc.length = dn := ⟨_, rfl⟩
            rw [hdn] at hC2 ⊢
            have lo9 := hC2.low gn rfl
            have hsl : SlIs InsIs 7 wr (w.heap.size + 2) (some ⟨gn, 0, none⟩) dc := (hC2.mono (by have := hltP IB.out.bR; have := F5.out.size; omega)).sl HWD.2 HWD.1
            have N9 : Hid (SfAt w w1.heap.size #[.slice us sizes.length cs, .int .i64 p, .int .i64 q, .int .i64 (V : Int), .slice (some ⟨bb, oo, none⟩) blocks.length cb] #[.slice none 0 0, .int .i64 0, .int .i64 0, .int .i64 0, .slice none 0 0] #[.slice sa sizes.length kS, .int .i64 p, .int .i64 q, .int .i64 (V : Int), .slice (some ⟨gq, 0, none⟩) blocks.length cq] ⟨sizes, p, q, (V : Int), midX (fun j b => clB (LiveB blocks j) b) blocks (j + 1)⟩ sa kS gq cq (wr.setCell ⟨gq, j * 5, none⟩ (.slice (some ⟨gn, 0, none⟩) dn kn))) := by
              have hmj : (midX (fun j b => clB (LiveB blocks j) b) blocks j)[j]'(by rw [midX_len]; exact hlt) = ⟨code, jump, a, t0, els⟩ := (midX_ge _ blocks j j (Nat.le_refl _) hlt).trans HBK.out
              have lo := LO.out
              have hr := S9.out.put (j := j) (by simp only [midX_len]; exact hlt) hsl (kn := kn) (by have := hblw.out; have := F5.out.size; omega) hdn.symm lo
              simp only [hmj] at hr
              have e9 : midX (fun j b => clB (LiveB blocks j) b) blocks (j + 1) = (midX (fun j b => clB (LiveB blocks j) b) blocks j).set j ⟨dc, jump, a, t0, els⟩ := by
                show (midX (fun j b => clB (LiveB blocks j) b) blocks j).set j (clB (LiveB blocks j) (blocks[j]!)) = _
                rw [getElem!_pos blocks j hlt, HBK.out, hPBC]
              rw [e9]
              exact hr
            have hb9 : But gq wr (wr.setCell ⟨gq, j * 5, none⟩ (.slice (some ⟨gn, 0, none⟩) dn kn)) := (But.refl gq wr).set _ _
            have R10 := hideP (R9.out.but hb9 (by omega))
            obtain ⟨u0, v0, vf⟩ : ∃ u0, wr.cell? ⟨gq, j * 5, none⟩ = some u0 ∧ wr.frozen? ⟨gq, j * 5, none⟩ = false := by
              obtain ⟨rows9, hr9⟩ := S9.out.cp
              have hjr9 : j < rows9.length := by rw [hr9.len]; simp only [midX_len]; exact hlt
              obtain ⟨g', cap', cur, hv, _, hh, _⟩ := hr9.own.parts BlE_ok
              have h0 := hr9.own.at BlE_ok j hjr9 0 (by decide)
              injection hv with e1
              injection e1 with e1
              injection e1 with e1
              subst e1
              exact ⟨_, by simpa [BlE] using h0, (cells_of hh).2 _⟩
            have o4 := (cells_of S9.out.bO).1 4
            simp at o4
            clear hC hC2 HWD hPBC hsl hb9 S9 R9 DC hdc hdn IB RB BW BXW BX5 lo9
            go_wp2
            go_roundg (blocks.length - (j + 1))
            case rel => exact ⟨j + 1, by omega, by go_num, N9.out, R10.out⟩
            case measure => omega

      · have hjn : j = blocks.length := by omega
        subst hjn
        have MA : Hid (midX (fun j b => clB (LiveB blocks j) b) blocks blocks.length = blocks.mapIdx (fun j b => clB (LiveB blocks j) b)) := midX_all _ blocks
        rw [MA.out] at hI
        have z := hI.out.bR
        have d0 := (cells_of hI.out.bO).1 0
        have d1 := (cells_of hI.out.bO).1 1
        have d2 := (cells_of hI.out.bO).1 2
        have d3 := (cells_of hI.out.bO).1 3
        have d4 := (cells_of hI.out.bO).1 4
        have r0 := (cells_of z).1 0
        have r1 := (cells_of z).1 1
        have r2 := (cells_of z).1 2
        have r3 := (cells_of z).1 3
        have r4 := (cells_of z).1 4
        have rf := (cells_of z).2
        simp at d0 d1 d2 d3 d4 r0 r1 r2 r3 r4
        have z0 := heap_setCell_same wr _ 0 _ _ (.slice sa sizes.length kS) z
        have z1 := heap_setCell_same _ _ 1 _ _ (.int .i64 p) z0
        have z2 := heap_setCell_same _ _ 2 _ _ (.int .i64 q) z1
        have z3 := heap_setCell_same _ _ 3 _ _ (.int .i64 (V : Int)) z2
        have z4 : (((((wr.setCell ⟨w.heap.size + 1, 0, none⟩ (.slice sa sizes.length kS)).setCell ⟨w.heap.size + 1, 1, none⟩ (.int .i64 p)).setCell ⟨w.heap.size + 1, 2, none⟩ (.int .i64 q)).setCell ⟨w.heap.size + 1, 3, none⟩ (.int .i64 (V : Int))).setCell ⟨w.heap.size + 1, 4, none⟩ (.slice (some ⟨gq, 0, none⟩) blocks.length cq)).heap[w.heap.size + 1]? = some (.cells #[.slice sa sizes.length kS, .int .i64 p, .int .i64 q, .int .i64 (V : Int), .slice (some ⟨gq, 0, none⟩) blocks.length cq] 29 (0, 0)) := heap_setCell_same _ _ 4 _ _ (.slice (some ⟨gq, 0, none⟩) blocks.length cq) z3
        have ZF := hideP z4
        have BU : Hid (But (w.heap.size + 1) wr (((((wr.setCell ⟨w.heap.size + 1, 0, none⟩ (.slice sa sizes.length kS)).setCell ⟨w.heap.size + 1, 1, none⟩ (.int .i64 p)).setCell ⟨w.heap.size + 1, 2, none⟩ (.int .i64 q)).setCell ⟨w.heap.size + 1, 3, none⟩ (.int .i64 (V : Int))).setCell ⟨w.heap.size + 1, 4, none⟩ (.slice (some ⟨gq, 0, none⟩) blocks.length cq))) := ((((((But.refl (w.heap.size + 1) wr).set 0 (.slice sa sizes.length kS)).set 1 (.int .i64 p)).set 2 (.int .i64 q)).set 3 (.int .i64 (V : Int))).set 4 (.slice (some ⟨gq, 0, none⟩) blocks.length cq))
        clear z z0 z1 z2 z3 z4
        go_wp2
        refine bodyPost_ret (results_cell_row rfl _ _ (w.heap.size + 1) 29 #[.slice sa sizes.length kS, .int .i64 p, .int .i64 q, .int .i64 (V : Int), .slice (some ⟨gq, 0, none⟩) blocks.length cq] (0, 0) _ rfl ZF.out Tryz.underlying29 rfl (by kernel_rfl)) rfl ?_
        rw [E.out]
        have hlt9 := hltP hI.out.bR
        obtain ⟨rows9, hr9⟩ := hI.out.cp
        have gr9 := hr9.gr (by simp only [List.length_mapIdx]; exact hbm)
        simp only [List.length_mapIdx] at gr9
        exact ⟨_, rfl, GrKeeps.mono (GrKeeps.but gr9 (by omega) BU.out) (by omega), hI.out.bel.trans (BU.out.below (by omega) (by omega))⟩
theorem spec_clean (x : Gr) (w : World) (B : Nat) (v : Array Value) (h : GrIs w B v x) (GO : OkIs 14 x) (hf : Fits x) :
    Calls Tryz.prog 19 #[.agg v] w fun en w' => ∃ v', en = .returned (.agg v') ∧ GrIs w' w.heap.size v' (clP x) ∧ Below w.heap.size w w' := spec_clean0 x w B v h GO hf
end Go.Proofs.YtelkpikbjfkpcaaGreat
