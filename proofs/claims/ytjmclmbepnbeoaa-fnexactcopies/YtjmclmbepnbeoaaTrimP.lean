/- A graph with the blocks that one comes to alone: plain. -/
import Derived.Test.YtjmclmbepnbeoaaOrdPA
import Derived.Test.YtjmclmbepnbeoaaOwnA
namespace Go.Proofs.Ytjmclmbepnbeoaa
open Go.ChangeShapes Go.WideShapes Go.ChangeAt Go.RowKit
/-- The new numbers of n blocks, after j of the list L. -/
def numF (n : Nat) (L : List Int) : Nat → List Int
  | 0 => List.replicate n 0
  | j + 1 => (numF n L j).set (L[j]!).toNat (j : Int)
theorem numF_len (n : Nat) (L : List Int) : ∀ j, (numF n L j).length = n
  | 0 => by simp [numF]
  | j + 1 => by simp [numF, numF_len n L j]
theorem numF_i64 (n : Nat) (L : List Int) : ∀ j, j ≤ 1000 → ∀ z ∈ numF n L j, I64 z
  | 0, _, z, hz => by
    have : z = 0 := by simp only [numF] at hz; exact (List.mem_replicate.1 hz).2
    subst this; exact ⟨by omega, by omega⟩
  | j + 1, h, z, hz => by
    simp only [numF] at hz
    rcases List.mem_or_eq_of_mem_set hz with hz | rfl
    · exact numF_i64 n L j (by omega) z hz
    · exact ⟨by omega, by omega⟩
/-- A block that goes to the new numbers. -/
def reB (N : List Int) (b : Blk) : Blk :=
  if b.jump = 1 then { b with to := N[b.to.toNat]!, els := N[b.els.toNat]! } else if b.jump = 0 then { b with to := N[b.to.toNat]! } else b
theorem reB_code (N : List Int) (b : Blk) : (reB N b).code = b.code := by unfold reB; split; · rfl
                                                                          split <;> rfl
def rowB (bs : List Blk) (L : List Int) : List Blk := L.map fun y => reB (numF bs.length L L.length) (bs[y.toNat]!)
noncomputable def trimP (g : Gr) : Gr := if grOk g = true then { g with blocks := rowB g.blocks (blocksP g) } else g
theorem trimP_ok {g : Gr} (h : grOk g = true) : trimP g = { g with blocks := rowB g.blocks (blocksP g) } := by unfold trimP; rw [if_pos h]
theorem trimP_no {g : Gr} (h : ¬ grOk g = true) : trimP g = g := by unfold trimP; rw [if_neg h]
/-- A list of blocks that are there. -/
def Inn (n : Nat) (L : List Int) : Prop := ∀ y ∈ L, InR n y
theorem blocksP_in {g : Gr} (h : grOk g = true) : Inn g.blocks.length (blocksP g) := by
  intro y hy
  unfold blocksP at hy
  rw [addAll_mem, order_mem h] at hy
  exact reach_in h hy
/-- What a block that is right goes to. -/
theorem jump_to {g : Gr} (h : grOk g = true) {b : Blk} (hb : b ∈ g.blocks) (hj : b.jump = 0 ∨ b.jump = 1) : InR g.blocks.length b.to := by
  have := allIn_of h b hb
  unfold nextP at this
  rcases hj with hj | hj <;> simp [hj] at this
  · exact this
  · exact this.1
theorem jump_els {g : Gr} (h : grOk g = true) {b : Blk} (hb : b ∈ g.blocks) (hj : b.jump = 1) : InR g.blocks.length b.els := by
  have := allIn_of h b hb
  unfold nextP at this
  simp [hj] at this
  exact this.2
theorem jump_three {g : Gr} (h : grOk g = true) {b : Blk} (hb : b ∈ g.blocks) : b.jump = 0 ∨ b.jump = 1 ∨ b.jump = 2 := by
  simp only [grOk, Bool.and_eq_true, List.all_eq_true] at h
  have h1 := h.2 b hb
  unfold jmpOk at h1
  by_cases h0 : b.jump = 0
  · exact Or.inl h0
  · by_cases h2 : b.jump = 1
    · exact Or.inr (Or.inl h2)
    · by_cases h3 : b.jump = 2
      · exact Or.inr (Or.inr h3)
      · simp [h0, h2, h3] at h1
/-- How a block's cells stand in a list: where its code lies, and the block. -/
abbrev BRow := Option Addr × Nat × Blk
def BlE : Elem BRow := { T := 44, ST := 27, sz := 5, bys := 56, z := .agg #[.slice none 0 0, .int .i64 0, .int .i64 0, .int .i64 0, .int .i64 0], cs := fun x => [.slice x.1 x.2.2.code.length x.2.1, .int .i64 x.2.2.jump, .int .i64 x.2.2.a, .int .i64 x.2.2.to, .int .i64 x.2.2.els] }
theorem BlE_ok : BlE.Ok where
  und := Try.underlying27
  info := by kernel_rfl
  zs := by decide
  pos := by decide
  few := by decide
  len := fun _ => rfl
  one := fun x u hu => by
    simp only [BlE, List.mem_cons, List.not_mem_nil, or_false] at hu
    rcases hu with rfl | rfl | rfl | rfl | rfl <;> rfl
/-- The new numbers lie in block g. -/
def NumIs (w : World) (g : Nat) (l : List Int) : Prop := ∃ cur, w.heap[g]? = some (.cells cur 3 (0, 0)) ∧ cur.size = l.length ∧ ∀ i (h : i < l.length), cur[i]? = some (.int .i64 l[i])
theorem NumIs.at {w : World} {g : Nat} {l : List Int} (h : NumIs w g l) {i : Nat} (hi : i < l.length) : w.cell? ⟨g, i, none⟩ = some (.int .i64 (l[i]!)) ∧ w.frozen? ⟨g, i, none⟩ = false := by
  obtain ⟨cur, h1, h2, h3⟩ := h
  exact ⟨by simp only [World.cell?, h1, getElem!_pos l i hi]; exact h3 i hi, by simp [World.frozen?, h1]⟩
theorem NumIs.set {w : World} {g : Nat} {l : List Int} (h : NumIs w g l) (k : Nat) (z : Int) : NumIs (w.setCell ⟨g, k, none⟩ (.int .i64 z)) g (l.set k z) := by
  obtain ⟨cur, h1, h2, h3⟩ := h
  refine ⟨cur.setIfInBounds k (.int .i64 z), heap_setCell_same w g k cur _ _ h1, by simpa using h2, fun i hi => ?_⟩
  rw [List.length_set] at hi
  rw [Array.getElem?_setIfInBounds, List.getElem_set]
  split
  · rename_i e
    subst e
    rw [if_pos (by omega)]
  · exact h3 i hi
theorem NumIs.keep {w w' : World} {g : Nat} {l : List Int} (h : NumIs w g l) (hk : w'.heap[g]? = w.heap[g]?) : NumIs w' g l :=
  let ⟨cur, h1, h2⟩ := h
  ⟨cur, hk.trans h1, h2⟩
theorem num_made (w : World) (n : Nat) : NumIs (w.alloc (.cells (madeCells #[Value.int .i64 0] n) 3)) w.heap.size (List.replicate n 0) := by
  refine ⟨_, by show (w.heap.push _)[w.heap.size]? = _; exact Array.getElem?_push_size, by simp [size_madeCells], fun i hi => ?_⟩
  rw [List.length_replicate] at hi
  simp [madeCells, hi, Nat.mod_one]
end Go.Proofs.Ytjmclmbepnbeoaa
