/- A block with what it goes to told anew: plain; the box of such an answer. -/
import Derived.Test.YtobpcfelgobedabPlR
namespace Go.Proofs.Ytobpcfelgobedab
open Go.ChangeShapes Go.WideShapes Go.ChangeAt Go.RowKit
/-- A block with what it goes to told anew. -/
def tellB (T : Int → Int) (b : Blk) : Blk := if b.jump = 1 then { b with to := T b.to, els := T b.els } else if b.jump = 0 then { b with to := T b.to } else b
theorem reB_tell (N : List Int) (b : Blk) : reB N b = tellB (fun y => N[y.toNat]!) b := rfl
/-- What is told of. -/
def toldOf (b : Blk) (n : Int) : Prop := (b.jump = 1 ∧ n = b.els) ∨ ((b.jump = 0 ∨ b.jump = 1) ∧ n = b.to)
theorem tell_1 (T : Int → Int) (code : List Ins) (a t0 els : Int) : tellB T ⟨code, 1, a, t0, els⟩ = ⟨code, 1, a, T t0, T els⟩ := rfl
theorem tell_0 (T : Int → Int) (code : List Ins) (a t0 els : Int) : tellB T ⟨code, 0, a, t0, els⟩ = ⟨code, 0, a, T t0, els⟩ := rfl
theorem tell_2 (T : Int → Int) (code : List Ins) {j : Int} (a t0 els : Int) (h1 : ¬ j = 1) (h0 : ¬ j = 0) : tellB T ⟨code, j, a, t0, els⟩ = ⟨code, j, a, t0, els⟩ := by
  unfold tellB
  rw [if_neg h1, if_neg h0]
theorem told_els (code : List Ins) (a t0 els : Int) : toldOf ⟨code, 1, a, t0, els⟩ els := Or.inl ⟨rfl, rfl⟩
theorem told_to1 (code : List Ins) (a t0 els : Int) : toldOf ⟨code, 1, a, t0, els⟩ t0 := Or.inr ⟨Or.inr rfl, rfl⟩
theorem told_to0 (code : List Ins) (a t0 els : Int) : toldOf ⟨code, 0, a, t0, els⟩ t0 := Or.inr ⟨Or.inl rfl, rfl⟩
/-- The box that the answer is written into. -/
theorem boxB {W : World} {q : Nat} {c0 c1 c2 c3 c4 : Value} (v0 v1 v2 v3 v4 : Value) (h : W.heap[q]? = some (.cells #[c0, c1, c2, c3, c4] 40 (0, 0))) :
    (((((W.setCell ⟨q, 0, none⟩ v0).setCell ⟨q, 1, none⟩ v1).setCell ⟨q, 2, none⟩ v2).setCell ⟨q, 3, none⟩ v3).setCell ⟨q, 4, none⟩ v4).heap[q]? = some (.cells #[v0, v1, v2, v3, v4] 40 (0, 0)) ∧ But q W (((((W.setCell ⟨q, 0, none⟩ v0).setCell ⟨q, 1, none⟩ v1).setCell ⟨q, 2, none⟩ v2).setCell ⟨q, 3, none⟩ v3).setCell ⟨q, 4, none⟩ v4) := by
  have z0 := heap_setCell_same W q 0 _ _ v0 h
  have z1 := heap_setCell_same _ q 1 _ _ v1 z0
  have z2 := heap_setCell_same _ q 2 _ _ v2 z1
  have z3 := heap_setCell_same _ q 3 _ _ v3 z2
  have z4 := heap_setCell_same _ q 4 _ _ v4 z3
  exact ⟨by simpa using z4, (((((But.refl q W).set 0 v0).set 1 v1).set 2 v2).set 3 v3).set 4 v4⟩
end Go.Proofs.Ytobpcfelgobedab

/- Jumps over blocks that only go on: plain. -/
namespace Go.Proofs.Ytobpcfelgobedab
open Go.ChangeShapes Go.WideShapes Go.ChangeAt Go.RowKit
/-- Whether one goes on from a block, and not to one of S. -/
def onB (b : Blk) (S : List Int) : Prop := b.code.length = 0 ∧ b.jump = 0 ∧ ¬ b.to ∈ S
instance (b : Blk) (S : List Int) : Decidable (onB b S) := by unfold onB; infer_instance
/-- Where one comes to from a block, having met those of S. -/
def aimF (bs : List Blk) : Nat → List Int → Int → Int
  | 0, _, at' => at'
  | f + 1, S, at' => match bs[at'.toNat]? with
    | some b => if onB b (S ++ [at']) then aimF bs f (S ++ [at']) b.to else at'
    | none => at'
def aimT (bs : List Blk) (at' : Int) : Int := aimF bs bs.length [] at'
theorem aimF_go {bs : List Blk} {f : Nat} {S : List Int} {k : Nat} (hk : k < bs.length) (h : onB bs[k] (S ++ [(k : Int)])) : aimF bs (f + 1) S (k : Int) = aimF bs f (S ++ [(k : Int)]) (bs[k]).to := by
  simp only [aimF, Int.toNat_natCast, List.getElem?_eq_getElem hk, if_pos h]
theorem aimF_no {bs : List Blk} {f : Nat} {S : List Int} {k : Nat} (hk : k < bs.length) (h : ¬ onB bs[k] (S ++ [(k : Int)])) : aimF bs (f + 1) S (k : Int) = (k : Int) := by
  simp only [aimF, Int.toNat_natCast, List.getElem?_eq_getElem hk, if_neg h]
/-- What holds of those that were met and of where one is. -/
structure AmI (bs : List Blk) (R : Int) (S : List Int) (k : Nat) (f : Nat) : Prop where
  nod : S.Nodup
  inn : ∀ y ∈ S, InQ bs.length y
  new : ¬ (k : Int) ∈ S
  lt : k < bs.length
  len : S.length + f = bs.length
  res : aimF bs f S (k : Int) = R
theorem AmI.start {bs : List Blk} {k : Nat} (hk : k < bs.length) : AmI bs (aimT bs (k : Int)) [] k bs.length := ⟨by simp, by simp, by simp, hk, by simp, rfl⟩
theorem AmI.few {bs : List Blk} {R : Int} {S : List Int} {k f : Nat} (h : AmI bs R S k f) : ∃ f', f = f' + 1 := by
  cases f with
  | succ f => exact ⟨f, rfl⟩
  | zero =>
    exfalso
    have h1 := h.len
    have hk := h.lt
    have := nod_le bs.length ((k : Int) :: S) (List.nodup_cons.2 ⟨h.new, h.nod⟩) (fun y hy => by
      rcases List.mem_cons.1 hy with rfl | hy
      · exact ⟨by omega, by omega⟩
      · exact h.inn y hy)
    simp at this
    omega
theorem AmI.on {bs : List Blk} {R : Int} {S : List Int} {k f k' : Nat} (h : AmI bs R S k (f + 1)) (ho : onB (bs[k]'h.lt) (S ++ [(k : Int)])) (hk : (bs[k]'h.lt).to = (k' : Int)) (hl : k' < bs.length) : AmI bs R (S ++ [(k : Int)]) k' f := by
  have hlt := h.lt
  refine ⟨List.nodup_append.2 ⟨h.nod, by simp, fun x hx y hy => ?_⟩, fun y hy => ?_, by rw [← hk]; exact ho.2.2, hl, by have := h.len; simp; omega, ?_⟩
  · rw [List.mem_singleton.1 hy]; exact fun e => h.new (e ▸ hx)
  · rcases List.mem_append.1 hy with hy | hy
    · exact h.inn y hy
    · rw [List.mem_singleton.1 hy]; exact ⟨by omega, by omega⟩
  · rw [← hk, ← aimF_go h.lt ho]; exact h.res
theorem AmI.off {bs : List Blk} {R : Int} {S : List Int} {k f : Nat} (h : AmI bs R S k (f + 1)) (ho : ¬ onB (bs[k]'h.lt) (S ++ [(k : Int)])) : R = (k : Int) := by rw [← h.res, aimF_no h.lt ho]
/-- It comes to a block that is there. -/
theorem aimF_in {bs : List Blk} (hb : ∀ b ∈ bs, b.jump = 0 → InR bs.length b.to) : ∀ f S (a : Int), InR bs.length a → InR bs.length (aimF bs f S a)
  | 0, _, _, h => h
  | f + 1, S, a, h => by
    unfold aimF
    split
    · rename_i b hx
      split
      · rename_i ho
        exact aimF_in hb f _ _ (hb b (List.mem_of_getElem? hx) ho.2.1)
      · exact h
    · exact h
/-- The first j blocks told anew. -/
def thrU (bs : List Blk) (j : Nat) : List Blk := bs.mapIdx fun i b => if i < j then tellB (aimT bs) b else b
theorem thrU_len (bs : List Blk) (j : Nat) : (thrU bs j).length = bs.length := by simp [thrU]
theorem thrU_at {bs : List Blk} {j i : Nat} (h : i < bs.length) : (thrU bs j)[i]'(by rw [thrU_len]; exact h) = if i < j then tellB (aimT bs) bs[i] else bs[i] := by simp [thrU]
theorem thrU_zero (bs : List Blk) : thrU bs 0 = bs := by
  refine List.ext_getElem (by rw [thrU_len]) (fun i h1 h2 => ?_)
  rw [thrU_at h2, if_neg (by omega)]
theorem thrU_step {bs : List Blk} {j : Nat} (h : j < bs.length) : (thrU bs j).set j (tellB (aimT bs) bs[j]) = thrU bs (j + 1) := by
  refine List.ext_getElem (by rw [List.length_set, thrU_len, thrU_len]) (fun i h1 h2 => ?_)
  rw [thrU_len] at h2
  rw [thrU_at h2]
  by_cases e : j = i
  · subst e
    rw [List.getElem_set_self, if_pos (by omega)]
  · rw [List.getElem_set_ne e, thrU_at h2]
    by_cases e2 : i < j
    · rw [if_pos e2, if_pos (by omega)]
    · rw [if_neg e2, if_neg (by omega)]
def thrP (g : Gr) : Gr := if grOk g = true then { g with blocks := thrU g.blocks g.blocks.length } else g
theorem thrP_ok {g : Gr} (h : grOk g = true) : thrP g = { g with blocks := thrU g.blocks g.blocks.length } := by unfold thrP; rw [if_pos h]
theorem thrP_no {g : Gr} (h : grOk g = false) : thrP g = g := by unfold thrP; rw [if_neg (by rw [h]; simp)]
end Go.Proofs.Ytobpcfelgobedab
