/- How many cells a graph has that are marked. -/
import Derived.Test.YtobpcfelgobedabMadG
import Derived.Test.YtobpcfelgobedabThrI
namespace Go.Proofs.Ytobpcfelgobedab
open Go.ChangeShapes Go.WideShapes Go.ChangeAt Go.RowKit
def celN (b : Blk) : Nat := b.code.length * 7 + 4
def celS : List Blk → Nat
  | [] => 0
  | b :: l => celN b + celS l
theorem celS_le {c : Nat} : ∀ (l : List Blk), (∀ b ∈ l, celN b ≤ c) → celS l ≤ l.length * c
  | [], _ => by simp [celS]
  | b :: l, h => by
    have h1 := celS_le l (fun b' hb' => h b' (List.mem_cons_of_mem _ hb'))
    have h2 := h b List.mem_cons_self
    simp only [celS, List.length_cons, Nat.succ_mul]
    omega
theorem celS_sz : ∀ (l : List Blk), celS l ≤ 7 * (l.length + slSum Blk.sz l)
  | [] => by simp [celS]
  | b :: l => by
    have h1 := celS_sz l
    have h2 : b.code.length ≤ b.sz := by simp only [Blk.sz, slSz]; omega
    simp only [celS, celN, List.length_cons, slSum]
    omega
theorem celS_sum (cs : List CRow) : ∀ (l : List Blk), cs.length = l.length → (∀ i (h : i < cs.length), cs[i].n = (l[i]!).code.length) → (cs.map fun c => c.n * 7 + 4).sum = celS l := by
  induction cs with
  | nil =>
    intro l h _
    cases l with
    | nil => rfl
    | cons b l => simp at h
  | cons c cs ih =>
    intro l h hx
    cases l with
    | nil => simp at h
    | cons b l =>
      have h0 := hx 0 (by simp)
      simp at h0
      have h1 := ih l (by simpa using h) (fun i hi => by have := hx (i + 1) (by simpa using hi); simpa using this)
      simp only [List.map_cons, List.sum_cons, celS, celN, h1, h0]
theorem MadeGr.few {w w' : World} {x : Gr} {en : Ending} (h : MadeGr w x en w') (hc : x.sizes.length + celS x.blocks ≤ 50000000) :
    ∃ v' S b o cs, en = .returned (.agg v') ∧ GrIs w' w.heap.size v' x ∧ GOwn w' v' S b o cs ∧ (∀ c ∈ grL S b o cs, w.heap.size ≤ c.1 ∧ c.1 < w'.heap.size) ∧ (grL S b o cs).length ≤ 50000000 ∧ Below w.heap.size w w' := by
  obtain ⟨v', S, b, cs, e, h1, h2, h3, h4, h5, h6, h7⟩ := h
  refine ⟨v', S, b, 0, cs, e, h1, h2, h3, ?_, h7⟩
  rw [grL, List.length_append, intL_len, blksL_length, h4, celS_sum cs x.blocks h5 h6]
  exact hc
end Go.Proofs.Ytobpcfelgobedab

/- How great the graph is that impl.Threads makes. -/
namespace Go.Proofs.Ytobpcfelgobedab
open Go.ChangeShapes Go.WideShapes Go.ChangeAt Go.RowKit
theorem thrP_few {x : Gr} (h : x.sz ≤ 1048576) : (thrP x).sizes.length + celS (thrP x).blocks ≤ 50000000 := by
  by_cases hok : grOk x = true
  · rw [thrP_ok hok]
    have hbl := grOk_blocks hok
    simp only
    have hs : x.sizes.length ≤ 1048576 := by simp only [Gr.sz, slSz] at h; omega
    have hc : ∀ b ∈ x.blocks, b.code.length ≤ 1000 := fun b hb => by
      simp only [grOk, Bool.and_eq_true, decide_eq_true_eq] at hok
      have h1 : (codeAll x.blocks).length ≤ 1000 := hok.1.1.2
      obtain ⟨l1, l2, e⟩ := List.append_of_mem hb
      rw [e] at h1
      simp only [codeAll, List.flatMap_append, List.flatMap_cons, List.length_append] at h1
      omega
    have hl : (thrU x.blocks x.blocks.length).length ≤ 300 := by rw [thrU_len]; exact hbl.2
    have h1 : ∀ b ∈ thrU x.blocks x.blocks.length, celN b ≤ 7004 := fun b hb => by
      obtain ⟨i, hi, rfl⟩ := List.getElem_of_mem hb
      have hi2 : i < x.blocks.length := by rw [thrU_len] at hi; exact hi
      have h4 := thrU_code x.blocks x.blocks.length i hi2
      rw [getElem!_pos _ i hi, getElem!_pos x.blocks i hi2] at h4
      have := hc _ (List.getElem_mem hi2)
      rw [celN, h4]
      omega
    have h2 := celS_le _ h1
    have h3 : (thrU x.blocks x.blocks.length).length * 7004 ≤ 300 * 7004 := Nat.mul_le_mul_right _ hl
    omega
  · rw [thrP_no (by simpa using hok)]
    have h1 := celS_sz x.blocks
    simp only [Gr.sz, slSz] at h
    omega
end Go.Proofs.Ytobpcfelgobedab
