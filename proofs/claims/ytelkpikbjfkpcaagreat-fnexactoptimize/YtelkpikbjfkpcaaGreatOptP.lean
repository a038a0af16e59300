/- Plain: all changes together; none makes a graph greater, as the law counts it. -/
import Derived.Test.YtelkpikbjfkpcaaGreatClnAll
import Derived.Test.YtelkpikbjfkpcaaGreatDsIF
import Derived.Test.YtelkpikbjfkpcaaGreatTrmA
import Derived.Test.YtelkpikbjfkpcaaGreatChAll
namespace Go.Proofs.YtelkpikbjfkpcaaGreat
open Go.ChangeShapes Go.WideShapes Go.ChangeAt Go.RowKit
theorem slSum_pt {α : Type} (f : α → Nat) : ∀ (l l' : List α), l'.length = l.length → (∀ i (h : i < l.length) (h' : i < l'.length), f l'[i] ≤ f l[i]) → slSum f l' ≤ slSum f l
  | [], [], _, _ => Nat.le_refl _
  | [], _ :: _, h, _ => by simp at h
  | _ :: _, [], h, _ => by simp at h
  | a :: l, b :: l', h, hp => by
    have h1 := slSum_pt f l l' (by simpa using h) (fun i h1 h2 => by have := hp (i + 1) (by simpa using h1) (by simpa using h2); simpa using this)
    have h2 := hp 0 (by simp) (by simp)
    simp only [slSum]
    simp only [List.getElem_cons_zero] at h2
    omega
theorem slSum_sub {α : Type} (f : α → Nat) {l l' : List α} (h : l'.Sublist l) : slSum f l' ≤ slSum f l := by
  induction h with
  | slnil => exact Nat.le_refl _
  | cons a _ ih => simp only [slSum]; omega
  | cons_cons a _ ih => simp only [slSum]; omega
theorem scanUp_pt {σ : Type} {f : σ → Ins → σ × Ins} {s0 : σ} {code : List Ins} : ∀ j, j ≤ code.length → ∀ i (h : i < code.length) (h' : i < (scanUp f s0 code j).2.length), ∃ s, (scanUp f s0 code j).2[i] = (f s code[i]).2
  | 0, _, i, _, h' => by simp [scanUp] at h'
  | j + 1, hj, i, h, h' => by
    have e := scanUp_at (f := f) (s0 := s0) (code := code) (j := j) (by omega)
    have hl := scanUp_len (f := f) (s0 := s0) (code := code) j (by omega)
    have h2 : i < ((scanUp f s0 code j).2 ++ [(f (scanUp f s0 code j).1 code[j]).2]).length := by rw [e] at h'; exact h'
    have e2 : (scanUp f s0 code (j + 1)).2[i] = ((scanUp f s0 code j).2 ++ [(f (scanUp f s0 code j).1 code[j]).2])[i] := by simp only [e]
    rw [e2]
    by_cases hij : i < j
    · rw [List.getElem_append_left (by omega)]
      exact scanUp_pt j (by omega) i h (by omega)
    · have : i = j := by simp [hl] at h2; omega
      subst this
      rw [List.getElem_append_right (by omega)]
      simp only [hl, Nat.sub_self, List.getElem_cons_zero]
      exact ⟨_, rfl⟩
theorem scan_sz {σ : Type} {f : σ → Ins → σ × Ins} {s0 : σ} (hf : ∀ s x, (f s x).2.t.size ≤ x.t.size) (code : List Ins) : slSz Ins.sz (scanUp f s0 code code.length).2 ≤ slSz Ins.sz code := by
  have hl := scanUp_len (f := f) (s0 := s0) (code := code) code.length (Nat.le_refl _)
  have h1 := slSum_pt Ins.sz code (scanUp f s0 code code.length).2 hl (fun i h h' => by
    obtain ⟨s, e⟩ := scanUp_pt (f := f) (s0 := s0) code.length (Nat.le_refl _) i h h'
    rw [e]
    exact hf s _)
  unfold slSz
  omega
theorem foldX_t (K : Kn) (x : Ins) : (foldX K x).t.size ≤ x.t.size := by
  have e : (⟨#[]⟩ : ByteArray).size = 0 := rfl
  unfold foldX
  split
  · split
    · simp only [e]; omega
    · exact Nat.le_refl _
  · split
    · split
      · simp only [e]; omega
      · exact Nat.le_refl _
    · exact Nat.le_refl _
theorem useX_t (f : Int → Int) (x : Ins) : (useX f x).t.size ≤ x.t.size := by
  unfold useX
  split
  · exact Nat.le_refl _
  · split
    · exact Nat.le_refl _
    · split
      · exact Nat.le_refl _
      · split <;> exact Nat.le_refl _
theorem foldB_sz (b : Blk) : (foldB b).sz ≤ b.sz := by
  have h := scan_sz (f := foldF) (s0 := fun _ => none) (fun s x => foldX_t s x) b.code
  unfold foldB Blk.sz
  split
  · split <;> exact h
  · exact h
theorem copB_sz (b : Blk) : (copB b).sz ≤ b.sz := scan_sz (f := copF) (s0 := fun s => s) (fun s x => useX_t s x) b.code
theorem fwdUp_pt {code : List Ins} {ps : List Pla} (hp : ps.length = code.length) : ∀ j, j ≤ code.length → ∀ i (h : i < code.length) (h' : i < (fwdUp code ps j).2.length), (fwdUp code ps j).2[i].t.size ≤ code[i].t.size
  | 0, _, i, _, h' => by simp [fwdUp] at h'
  | j + 1, hj, i, h, h' => by
    have e := fwdUp_at (code := code) (ps := ps) (j := j) (by omega) (by omega)
    have hl := fwdUp_len (code := code) (ps := ps) hp j (by omega)
    have h2 : i < ((fwdUp code ps j).2 ++ [(stepF (fwdUp code ps j).1 code[j] (ps[j]'(by omega))).2]).length := by rw [e] at h'; exact h'
    have e2 : (fwdUp code ps (j + 1)).2[i] = ((fwdUp code ps j).2 ++ [(stepF (fwdUp code ps j).1 code[j] (ps[j]'(by omega))).2])[i] := by simp only [e]
    rw [e2]
    by_cases hij : i < j
    · rw [List.getElem_append_left (by omega)]
      exact fwdUp_pt hp j (by omega) i h (by omega)
    · have : i = j := by simp [hl] at h2; omega
      subst this
      rw [List.getElem_append_right (by omega)]
      simp only [hl, Nat.sub_self, List.getElem_cons_zero]
      unfold stepF
      split
      · exact Nat.le_refl _
      · split
        · split
          · exact Nat.zero_le _
          · exact Nat.le_refl _
        · split <;> exact Nat.le_refl _
theorem fwdB_sz (V : Nat) (b : Blk) : (fwdB V b).sz ≤ b.sz := by
  have hl := fwdCode_len V b.code
  have h1 := slSum_pt Ins.sz b.code (fwdCode V b.code) hl (fun i h h' => fwdUp_pt (placesUp_len V b.code _ (Nat.le_refl _)) b.code.length (Nat.le_refl _) i h h')
  show slSz Ins.sz (fwdCode V b.code) ≤ slSz Ins.sz b.code
  unfold slSz
  omega
theorem backUp_sub {σ : Type} {f : σ → Nat → σ × Bool} {s0 : σ} {code : List Ins} : ∀ k, k ≤ code.length → (backUp f s0 code k).2.Sublist (code.drop (code.length - k))
  | 0, _ => by simp [backUp]
  | k + 1, h => by
    have ih := backUp_sub (f := f) (s0 := s0) (code := code) k (by omega)
    obtain ⟨i, hi⟩ : ∃ i, i + k + 1 = code.length := ⟨code.length - 1 - k, by omega⟩
    rw [backUp_at (by omega) hi]
    have e1 : code.length - (k + 1) = i := by omega
    have e2 : code.length - k = i + 1 := by omega
    rw [e2] at ih
    rw [e1, List.drop_eq_getElem_cons (by omega)]
    simp only
    split
    · exact ih.cons_cons _
    · exact ih.cons _
theorem back_sz {σ : Type} {f : σ → Nat → σ × Bool} {s0 : σ} (code : List Ins) : slSz Ins.sz (backUp f s0 code code.length).2 ≤ slSz Ins.sz code := by
  have h := backUp_sub (f := f) (s0 := s0) (code := code) code.length (Nat.le_refl _)
  rw [Nat.sub_self, List.drop_zero] at h
  have h1 := slSum_sub Ins.sz h
  have h2 := h.length_le
  unfold slSz
  omega
theorem dsB_sz (V : Nat) (b : Blk) : (dsB V b).sz ≤ b.sz := back_sz b.code
theorem clB_sz (P : Int → Prop) (b : Blk) : (clB P b).sz ≤ b.sz := back_sz b.code
theorem gr_sz_of {x : Gr} {bs : List Blk} (hl : bs.length = x.blocks.length) (h : ∀ i (h : i < x.blocks.length) (h' : i < bs.length), (bs[i]).sz ≤ (x.blocks[i]).sz) : (({ x with blocks := bs } : Gr)).sz ≤ x.sz := by
  have h1 := slSum_pt Blk.sz x.blocks bs hl h
  unfold Gr.sz slSz
  simp only
  omega
theorem foldP_sz (x : Gr) : (foldP x).sz ≤ x.sz := by
  unfold foldP
  split
  · exact gr_sz_of (by simp) (fun i h h' => by simp only [List.getElem_map]; exact foldB_sz _)
  · exact Nat.le_refl _
theorem copP_sz (x : Gr) : (copP x).sz ≤ x.sz := by
  unfold copP
  split
  · exact gr_sz_of (by simp) (fun i h h' => by simp only [List.getElem_map]; exact copB_sz _)
  · exact Nat.le_refl _
theorem fwdP_sz (x : Gr) : (fwdP x).sz ≤ x.sz := by
  unfold fwdP
  split
  · exact gr_sz_of (by simp) (fun i h h' => by simp only [List.getElem_map]; exact fwdB_sz _ _)
  · exact Nat.le_refl _
theorem dsP_sz (x : Gr) : (dsP x).sz ≤ x.sz := by
  unfold dsP
  split
  · exact gr_sz_of (by simp) (fun i h h' => by simp only [List.getElem_map]; exact dsB_sz _ _)
  · exact Nat.le_refl _
theorem clP_sz (x : Gr) : (clP x).sz ≤ x.sz := by
  unfold clP
  split
  · exact gr_sz_of (by simp) (fun i h h' => by simp only [List.getElem_mapIdx]; exact clB_sz _ _)
  · exact Nat.le_refl _
noncomputable def opt1 (x : Gr) : Gr := clP (copP (foldP x))
noncomputable def optP (x : Gr) (l : Int) : Gr := if l = 1 then opt1 x else if l = 2 then trimP (opt1 (dsP (fwdP (foldP x)))) else x
theorem opt1_no {x : Gr} (h : ¬ grOk x = true) : opt1 x = x := by
  unfold opt1
  rw [foldP_no h, copP_no h, clP_no h]
theorem optP_no {x : Gr} (h : ¬ grOk x = true) (l : Int) : optP x l = x := by
  unfold optP
  split
  · exact opt1_no h
  · split
    · rw [foldP_no h, fwdP_no h, dsP_no h, opt1_no h, trimP_no h]
    · rfl
theorem few_of {x : Gr} (h : x.sz ≤ 1048576) : x.sizes.length + celS x.blocks ≤ 50000000 := by
  have h1 := celS_sz x.blocks
  simp only [Gr.sz, slSz] at h
  omega
theorem optP_few {x : Gr} (h : x.sz ≤ 1048576) (l : Int) : (optP x l).sizes.length + celS (optP x l).blocks ≤ 50000000 := by
  have a1 := foldP_sz x
  have a2 := copP_sz (foldP x)
  have a3 := clP_sz (copP (foldP x))
  have b1 := fwdP_sz (foldP x)
  have b2 := dsP_sz (fwdP (foldP x))
  have b3 := foldP_sz (dsP (fwdP (foldP x)))
  have b4 := copP_sz (foldP (dsP (fwdP (foldP x))))
  have b5 := clP_sz (copP (foldP (dsP (fwdP (foldP x)))))
  unfold optP opt1
  split
  · exact few_of (by omega)
  · split
    · exact trimP_few (by omega)
    · exact few_of h
end Go.Proofs.YtelkpikbjfkpcaaGreat
