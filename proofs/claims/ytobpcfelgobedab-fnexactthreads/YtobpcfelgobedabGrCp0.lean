/- What impl.graphCopy has made after so many blocks: its box, the rows of its own, the codes copied so far. -/
import Derived.Test.YtobpcfelgobedabCodeCp
import Derived.Test.YtobpcfelgobedabMksE
namespace Go.Proofs.Ytobpcfelgobedab
open Go.ChangeShapes Go.WideShapes Go.ChangeAt Go.RowKit
theorem blkv_one {w : World} {B : Nat} {v : Array Value} {x : Blk} (h : BlkIs w B v x) : ∀ u ∈ v.toList, u.oneCell' = true := by
  obtain ⟨uc, cc, rfl, _⟩ := h
  intro u hu
  simp only [List.mem_cons, List.not_mem_nil, or_false] at hu
  rcases hu with rfl | rfl | rfl | rfl | rfl <;> rfl
theorem ints_row {w : World} {B : Nat} {a : Option Addr} {zs : List Int} (h : IntsIs w B a zs) : RowAt w B a zs.length 1 (fun i => #[.int .i64 (zs[i]!)]) := by
  obtain ⟨_, h0 | ⟨b, o, ha, hB, hb, hp, hc⟩⟩ := h
  · exact Or.inl h0
  · refine Or.inr ⟨b, o, ha, hB, hb, hp, fun i hi => ⟨rfl, fun j hj => ?_⟩⟩
    obtain rfl : j = 0 := by omega
    have := hc i hi
    simp only [getElem!_pos zs i hi]
    rw [show o + i * 1 + 0 = o + i by omega]
    exact this
/-- After the codes cs are copied. -/
structure GC (n0 M g : Nat) (sizes : List Int) (p q r : Int) (blocks : List Blk) (vs : Nat → Array Value) (sa : Option Addr) (kS : Nat) (ab : Option Addr) (kB : Nat) (cs : List CRow) (wr : World) : Prop where
  low : n0 + 2 ≤ M
  big : M ≤ wr.heap.size
  box : wr.heap[n0]? = some (.cells #[.slice sa sizes.length kS, .int .i64 p, .int .i64 q, .int .i64 r, .slice ab blocks.length kB] 29 (0, 0))
  res : wr.heap[n0 + 1]? = some (.cells #[.slice none 0 0, .int .i64 0, .int .i64 0, .int .i64 0, .slice none 0 0] 29 (0, 0))
  szs : sizes.length = 0 ∨ ∃ gs cur, sa = some ⟨gs, 0, none⟩ ∧ n0 + 2 ≤ gs ∧ gs < M ∧ wr.heap[gs]? = some (.cells cur 3 (0, 0)) ∧ sizes.length ≤ cur.size ∧ ∀ i, i < sizes.length → cur[i]? = some (.int .i64 (sizes[i]!))
  few : cs.length ≤ blocks.length
  glow : 0 < blocks.length → M ≤ g ∧ ab = some ⟨g, 0, none⟩
  blk : 0 < blocks.length → ∃ cur, wr.heap[g]? = some (.cells cur 40 (0, 0)) ∧ blocks.length * 5 ≤ cur.size ∧ (∀ i, i < blocks.length → ∀ r, 0 < r → r < 5 → cur[i * 5 + r]? = (vs i)[r]?) ∧ (∀ i, cs.length ≤ i → i < blocks.length → cur[i * 5]? = (vs i)[0]?) ∧ ∀ i (h : i < cs.length), ∃ ad cap, cur[i * 5]? = some (.slice ad cs[i].n cap) ∧ (cs[i].n = 0 ∨ ad = some ⟨cs[i].b, 0, none⟩)
  num : ∀ i (h : i < cs.length), cs[i].o = 0 ∧ cs[i].n = (blocks[i]!).code.length
  code : ∀ i (h : i < cs.length), 0 < cs[i].n → M ≤ cs[i].b ∧ g < cs[i].b ∧ ∃ cur, wr.heap[cs[i].b]? = some (.cells cur 62 (0, 0)) ∧ cs[i].n * 7 ≤ cur.size ∧ ∀ k, k < cs[i].n → ∀ r, r < 7 → cur[k * 7 + r]? = (insA ((blocks[i]!).code[k]!))[r]?
  dis : ∀ i k (hi : i < cs.length) (hk : k < cs.length), i < k → 0 < cs[i].n → 0 < cs[k].n → cs[i].b < cs[k].b
section
variable {n0 M g : Nat} {sizes : List Int} {p q r : Int} {blocks : List Blk} {vs : Nat → Array Value} {sa : Option Addr} {kS : Nat} {ab : Option Addr} {kB : Nat} {cs : List CRow} {wr wr' : World}
theorem hltH {w : World} {b : Nat} {o : Obj} (h : w.heap[b]? = some o) : b < w.heap.size := (Array.getElem?_eq_some_iff.1 h).1
theorem GC.stays (h : GC n0 M g sizes p q r blocks vs sa kS ab kB cs wr) (bel : Below wr.heap.size wr wr') : GC n0 M g sizes p q r blocks vs sa kS ab kB cs wr' where
  low := h.low
  big := Nat.le_trans h.big bel.size
  box := (bel.block _ (hltH h.box)).trans h.box
  res := (bel.block _ (hltH h.res)).trans h.res
  szs := by
    rcases h.szs with h0 | ⟨gs, cur, h1, h2, h3, h4, h5⟩
    · exact Or.inl h0
    · exact Or.inr ⟨gs, cur, h1, h2, h3, (bel.block _ (hltH h4)).trans h4, h5⟩
  few := h.few
  glow := h.glow
  blk := fun h0 => let ⟨cur, h1, h2⟩ := h.blk h0; ⟨cur, (bel.block _ (hltH h1)).trans h1, h2⟩
  num := h.num
  code := fun i hi hn => let ⟨a, b, cur, h1, h2⟩ := h.code i hi hn; ⟨a, b, cur, (bel.block _ (hltH h1)).trans h1, h2⟩
  dis := h.dis
/-- One more block's code is copied and laid down. -/
theorem GC.step (h : GC n0 M g sizes p q r blocks vs sa kS ab kB cs wr) (bel : Below wr.heap.size wr wr') {j : Nat} (hj : j = cs.length) (hlt : j < blocks.length) {L : List Ins} (hL : (blocks[j]!).code = L) {a' : Option Addr} {c' : Nat} (ho : RowOf wr' wr.heap.size 62 7 (.slice a' L.length c') L.length (fun i => insA (L[i]!))) :
    ∃ c, GC n0 M g sizes p q r blocks vs sa kS ab kB (cs ++ [c]) (wr'.setCell ⟨g, j * 5, none⟩ (.slice a' L.length c')) := by
  have h' := h.stays bel
  have hp : 0 < blocks.length := by omega
  obtain ⟨hgM, hab⟩ := h.glow hp
  obtain ⟨cur, k1, k2, k3, k4, k5⟩ := h'.blk hp
  obtain ⟨curg, kg, _⟩ := h.blk hp
  have hg : g < wr.heap.size := hltH kg
  have hne : ∀ k, k ≠ g → (wr'.setCell ⟨g, j * 5, none⟩ (.slice a' L.length c')).heap[k]? = wr'.heap[k]? := fun k hk => Below.heap_setCell wr' ⟨g, j * 5, none⟩ _ k hk
  have hsz : (wr'.setCell ⟨g, j * 5, none⟩ (.slice a' L.length c')).heap.size = wr'.heap.size := size_set _ _ _
  obtain ⟨a2, c2, hv, ho⟩ := ho
  injection hv with e1 e2 e3
  subst e1 e3
  have hlow := h.low
  refine ⟨⟨(a'.map (·.block)).getD 0, 0, L.length⟩, ?_⟩
  have hc0 : ∀ (P : ∀ i, i < (cs ++ [(⟨(a'.map (·.block)).getD 0, 0, L.length⟩ : CRow)]).length → CRow → Prop), (∀ i (hi : i < cs.length), P i (by simp; omega) cs[i]) → P cs.length (by simp) ⟨(a'.map (·.block)).getD 0, 0, L.length⟩ → ∀ i (hi : i < (cs ++ [(⟨(a'.map (·.block)).getD 0, 0, L.length⟩ : CRow)]).length), P i hi (cs ++ [(⟨(a'.map (·.block)).getD 0, 0, L.length⟩ : CRow)])[i] := by
    intro P h1 h2 i hi
    by_cases hlt : i < cs.length
    · rw [List.getElem_append_left hlt]; exact h1 i hlt
    · have : i = cs.length := by simp at hi; omega
      subst this
      simpa using h2
  have hnew : 0 < L.length → wr.heap.size ≤ (a'.map (·.block)).getD 0 ∧ a' = some ⟨(a'.map (·.block)).getD 0, 0, none⟩ ∧ ∃ cur, wr'.heap[(a'.map (·.block)).getD 0]? = some (.cells cur 62 (0, 0)) ∧ L.length * 7 ≤ cur.size ∧ ∀ k, k < L.length → ∀ r, r < 7 → cur[k * 7 + r]? = (insA (L[k]!))[r]? := fun h0 => by
    rcases ho with ho | ⟨g', cur', rfl, hB, hh, hs, hx⟩
    · omega
    · exact ⟨hB, rfl, cur', hh, hs, hx⟩
  exact {
    low := h.low
    big := by rw [hsz]; exact h'.big
    box := (hne _ (by omega)).trans h'.box
    res := (hne _ (by omega)).trans h'.res
    szs := by
      rcases h'.szs with h0 | ⟨gs, cur, h1, h2, h3, h4, h5⟩
      · exact Or.inl h0
      · exact Or.inr ⟨gs, cur, h1, h2, h3, (hne _ (by omega)).trans h4, h5⟩
    few := by simp; omega
    glow := h.glow
    blk := fun _ => by
      refine ⟨cur.setIfInBounds (j * 5) (.slice a' L.length c'), heap_setCell_same wr' g _ cur _ _ k1, by simpa using k2, fun i hi r h0 hr => ?_, fun i hi hi2 => ?_, ?_⟩
      · rw [Array.getElem?_setIfInBounds_ne (by omega)]; exact k3 i hi r h0 hr
      · rw [List.length_append, List.length_singleton] at hi
        rw [Array.getElem?_setIfInBounds_ne (by omega)]; exact k4 i (by omega) hi2
      · refine hc0 (fun i _ c => ∃ ad cap, (cur.setIfInBounds (j * 5) (.slice a' L.length c'))[i * 5]? = some (.slice ad c.n cap) ∧ (c.n = 0 ∨ ad = some ⟨c.b, 0, none⟩)) (fun i hi => ?_) ?_
        · rw [Array.getElem?_setIfInBounds_ne (by omega)]; exact k5 i hi
        · refine ⟨a', c', ?_, ?_⟩
          · rw [hj, Array.getElem?_setIfInBounds_self_of_lt (by omega)]
          · by_cases h0 : L.length = 0
            · exact Or.inl h0
            · exact Or.inr (hnew (by omega)).2.1
    num := hc0 (fun i _ c => c.o = 0 ∧ c.n = (blocks[i]!).code.length) h.num ⟨rfl, by rw [← hj, hL]⟩
    code := hc0 (fun i _ c => 0 < c.n → M ≤ c.b ∧ g < c.b ∧ ∃ cur, (wr'.setCell ⟨g, j * 5, none⟩ (.slice a' L.length c')).heap[c.b]? = some (.cells cur 62 (0, 0)) ∧ c.n * 7 ≤ cur.size ∧ ∀ k, k < c.n → ∀ r, r < 7 → cur[k * 7 + r]? = (insA ((blocks[i]!).code[k]!))[r]?) (fun i hi hn => by
        obtain ⟨c1, c2, cur, c3, c4⟩ := h'.code i hi hn
        exact ⟨c1, c2, cur, (hne _ (by omega)).trans c3, c4⟩) (fun hn => by
        obtain ⟨c1, c2, cur, c3, c4, c5⟩ := hnew hn
        have := h.big
        exact ⟨Nat.le_trans this c1, Nat.lt_of_lt_of_le hg c1, cur, (hne _ (Nat.ne_of_gt (Nat.lt_of_lt_of_le hg c1))).trans c3, c4, by rw [← hj, hL]; exact c5⟩)
    dis := fun i k hi hk hik => by
      have hi' : i < cs.length := by simp at hk; omega
      rw [List.getElem_append_left hi']
      revert hik
      revert k
      refine hc0 (fun k _ c => i < k → 0 < cs[i].n → 0 < c.n → cs[i].b < c.b) (fun k hk hik h1 h2 => h.dis i k hi' hk hik h1 h2) (fun _ h1 h2 => ?_)
      obtain ⟨_, _, cur, c3, _⟩ := h.code i hi' h1
      exact Nat.lt_of_lt_of_le (hltH c3) (hnew h2).1 }
/-- What is made is the graph. -/
theorem GC.is {w : World} {B : Nat} (h : GC n0 M g sizes p q r blocks vs sa kS ab kB cs wr) (he : cs.length = blocks.length) (hwf : (⟨sizes, p, q, r, blocks⟩ : Gr).wf) (hl1 : sizes.length ≤ maxLen) (hl2 : blocks.length ≤ maxLen) (hx : ∀ (i : Nat) (h : i < blocks.length), BlkIs w B (vs i) blocks[i]) :
    GrIs wr (n0 + 2) #[.slice sa sizes.length kS, .int .i64 p, .int .i64 q, .int .i64 r, .slice ab blocks.length kB] ⟨sizes, p, q, r, blocks⟩ := by
  have hlow := h.low
  refine ⟨sa, kS, ab, kB, rfl, hwf, ⟨hl1, ?_⟩, ⟨hl2, ?_⟩⟩
  · rcases h.szs with h0 | ⟨gs, cur, h1, h2, h3, h4, h5, h6⟩
    · exact Or.inl h0
    · refine Or.inr ⟨gs, 0, h1, by omega, hltH h4, fun _ => ⟨cur, _, h4⟩, fun i hi => ?_⟩
      have := h6 i hi
      simp only at hi
      simp only [getElem!_pos sizes i hi] at this
      simp only [World.cell?, h4, Nat.zero_add]; exact this
  · by_cases h0 : blocks.length = 0
    · exact ⟨vs, Or.inl h0, fun i hi => absurd hi (by simp only; omega)⟩
    · have hp : 0 < blocks.length := by omega
      obtain ⟨hgM, hab⟩ := h.glow hp
      obtain ⟨cur, k1, k2, k3, k4, k5⟩ := h.blk hp
      have hb : ∀ i, i < blocks.length → ∃ ad cap, cur[i * 5]? = some (.slice ad (blocks[i]!).code.length cap) ∧ SlIs InsIs 7 wr (n0 + 2) ad (blocks[i]!).code := fun i hi => by
        have hic : i < cs.length := by omega
        obtain ⟨ad, cap, k6, k7⟩ := k5 i hic
        have hn := (h.num i hic).2
        rw [hn] at k6 k7
        refine ⟨ad, cap, k6, ?_⟩
        obtain ⟨uc, cc, _, _, hm, v2, _, hi2⟩ := hx i hi
        rw [getElem!_pos blocks i hi] at hn k7 ⊢
        refine ⟨hm, fun k => insA (blocks[i].code[k]!), ?_, fun k hk => ?_⟩
        · rcases k7 with k7 | k7
          · exact Or.inl k7
          · by_cases hz : blocks[i].code.length = 0
            · exact Or.inl hz
            · obtain ⟨c1, c2, cur2, c3, c4, c5⟩ := h.code i hic (by omega)
              refine Or.inr ⟨_, _, k7, by omega, hltH c3, fun _ => ⟨cur2, _, c3⟩, fun k hk => ⟨rfl, fun j hj => ?_⟩⟩
              have := c5 k (by omega) j hj
              rw [getElem!_pos blocks i hi] at this
              simp only [World.cell?, c3, Nat.zero_add]; exact this
        · simp only [getElem!_pos blocks[i].code k hk]
          exact ⟨rfl, (hi2 k hk).2⟩
      refine ⟨fun i => #[(cur[i * 5]?).getD default, .int .i64 (blocks[i]!).jump, .int .i64 (blocks[i]!).a, .int .i64 (blocks[i]!).to, .int .i64 (blocks[i]!).els], Or.inr ⟨g, 0, hab, by omega, hltH k1, fun _ => ⟨cur, _, k1⟩, fun i hi => ⟨rfl, fun j hj => ?_⟩⟩, fun i hi => ?_⟩
      · obtain ⟨ad, cap, k6, _⟩ := hb i hi
        obtain ⟨uc, cc, hv, _⟩ := hx i hi
        have k3 := k3 i hi
        rw [hv] at k3
        simp only at hi
        simp only [World.cell?, k1, Nat.zero_add, getElem!_pos blocks i hi]
        match j, hj with
        | 0, _ => rw [Nat.add_zero, k6]; rfl
        | 1, _ => rw [k3 1 (by omega) (by omega)]; rfl
        | 2, _ => rw [k3 2 (by omega) (by omega)]; rfl
        | 3, _ => rw [k3 3 (by omega) (by omega)]; rfl
        | 4, _ => rw [k3 4 (by omega) (by omega)]; rfl
      · obtain ⟨ad, cap, k6, k7⟩ := hb i hi
        obtain ⟨uc, cc, _, hw, _⟩ := hx i hi
        simp only at hi
        simp only [getElem!_pos blocks i hi, k6] at k7 ⊢
        exact ⟨ad, cap, rfl, hw, k7⟩
/-- It is a graph of its own. -/
theorem GC.own (h : GC n0 M g sizes p q r blocks vs sa kS ab kB cs wr) (he : cs.length = blocks.length) :
    ∃ S, S.n = sizes.length ∧ GOwn wr #[.slice sa sizes.length kS, .int .i64 p, .int .i64 q, .int .i64 r, .slice ab blocks.length kB] S g 0 cs ∧ ∀ c ∈ grL S g 0 cs, n0 + 2 ≤ c.1 ∧ c.1 < wr.heap.size := by
  have hlow := h.low
  have hpos : cs ≠ [] → 0 < blocks.length := fun hne => by rw [← he]; exact List.length_pos_iff.2 hne
  obtain ⟨S, hSn, hSo, hSa, hSr, hSM⟩ : ∃ S : CRow, S.n = sizes.length ∧ S.o = 0 ∧ (S.n = 0 ∨ sa = some ⟨S.b, S.o, none⟩) ∧ (0 < S.n → ∃ c T, wr.heap[S.b]? = some (.cells c T (0, 0)) ∧ S.o + S.n ≤ c.size) ∧ (0 < S.n → n0 + 2 ≤ S.b ∧ S.b < M) := by
    rcases h.szs with h0 | ⟨gs, cur, h1, h2, h3, h4, h5, h6⟩
    · exact ⟨⟨0, 0, 0⟩, h0.symm, rfl, Or.inl rfl, fun hh => absurd hh (Nat.lt_irrefl _), fun hh => absurd hh (Nat.lt_irrefl _)⟩
    · exact ⟨⟨gs, 0, sizes.length⟩, rfl, rfl, Or.inr h1, fun _ => ⟨cur, _, h4, by simp only; omega⟩, fun _ => ⟨by simp only; omega, h3⟩⟩
  refine ⟨S, hSn, ?_, ?_⟩
  · exact {
      val := ⟨sa, kS, p, q, r, ab, kB, by rw [hSn, he], hSa, by
        by_cases hne : cs = []
        · exact Or.inl hne
        · exact Or.inr (h.glow (hpos hne)).2⟩
      srow := hSr
      brow := fun hne => by
        obtain ⟨cur, k1, k2, _⟩ := h.blk (hpos hne)
        exact ⟨cur, _, k1, by omega⟩
      codes := {
        cell := fun i hi => by
          obtain ⟨cur, k1, _, _, _, k5⟩ := h.blk (by omega)
          obtain ⟨ad, cap, k6, k7⟩ := k5 i hi
          refine ⟨ad, cap, by simp only [World.cell?, k1, Nat.zero_add]; exact k6, ?_⟩
          rw [(h.num i hi).1]; exact k7
        row := fun i hi hn => by
          obtain ⟨_, _, cur, c3, c4, _⟩ := h.code i hi hn
          exact ⟨cur, _, c3, by rw [(h.num i hi).1]; omega⟩
        own := fun i hi hn => by have := (h.code i hi hn).2.1; omega
        dis := fun i j hi hj hne hn1 hn2 => by
          by_cases hij : i < j
          · exact Nat.ne_of_lt (h.dis i j hi hj hij hn1 hn2)
          · exact Nat.ne_of_gt (h.dis j i hj hi (by omega) hn2 hn1) }
      sb := fun hn hne => by have := (hSM hn).2; have := (h.glow (hpos hne)).1; omega
      sc := fun hn i hi hci => by have := (hSM hn).2; have := (h.code i hi hci).1; omega }
  · rintro ⟨b', o', t⟩ hc
    simp only
    rcases List.mem_append.1 hc with hc | hc
    · have hm := intL_mem hc
      have hn : 0 < S.n := by omega
      obtain ⟨c, T, hh, _⟩ := hSr hn
      have := hltH hh
      have := hSM hn
      omega
    · rcases blksL_mem hc with ⟨i, hi, e, hn⟩ | ⟨e, i, hi, _⟩
      · obtain ⟨c1, c2, cur, c3, _⟩ := h.code i hi hn
        have := hltH c3
        omega
      · have hp : 0 < blocks.length := by omega
        obtain ⟨cur, k1, _⟩ := h.blk hp
        have := hltH k1
        have := (h.glow hp).1
        omega
end
end Go.Proofs.Ytobpcfelgobedab
