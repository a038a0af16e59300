/- What impl.graphCopy has made after so many blocks: its box, the rows of its own, the codes copied so far. -/
import Derived.Test.YtjmclmbepnbeoaaCodeCp
import Derived.Test.YtjmclmbepnbeoaaMksAll
import Derived.Laws.Rows
import Derived.Deep.RegionHeld3
import Derived.Test.YtjmclmbepnbeoaaTrimP
import Derived.Deep.LoopGhost
namespace Go.Proofs.Ytjmclmbepnbeoaa
open Go.ChangeShapes Go.WideShapes Go.ChangeAt Go.RowKit
theorem blkv_one {w : World} {B : Nat} {v : Array Value} {x : Blk} (h : BlkIs w B v x) : ∀ u ∈ v.toList, u.oneCell' = true := by
  obtain ⟨uc, cc, rfl, _⟩ := h
  intro u hu
  simp only [List.mem_cons, List.not_mem_nil, or_false] at hu
  rcases hu with rfl | rfl | rfl | rfl | rfl <;> rfl
theorem ints_row {w : World} {B : Nat} {a : Option Addr} {zs : List Int} (h : IntsIs w B a zs) : RowAt w B a zs.length 1 (fun i => #[.int .i64 (zs[i]!)]) := by
  obtain ⟨_, h0 | ⟨b, o, ha, hB, hb, hp, hc⟩⟩ := h
  · exact Or.inl h0
  · refine Or.inr ⟨b, o, ha, hB, hb, hp, fun i hi => ⟨rfl, fun j hj => ?_⟩⟩
    obtain rfl : j = 0 := by omega
    have := hc i hi
    simp only [getElem!_pos zs i hi]
    rw [show o + i * 1 + 0 = o + i by omega]
    exact this
/-- After the codes cs are copied. -/
structure GC (n0 M g : Nat) (sizes : List Int) (p q r : Int) (blocks : List Blk) (vs : Nat → Array Value) (sa : Option Addr) (kS : Nat) (ab : Option Addr) (kB : Nat) (cs : List CRow) (wr : World) : Prop where
  low : n0 + 2 ≤ M
  big : M ≤ wr.heap.size
  box : wr.heap[n0]? = some (.cells #[.slice sa sizes.length kS, .int .i64 p, .int .i64 q, .int .i64 r, .slice ab blocks.length kB] 29 (0, 0))
  res : wr.heap[n0 + 1]? = some (.cells #[.slice none 0 0, .int .i64 0, .int .i64 0, .int .i64 0, .slice none 0 0] 29 (0, 0))
  szs : sizes.length = 0 ∨ ∃ gs cur, sa = some ⟨gs, 0, none⟩ ∧ n0 + 2 ≤ gs ∧ gs < M ∧ wr.heap[gs]? = some (.cells cur 3 (0, 0)) ∧ sizes.length ≤ cur.size ∧ ∀ i, i < sizes.length → cur[i]? = some (.int .i64 (sizes[i]!))
  few : cs.length ≤ blocks.length
  glow : 0 < blocks.length → M ≤ g ∧ ab = some ⟨g, 0, none⟩
  blk : 0 < blocks.length → ∃ cur, wr.heap[g]? = some (.cells cur 44 (0, 0)) ∧ blocks.length * 5 ≤ cur.size ∧ (∀ i, i < blocks.length → ∀ r, 0 < r → r < 5 → cur[i * 5 + r]? = (vs i)[r]?) ∧ (∀ i, cs.length ≤ i → i < blocks.length → cur[i * 5]? = (vs i)[0]?) ∧ ∀ i (h : i < cs.length), ∃ ad cap, cur[i * 5]? = some (.slice ad cs[i].n cap) ∧ (cs[i].n = 0 ∨ ad = some ⟨cs[i].b, 0, none⟩)
  num : ∀ i (h : i < cs.length), cs[i].o = 0 ∧ cs[i].n = (blocks[i]!).code.length
  code : ∀ i (h : i < cs.length), 0 < cs[i].n → M ≤ cs[i].b ∧ g < cs[i].b ∧ ∃ cur, wr.heap[cs[i].b]? = some (.cells cur 48 (0, 0)) ∧ cs[i].n * 7 ≤ cur.size ∧ ∀ k, k < cs[i].n → ∀ r, r < 7 → cur[k * 7 + r]? = (insA ((blocks[i]!).code[k]!))[r]?
  dis : ∀ i k (hi : i < cs.length) (hk : k < cs.length), i < k → 0 < cs[i].n → 0 < cs[k].n → cs[i].b < cs[k].b
section
variable {n0 M g : Nat} {sizes : List Int} {p q r : Int} {blocks : List Blk} {vs : Nat → Array Value} {sa : Option Addr} {kS : Nat} {ab : Option Addr} {kB : Nat} {cs : List CRow} {wr wr' : World}
theorem hltH {w : World} {b : Nat} {o : Obj} (h : w.heap[b]? = some o) : b < w.heap.size := (Array.getElem?_eq_some_iff.1 h).1
theorem GC.stays (h : GC n0 M g sizes p q r blocks vs sa kS ab kB cs wr) (bel : Below wr.heap.size wr wr') : GC n0 M g sizes p q r blocks vs sa kS ab kB cs wr' where
  low := h.low
  big := Nat.le_trans h.big bel.size
  box := (bel.block _ (hltH h.box)).trans h.box
  res := (bel.block _ (hltH h.res)).trans h.res
  szs := by
    rcases h.szs with h0 | ⟨gs, cur, h1, h2, h3, h4, h5⟩
    · exact Or.inl h0
    · exact Or.inr ⟨gs, cur, h1, h2, h3, (bel.block _ (hltH h4)).trans h4, h5⟩
  few := h.few
  glow := h.glow
  blk := fun h0 => let ⟨cur, h1, h2⟩ := h.blk h0; ⟨cur, (bel.block _ (hltH h1)).trans h1, h2⟩
  num := h.num
  code := fun i hi hn => let ⟨a, b, cur, h1, h2⟩ := h.code i hi hn; ⟨a, b, cur, (bel.block _ (hltH h1)).trans h1, h2⟩
  dis := h.dis
/-- One more block's code is copied and laid down. -/
theorem GC.step (h : GC n0 M g sizes p q r blocks vs sa kS ab kB cs wr) (bel : Below wr.heap.size wr wr') {j : Nat} (hj : j = cs.length) (hlt : j < blocks.length) {L : List Ins} (hL : (blocks[j]!).code = L) {a' : Option Addr} {c' : Nat} (ho : RowOf wr' wr.heap.size 48 7 (.slice a' L.length c') L.length (fun i => insA (L[i]!))) :
    ∃ c, GC n0 M g sizes p q r blocks vs sa kS ab kB (cs ++ [c]) (wr'.setCell ⟨g, j * 5, none⟩ (.slice a' L.length c')) := by
  have h' := h.stays bel
  have hp : 0 < blocks.length := by omega
  obtain ⟨hgM, hab⟩ := h.glow hp
  obtain ⟨cur, k1, k2, k3, k4, k5⟩ := h'.blk hp
  obtain ⟨curg, kg, _⟩ := h.blk hp
  have hg : g < wr.heap.size := hltH kg
  have hne : ∀ k, k ≠ g → (wr'.setCell ⟨g, j * 5, none⟩ (.slice a' L.length c')).heap[k]? = wr'.heap[k]? := fun k hk => Below.heap_setCell wr' ⟨g, j * 5, none⟩ _ k hk
  have hsz : (wr'.setCell ⟨g, j * 5, none⟩ (.slice a' L.length c')).heap.size = wr'.heap.size := size_set _ _ _
  obtain ⟨a2, c2, hv, ho⟩ := ho
  injection hv with e1 e2 e3
  subst e1 e3
  have hlow := h.low
  refine ⟨⟨(a'.map (·.block)).getD 0, 0, L.length⟩, ?_⟩
  have hc0 : ∀ (P : ∀ i, i < (cs ++ [(⟨(a'.map (·.block)).getD 0, 0, L.length⟩ : CRow)]).length → CRow → Prop), (∀ i (hi : i < cs.length), P i (by simp; omega) cs[i]) → P cs.length (by simp) ⟨(a'.map (·.block)).getD 0, 0, L.length⟩ → ∀ i (hi : i < (cs ++ [(⟨(a'.map (·.block)).getD 0, 0, L.length⟩ : CRow)]).length), P i hi (cs ++ [(⟨(a'.map (·.block)).getD 0, 0, L.length⟩ : CRow)])[i] := by
    intro P h1 h2 i hi
    by_cases hlt : i < cs.length
    · rw [List.getElem_append_left hlt]; exact h1 i hlt
    · have : i = cs.length := by simp at hi; omega
      subst this
      simpa using h2
  have hnew : 0 < L.length → wr.heap.size ≤ (a'.map (·.block)).getD 0 ∧ a' = some ⟨(a'.map (·.block)).getD 0, 0, none⟩ ∧ ∃ cur, wr'.heap[(a'.map (·.block)).getD 0]? = some (.cells cur 48 (0, 0)) ∧ L.length * 7 ≤ cur.size ∧ ∀ k, k < L.length → ∀ r, r < 7 → cur[k * 7 + r]? = (insA (L[k]!))[r]? := fun h0 => by
    rcases ho with ho | ⟨g', cur', rfl, hB, hh, hs, hx⟩
    · omega
    · exact ⟨hB, rfl, cur', hh, hs, hx⟩
  exact {
    low := h.low
    big := by rw [hsz]; exact h'.big
    box := (hne _ (by omega)).trans h'.box
    res := (hne _ (by omega)).trans h'.res
    szs := by
      rcases h'.szs with h0 | ⟨gs, cur, h1, h2, h3, h4, h5⟩
      · exact Or.inl h0
      · exact Or.inr ⟨gs, cur, h1, h2, h3, (hne _ (by omega)).trans h4, h5⟩
    few := by simp; omega
    glow := h.glow
    blk := fun _ => by
      refine ⟨cur.setIfInBounds (j * 5) (.slice a' L.length c'), heap_setCell_same wr' g _ cur _ _ k1, by simpa using k2, fun i hi r h0 hr => ?_, fun i hi hi2 => ?_, ?_⟩
      · rw [Array.getElem?_setIfInBounds_ne (by omega)]; exact k3 i hi r h0 hr
      · rw [List.length_append, List.length_singleton] at hi
        rw [Array.getElem?_setIfInBounds_ne (by omega)]; exact k4 i (by omega) hi2
      · refine hc0 (fun i _ c => ∃ ad cap, (cur.setIfInBounds (j * 5) (.slice a' L.length c'))[i * 5]? = some (.slice ad c.n cap) ∧ (c.n = 0 ∨ ad = some ⟨c.b, 0, none⟩)) (fun i hi => ?_) ?_
        · rw [Array.getElem?_setIfInBounds_ne (by omega)]; exact k5 i hi
        · refine ⟨a', c', ?_, ?_⟩
          · rw [hj, Array.getElem?_setIfInBounds_self_of_lt (by omega)]
          · by_cases h0 : L.length = 0
            · exact Or.inl h0
            · exact Or.inr (hnew (by omega)).2.1
    num := hc0 (fun i _ c => c.o = 0 ∧ c.n = (blocks[i]!).code.length) h.num ⟨rfl, by rw [← hj, hL]⟩
    code := hc0 (fun i _ c => 0 < c.n → M ≤ c.b ∧ g < c.b ∧ ∃ cur, (wr'.setCell ⟨g, j * 5, none⟩ (.slice a' L.length c')).heap[c.b]? = some (.cells cur 48 (0, 0)) ∧ c.n * 7 ≤ cur.size ∧ ∀ k, k < c.n → ∀ r, r < 7 → cur[k * 7 + r]? = (insA ((blocks[i]!).code[k]!))[r]?) (fun i hi hn => by
        obtain ⟨c1, c2, cur, c3, c4⟩ := h'.code i hi hn
        exact ⟨c1, c2, cur, (hne _ (by omega)).trans c3, c4⟩) (fun hn => by
        obtain ⟨c1, c2, cur, c3, c4, c5⟩ := hnew hn
        have := h.big
        exact ⟨Nat.le_trans this c1, Nat.lt_of_lt_of_le hg c1, cur, (hne _ (Nat.ne_of_gt (Nat.lt_of_lt_of_le hg c1))).trans c3, c4, by rw [← hj, hL]; exact c5⟩)
    dis := fun i k hi hk hik => by
      have hi' : i < cs.length := by simp at hk; omega
      rw [List.getElem_append_left hi']
      revert hik
      revert k
      refine hc0 (fun k _ c => i < k → 0 < cs[i].n → 0 < c.n → cs[i].b < c.b) (fun k hk hik h1 h2 => h.dis i k hi' hk hik h1 h2) (fun _ h1 h2 => ?_)
      obtain ⟨_, _, cur, c3, _⟩ := h.code i hi' h1
      exact Nat.lt_of_lt_of_le (hltH c3) (hnew h2).1 }
/-- What is made is the graph. -/
theorem GC.is {w : World} {B : Nat} (h : GC n0 M g sizes p q r blocks vs sa kS ab kB cs wr) (he : cs.length = blocks.length) (hwf : (⟨sizes, p, q, r, blocks⟩ : Gr).wf) (hl1 : sizes.length ≤ maxLen) (hl2 : blocks.length ≤ maxLen) (hx : ∀ (i : Nat) (h : i < blocks.length), BlkIs w B (vs i) blocks[i]) :
    GrIs wr (n0 + 2) #[.slice sa sizes.length kS, .int .i64 p, .int .i64 q, .int .i64 r, .slice ab blocks.length kB] ⟨sizes, p, q, r, blocks⟩ := by
  have hlow := h.low
  refine ⟨sa, kS, ab, kB, rfl, hwf, ⟨hl1, ?_⟩, ⟨hl2, ?_⟩⟩
  · rcases h.szs with h0 | ⟨gs, cur, h1, h2, h3, h4, h5, h6⟩
    · exact Or.inl h0
    · refine Or.inr ⟨gs, 0, h1, by omega, hltH h4, fun _ => ⟨cur, _, h4⟩, fun i hi => ?_⟩
      have := h6 i hi
      simp only at hi
      simp only [getElem!_pos sizes i hi] at this
      simp only [World.cell?, h4, Nat.zero_add]; exact this
  · by_cases h0 : blocks.length = 0
    · exact ⟨vs, Or.inl h0, fun i hi => absurd hi (by simp only; omega)⟩
    · have hp : 0 < blocks.length := by omega
      obtain ⟨hgM, hab⟩ := h.glow hp
      obtain ⟨cur, k1, k2, k3, k4, k5⟩ := h.blk hp
      have hb : ∀ i, i < blocks.length → ∃ ad cap, cur[i * 5]? = some (.slice ad (blocks[i]!).code.length cap) ∧ SlIs InsIs 7 wr (n0 + 2) ad (blocks[i]!).code := fun i hi => by
        have hic : i < cs.length := by omega
        obtain ⟨ad, cap, k6, k7⟩ := k5 i hic
        have hn := (h.num i hic).2
        rw [hn] at k6 k7
        refine ⟨ad, cap, k6, ?_⟩
        obtain ⟨uc, cc, _, _, hm, v2, _, hi2⟩ := hx i hi
        rw [getElem!_pos blocks i hi] at hn k7 ⊢
        refine ⟨hm, fun k => insA (blocks[i].code[k]!), ?_, fun k hk => ?_⟩
        · rcases k7 with k7 | k7
          · exact Or.inl k7
          · by_cases hz : blocks[i].code.length = 0
            · exact Or.inl hz
            · obtain ⟨c1, c2, cur2, c3, c4, c5⟩ := h.code i hic (by omega)
              refine Or.inr ⟨_, _, k7, by omega, hltH c3, fun _ => ⟨cur2, _, c3⟩, fun k hk => ⟨rfl, fun j hj => ?_⟩⟩
              have := c5 k (by omega) j hj
              rw [getElem!_pos blocks i hi] at this
              simp only [World.cell?, c3, Nat.zero_add]; exact this
        · simp only [getElem!_pos blocks[i].code k hk]
          exact ⟨rfl, (hi2 k hk).2⟩
      refine ⟨fun i => #[(cur[i * 5]?).getD default, .int .i64 (blocks[i]!).jump, .int .i64 (blocks[i]!).a, .int .i64 (blocks[i]!).to, .int .i64 (blocks[i]!).els], Or.inr ⟨g, 0, hab, by omega, hltH k1, fun _ => ⟨cur, _, k1⟩, fun i hi => ⟨rfl, fun j hj => ?_⟩⟩, fun i hi => ?_⟩
      · obtain ⟨ad, cap, k6, _⟩ := hb i hi
        obtain ⟨uc, cc, hv, _⟩ := hx i hi
        have k3 := k3 i hi
        rw [hv] at k3
        simp only at hi
        simp only [World.cell?, k1, Nat.zero_add, getElem!_pos blocks i hi]
        match j, hj with
        | 0, _ => rw [Nat.add_zero, k6]; rfl
        | 1, _ => rw [k3 1 (by omega) (by omega)]; rfl
        | 2, _ => rw [k3 2 (by omega) (by omega)]; rfl
        | 3, _ => rw [k3 3 (by omega) (by omega)]; rfl
        | 4, _ => rw [k3 4 (by omega) (by omega)]; rfl
      · obtain ⟨ad, cap, k6, k7⟩ := hb i hi
        obtain ⟨uc, cc, _, hw, _⟩ := hx i hi
        simp only at hi
        simp only [getElem!_pos blocks i hi, k6] at k7 ⊢
        exact ⟨ad, cap, rfl, hw, k7⟩
/-- It is a graph of its own. -/
theorem GC.own (h : GC n0 M g sizes p q r blocks vs sa kS ab kB cs wr) (he : cs.length = blocks.length) :
    ∃ S, S.n = sizes.length ∧ GOwn wr #[.slice sa sizes.length kS, .int .i64 p, .int .i64 q, .int .i64 r, .slice ab blocks.length kB] S g 0 cs ∧ ∀ c ∈ grL S g 0 cs, n0 + 2 ≤ c.1 ∧ c.1 < wr.heap.size := by
  have hlow := h.low
  have hpos : cs ≠ [] → 0 < blocks.length := fun hne => by rw [← he]; exact List.length_pos_iff.2 hne
  obtain ⟨S, hSn, hSo, hSa, hSr, hSM⟩ : ∃ S : CRow, S.n = sizes.length ∧ S.o = 0 ∧ (S.n = 0 ∨ sa = some ⟨S.b, S.o, none⟩) ∧ (0 < S.n → ∃ c T, wr.heap[S.b]? = some (.cells c T (0, 0)) ∧ S.o + S.n ≤ c.size) ∧ (0 < S.n → n0 + 2 ≤ S.b ∧ S.b < M) := by
    rcases h.szs with h0 | ⟨gs, cur, h1, h2, h3, h4, h5, h6⟩
    · exact ⟨⟨0, 0, 0⟩, h0.symm, rfl, Or.inl rfl, fun hh => absurd hh (Nat.lt_irrefl _), fun hh => absurd hh (Nat.lt_irrefl _)⟩
    · exact ⟨⟨gs, 0, sizes.length⟩, rfl, rfl, Or.inr h1, fun _ => ⟨cur, _, h4, by simp only; omega⟩, fun _ => ⟨by simp only; omega, h3⟩⟩
  refine ⟨S, hSn, ?_, ?_⟩
  · exact {
      val := ⟨sa, kS, p, q, r, ab, kB, by rw [hSn, he], hSa, by
        by_cases hne : cs = []
        · exact Or.inl hne
        · exact Or.inr (h.glow (hpos hne)).2⟩
      srow := hSr
      brow := fun hne => by
        obtain ⟨cur, k1, k2, _⟩ := h.blk (hpos hne)
        exact ⟨cur, _, k1, by omega⟩
      codes := {
        cell := fun i hi => by
          obtain ⟨cur, k1, _, _, _, k5⟩ := h.blk (by omega)
          obtain ⟨ad, cap, k6, k7⟩ := k5 i hi
          refine ⟨ad, cap, by simp only [World.cell?, k1, Nat.zero_add]; exact k6, ?_⟩
          rw [(h.num i hi).1]; exact k7
        row := fun i hi hn => by
          obtain ⟨_, _, cur, c3, c4, _⟩ := h.code i hi hn
          exact ⟨cur, _, c3, by rw [(h.num i hi).1]; omega⟩
        own := fun i hi hn => by have := (h.code i hi hn).2.1; omega
        dis := fun i j hi hj hne hn1 hn2 => by
          by_cases hij : i < j
          · exact Nat.ne_of_lt (h.dis i j hi hj hij hn1 hn2)
          · exact Nat.ne_of_gt (h.dis j i hj hi (by omega) hn2 hn1) }
      sb := fun hn hne => by have := (hSM hn).2; have := (h.glow (hpos hne)).1; omega
      sc := fun hn i hi hci => by have := (hSM hn).2; have := (h.code i hi hci).1; omega }
  · rintro ⟨b', o', t⟩ hc
    simp only
    rcases List.mem_append.1 hc with hc | hc
    · have hm := intL_mem hc
      have hn : 0 < S.n := by omega
      obtain ⟨c, T, hh, _⟩ := hSr hn
      have := hltH hh
      have := hSM hn
      omega
    · rcases blksL_mem hc with ⟨i, hi, e, hn⟩ | ⟨e, i, hi, _⟩
      · obtain ⟨c1, c2, cur, c3, _⟩ := h.code i hi hn
        have := hltH c3
        omega
      · have hp : 0 < blocks.length := by omega
        obtain ⟨cur, k1, _⟩ := h.blk hp
        have := hltH k1
        have := (h.glow hp).1
        omega
end
end Go.Proofs.Ytjmclmbepnbeoaa

/- The contract of impl.graphCopy. -/
namespace Go.Proofs.Ytjmclmbepnbeoaa
open Go.ChangeShapes Go.WideShapes Go.ChangeAt Go.RowKit
theorem blk_newG (w : World) (o : Obj) : (w.alloc o).heap[w.heap.size]? = some o := by show (w.heap.push o)[w.heap.size]? = _; exact Array.getElem?_push_size
theorem RowOf.mono {w : World} {B B' : Nat} {T : TypeId} {sz : Nat} {v : Value} {n : Nat} {vs : Nat → Array Value} (h : RowOf w B T sz v n vs) (hB : B' ≤ B) : RowOf w B' T sz v n vs := by
  obtain ⟨a, c, hv, h0 | ⟨g, cur, ha, hB', hr⟩⟩ := h
  · exact ⟨a, c, hv, Or.inl h0⟩
  · exact ⟨a, c, hv, Or.inr ⟨g, cur, ha, Nat.le_trans hB hB', hr⟩⟩
/-- Its parts are no greater than a law's are. -/
def Fits (x : Gr) : Prop := x.sizes.length ≤ 1048576 ∧ x.blocks.length ≤ 1048576 ∧ ∀ i (_ : i < x.blocks.length), (x.blocks[i]).code.length ≤ 1048576 ∧ ∀ y ∈ (x.blocks[i]).code, y.t.size ≤ 1048576
theorem fits_of {x : Gr} (hn : x.sz ≤ 1048576) : Fits x := by
  refine ⟨by simp only [Gr.sz, slSz] at hn; omega, by simp only [Gr.sz, slSz] at hn; omega, fun i hi => ?_⟩
  have h1 := slSum_mem Blk.sz (List.getElem_mem hi)
  simp only [Gr.sz, slSz] at hn
  have h2 : (x.blocks[i]).sz ≤ 1048576 := by omega
  simp only [Blk.sz, slSz] at h2
  refine ⟨by omega, fun y hy => ?_⟩
  have h3 := slSum_mem Ins.sz hy
  simp only [Ins.sz] at h3 h2
  omega
set_option maxRecDepth 100000 in
set_option maxHeartbeats 4000000 in
theorem graphCopy_any (x : Gr) (w : World) (B : Nat) (v : Array Value) (h : GrIs w B v x) (hn : Fits x) :
    Calls Try.prog 60 #[.agg v] w fun en w' => ∃ v' S b cs, en = .returned (.agg v') ∧ GrIs w' w.heap.size v' x ∧ GOwn w' v' S b 0 cs ∧ (∀ c ∈ grL S b 0 cs, w.heap.size ≤ c.1 ∧ c.1 < w'.heap.size) ∧ S.n = x.sizes.length ∧ cs.length = x.blocks.length ∧ (∀ i (h : i < cs.length), cs[i].n = (x.blocks[i]!).code.length) ∧ Below w.heap.size w w' := by
  have CL := hideP hn.2.2
  obtain ⟨sizes, p, q, r, blocks⟩ := x
  obtain ⟨us, cs, ub, cb, rfl, hwf, hs, hb⟩ := h
  have hl1 : sizes.length ≤ 1048576 := hn.1
  have hl2 : blocks.length ≤ 1048576 := hn.2.1
  obtain ⟨hbm, vs, hbr, hbx⟩ := id hb
  have hsm := hs.1
  have SR := hideP (ints_row hs)
  have BR := hideP hbr
  have BX := hideP hbx
  simp only at *
  have HWF := hideP hwf
  have al := below2 w (.cells #[.slice us sizes.length cs, .int .i64 p, .int .i64 q, .int .i64 r, .slice ub blocks.length cb] 29) (.cells #[.slice none 0 0, .int .i64 0, .int .i64 0, .int .i64 0, .slice none 0 0] 29)
  have tw := fun w1 => two (w := w) (w1 := w1) (o1 := .cells #[.slice us sizes.length cs, .int .i64 p, .int .i64 q, .int .i64 r, .slice ub blocks.length cb] 29) (o2 := .cells #[.slice none 0 0, .int .i64 0, .int .i64 0, .int .i64 0, .slice none 0 0] 29)
  have AL := hideP al
  have TW := hideP tw
  have hz : ((w.alloc (.cells #[.slice us sizes.length cs, .int .i64 p, .int .i64 q, .int .i64 r, .slice ub blocks.length cb] 29)).alloc (.cells #[.slice none 0 0, .int .i64 0, .int .i64 0, .int .i64 0, .slice none 0 0] 29)).heap.size = w.heap.size + 2 := by simp
  have HZ := hideP hz
  clear hs hb hbr hbx hn hwf al tw hz
  go_enter Try.func60, Try.ntmps60
  go_wp2_with fail
  refine (cloneI sizes.length _ B us cs _ (SR.out.below AL.out) (fun i _ u hu => by simp at hu; subst hu; rfl) (by omega)).mono ?_
  rintro e1 w1 ⟨v1, rfl, o1, bel1⟩
  have T1 := TW.out w1 bel1
  rw [HZ.out] at o1
  have B1 := hideP (below_trans AL.out bel1)
  obtain ⟨sa, kS, rfl, ho1⟩ := id o1
  obtain ⟨P1, R1, L1, _⟩ := T1
  have S1 : Hid (sizes.length = 0 ∨ ∃ gs cur, sa = some ⟨gs, 0, none⟩ ∧ w.heap.size + 2 ≤ gs ∧ gs < w1.heap.size ∧ w1.heap[gs]? = some (.cells cur 3 (0, 0)) ∧ sizes.length ≤ cur.size ∧ ∀ i, i < sizes.length → cur[i]? = some (.int .i64 (sizes[i]!))) := by
    rcases ho1 with h0 | ⟨gs, cur, h1, h2, h3, h4, h5⟩
    · exact Or.inl h0
    · exact Or.inr ⟨gs, cur, h1, h2, hltH h3, h3, by omega, fun i hi => by have := h5 i hi 0 (by omega); simpa using this⟩
  have c0 := (cells_of P1).1 0
  have c4 := (cells_of P1).1 4
  have cf := (cells_of P1).2 0
  simp at c0 c4
  have W1P : (w1.setCell ⟨w.heap.size, 0, none⟩ (.slice sa sizes.length kS)).heap[w.heap.size]? = some (.cells #[.slice sa sizes.length kS, .int .i64 p, .int .i64 q, .int .i64 r, .slice ub blocks.length cb] 29 (0, 0)) := heap_setCell_same w1 _ _ _ _ _ P1
  have W1R := (Below.heap_setCell w1 ⟨w.heap.size, 0, none⟩ (.slice sa sizes.length kS) (w.heap.size + 1) (by simp)).trans R1
  have W1O := hideP (fun k (hk : w.heap.size < k) => Below.heap_setCell w1 ⟨w.heap.size, 0, none⟩ (.slice sa sizes.length kS) k (by simp only; omega))
  have W1B := hideP (B1.out.setCell (p := ⟨w.heap.size, 0, none⟩) (Nat.le_refl _) (.slice sa sizes.length kS))
  have W1Z := size_set w1 ⟨w.heap.size, 0, none⟩ (.slice sa sizes.length kS)
  have H1P := hideP W1P
  have H1R := hideP W1R
  have H1Z := hideP W1Z
  clear o1 ho1 bel1 P1 R1 TW AL HZ B1 W1P W1R W1Z
  go_wp2_with fail
  obtain ⟨W1, hW1⟩ : ∃ W1, w1.setCell ⟨w.heap.size, 0, none⟩ (.slice sa sizes.length kS) = W1 := ⟨_, rfl⟩
  rw [hW1] at H1P H1R H1Z W1O W1B ⊢
  clear hW1 c0 c4 cf
  refine (cloneB blocks.length _ B ub cb _ (BR.out.below W1B.out) (fun i hi => blkv_one (BX.out i hi)) (by omega)).mono ?_
  rintro e2 w2 ⟨v2, rfl, o2, bel2⟩
  obtain ⟨ab, kB, rfl, ho2⟩ := id o2
  have P2 := (bel2.block _ (hltH H1P.out)).trans H1P.out
  have R2 := (bel2.block _ (hltH H1R.out)).trans H1R.out
  have hZ := H1Z.out
  have hB2 := bel2.size
  have W2P : (w2.setCell ⟨w.heap.size, 4, none⟩ (.slice ab blocks.length kB)).heap[w.heap.size]? = some (.cells #[.slice sa sizes.length kS, .int .i64 p, .int .i64 q, .int .i64 r, .slice ab blocks.length kB] 29 (0, 0)) := heap_setCell_same w2 _ _ _ _ _ P2
  have W2O : ∀ k, w.heap.size < k → (w2.setCell ⟨w.heap.size, 4, none⟩ (.slice ab blocks.length kB)).heap[k]? = w2.heap[k]? := fun k hk => Below.heap_setCell w2 ⟨w.heap.size, 4, none⟩ (.slice ab blocks.length kB) k (by simp only; omega)
  have W2R := (W2O (w.heap.size + 1) (by omega)).trans R2
  have W2B := hideP ((below_trans W1B.out bel2).setCell (p := ⟨w.heap.size, 4, none⟩) (Nat.le_refl _) (.slice ab blocks.length kB))
  have W2Z := size_set w2 ⟨w.heap.size, 4, none⟩ (.slice ab blocks.length kB)
  obtain ⟨g, hg⟩ : ∃ g, (ab.map (·.block)).getD 0 = g := ⟨_, rfl⟩
  have G0 : Hid (GC w.heap.size w1.heap.size g sizes p q r blocks vs sa kS ab kB [] (w2.setCell ⟨w.heap.size, 4, none⟩ (.slice ab blocks.length kB))) := {
    low := L1
    big := by rw [W2Z]; omega
    box := W2P
    res := W2R
    szs := by
      rcases S1.out with h0 | ⟨gs, cur, h1, h2, h3, h4, h5⟩
      · exact Or.inl h0
      · refine Or.inr ⟨gs, cur, h1, h2, h3, ?_, h5⟩
        rw [W2O gs (by omega), bel2.block gs (by omega), W1O.out gs (by omega)]; exact h4
    few := Nat.zero_le _
    glow := fun h0 => by
      rcases ho2 with h1 | ⟨g', cur, h1, h2, h3, h4, h5⟩
      · omega
      · rw [h1] at hg ⊢; simp at hg; subst hg; exact ⟨by omega, rfl⟩
    blk := fun h0 => by
      rcases ho2 with h1 | ⟨g', cur, h1, h2, h3, h4, h5⟩
      · omega
      · rw [h1] at hg; simp at hg; subst hg
        exact ⟨cur, (W2O _ (by omega)).trans h3, h4, fun i hi r _ hr => h5 i hi r hr, fun i _ hi => h5 i hi 0 (by omega), fun i hi => absurd hi (Nat.not_lt_zero _)⟩
    num := fun i hi => absurd hi (Nat.not_lt_zero _)
    code := fun i hi => absurd hi (Nat.not_lt_zero _)
    dis := fun i k hi => absurd hi (Nat.not_lt_zero _) }
  have c4 := (cells_of P2).1 4
  have cf := (cells_of P2).2 4
  simp at c4
  clear hg ho2 o2 bel2 P2 R2 W2P W2O W2R W2Z H1P H1R W1B W1O H1Z S1 SR hZ hB2
  go_upto_region 3 with fail
  obtain ⟨W2, hW2⟩ : ∃ W2, w2.setCell ⟨w.heap.size, 4, none⟩ (.slice ab blocks.length kB) = W2 := ⟨_, rfl⟩
  rw [hW2] at G0 W2B ⊢
  clear hW2 c4 cf
  have c4 := (cells_of G0.out.box).1 4
  simp at c4
  go_wp2
  clear c4
  go_loopg [16] blocks.length (fun gk ix wr => ∃ rows : List CRow, gk + rows.length = blocks.length ∧ ix = .int .i64 rows.length ∧ Hid (GC w.heap.size w1.heap.size g sizes p q r blocks vs sa kS ab kB rows wr) ∧ Hid (Below w.heap.size w wr))
  case atStart => exact ⟨[], rfl, rfl, G0.out, W2B.out⟩
  case round =>
    obtain ⟨rows, hgk, rfl, hG, hB⟩ := hrel
    clear G0 W2B
    by_cases hlt : rows.length < blocks.length
    · obtain ⟨hgM, hab⟩ := hG.out.glow (by omega)
      obtain ⟨cur, k1, k2, k3, k4, _⟩ := hG.out.blk (by omega)
      have k3' := k3 rows.length hlt
      have k4' := k4 rows.length (Nat.le_refl _) hlt
      obtain ⟨uc, cc, hv, _, hcode⟩ := BX.out rows.length hlt
      have cle := CL.out rows.length hlt
      have hbe := getElem!_pos blocks rows.length hlt
      obtain ⟨⟨code, jump, a, t0, els⟩, hX⟩ : ∃ x, blocks[rows.length] = x := ⟨_, rfl⟩
      rw [hX] at hv hcode cle hbe
      simp only at hv hcode cle
      rw [hv] at k3' k4'
      subst hab
      have q0 : wr.cell? ⟨g, rows.length * 5, none⟩ = some (.slice uc code.length cc) := by simp only [World.cell?, k1]; exact k4'
      have q1 : wr.cell? ⟨g, rows.length * 5 + 1, none⟩ = some (.int .i64 jump) := by simp only [World.cell?, k1]; exact k3' 1 (by omega) (by omega)
      have q2 : wr.cell? ⟨g, rows.length * 5 + 2, none⟩ = some (.int .i64 a) := by simp only [World.cell?, k1]; exact k3' 2 (by omega) (by omega)
      have q3 : wr.cell? ⟨g, rows.length * 5 + 3, none⟩ = some (.int .i64 t0) := by simp only [World.cell?, k1]; exact k3' 3 (by omega) (by omega)
      have q4 : wr.cell? ⟨g, rows.length * 5 + 4, none⟩ = some (.int .i64 els) := by simp only [World.cell?, k1]; exact k3' 4 (by omega) (by omega)
      have hX4 := hG.out.box
      have hgl := hltH k1
      have al := (Below.refl wr.heap.size wr).alloc (Nat.le_refl _) (.cells #[.slice uc code.length cc, .int .i64 jump, .int .i64 a, .int .i64 t0, .int .i64 els] 44)
      have AL := hideP al
      have SK : Hid (∀ W', Below (wr.alloc (.cells #[.slice uc code.length cc, .int .i64 jump, .int .i64 a, .int .i64 t0, .int .i64 els] 44)).heap.size (wr.alloc (.cells #[.slice uc code.length cc, .int .i64 jump, .int .i64 a, .int .i64 t0, .int .i64 els] 44)) W' → W'.cell? ⟨w.heap.size, 4, none⟩ = some (.slice (some ⟨g, 0, none⟩) blocks.length kB) ∧ W'.cell? ⟨wr.heap.size, 0, none⟩ = some (.slice uc code.length cc) ∧ W'.cell? ⟨g, rows.length * 5, none⟩ = some (.slice uc code.length cc) ∧ W'.frozen? ⟨g, rows.length * 5, none⟩ = false) := fun W' bel => by
        have hb := below_trans al bel
        have n1 := (bel.block _ (by simp)).trans (blk_newG wr (.cells #[.slice uc code.length cc, .int .i64 jump, .int .i64 a, .int .i64 t0, .int .i64 els] 44))
        exact ⟨(cells_of ((hb.block _ (hltH hX4)).trans hX4)).1 4, (cells_of n1).1 0, (hb.cell (p := ⟨g, _, none⟩) hgl).trans q0, (cells_of ((hb.block _ hgl).trans k1)).2 _⟩
      have CC : Hid (∀ W', Below wr.heap.size wr W' → Calls Try.prog 101 #[.slice uc code.length cc] W' fun en w' => ∃ a' c', en = .returned (.slice a' code.length c') ∧ RowOf w' wr.heap.size 48 7 (.slice a' code.length c') code.length (fun i => insA (code[i]!)) ∧ Below W'.heap.size W' w') := fun W' bel => by
        refine (codeCopy_any code W' B uc cc (hcode.stays InsKeeps (below_trans hB.out bel)) cle.1 cle.2).mono ?_
        rintro en w' ⟨v', rfl, ho, hb⟩
        obtain ⟨a', c', rfl, _⟩ := id ho
        exact ⟨a', c', rfl, ho.mono bel.size, hb⟩
      have HBE := hideP hbe
      clear k1 k2 k3 k4 k3' k4' hv hcode cle hbe hX hX4 al
      go_upto_region 6 with fail
      have SK2 : Hid (∀ W' v, Below (wr.alloc (.cells #[.slice uc code.length cc, .int .i64 jump, .int .i64 a, .int .i64 t0, .int .i64 els] 44)).heap.size (wr.alloc (.cells #[.slice uc code.length cc, .int .i64 jump, .int .i64 a, .int .i64 t0, .int .i64 els] 44)) W' → (W'.setCell ⟨g, rows.length * 5, none⟩ v).cell? ⟨w.heap.size, 4, none⟩ = some (.slice (some ⟨g, 0, none⟩) blocks.length kB) ∧ (W'.setCell ⟨g, rows.length * 5, none⟩ v).cell? ⟨wr.heap.size, 0, none⟩ = some (.slice uc code.length cc)) := fun W' v bel => by
        obtain ⟨s1, s2, _⟩ := SK.out W' bel
        exact ⟨(World.cell?_of_block (a := ⟨w.heap.size, 4, none⟩) (Below.heap_setCell W' ⟨g, rows.length * 5, none⟩ v w.heap.size (by simp only; omega))).trans s1, (World.cell?_of_block (a := ⟨wr.heap.size, 0, none⟩) (Below.heap_setCell W' ⟨g, rows.length * 5, none⟩ v wr.heap.size (by simp only; omega))).trans s2⟩
      have SK1 : Hid (∀ W', Below (wr.alloc (.cells #[.slice uc code.length cc, .int .i64 jump, .int .i64 a, .int .i64 t0, .int .i64 els] 44)).heap.size (wr.alloc (.cells #[.slice uc code.length cc, .int .i64 jump, .int .i64 a, .int .i64 t0, .int .i64 els] 44)) W' → W'.cell? ⟨w.heap.size, 4, none⟩ = some (.slice (some ⟨g, 0, none⟩) blocks.length kB) ∧ W'.cell? ⟨wr.heap.size, 0, none⟩ = some (.slice uc code.length cc)) := fun W' bel => ⟨(SK.out W' bel).1, (SK.out W' bel).2.1⟩
      go_region_held3 (fun W' => W'.cell? ⟨w.heap.size, 4, none⟩ = some (.slice (some ⟨g, 0, none⟩) blocks.length kB) ∧ W'.cell? ⟨wr.heap.size, 0, none⟩ = some (.slice uc code.length cc)) (first | exact SK1.out _ (Below.refl _ _).drew | exact SK1.out _ FR.out | exact SK2.out _ _ FR.out) (first
        | (go_at_call 101; refine (CC.out _ AL.out.drew).mono ?_; rintro yy wy ⟨a', c', rfl, on, fn⟩; have ON := hideP on; have FR : Hid (Below (wr.alloc (.cells #[.slice uc code.length cc, .int .i64 jump, .int .i64 a, .int .i64 t0, .int .i64 els] 44)).heap.size (wr.alloc (.cells #[.slice uc code.length cc, .int .i64 jump, .int .i64 a, .int .i64 t0, .int .i64 els] 44)) wy) := (Below.refl _ _).drew.trans (fn.mono (Nat.le_refl _)); obtain ⟨_, _, f1, f2⟩ := SK.out _ FR.out; clear on fn))
      clear SK1 SK2
      have B3 := below_trans AL.out FR.out
      obtain ⟨c, g3⟩ := hG.out.step B3 rfl hlt (L := code) (by rw [HBE.out]) ON.out
      have G3 := hideP g3
      have B4 := hideP ((below_trans hB.out B3).setCell (p := ⟨g, rows.length * 5, none⟩) (by simp only; omega) (.slice a' code.length c'))
      clear g3 B3 SK CC AL FR ON hG hB q0 q1 q2 q3 q4
      go_wp2
      go_roundg (blocks.length - (rows.length + 1))
      case rel => exact ⟨rows ++ [c], by simp; omega, by simp only [List.length_append, List.length_singleton]; go_num, G3.out, B4.out⟩
      case measure => omega
    · have hE : rows.length = blocks.length := by omega
      have c0 := (cells_of hG.out.box).1 0
      have c1 := (cells_of hG.out.box).1 1
      have c2 := (cells_of hG.out.box).1 2
      have c3 := (cells_of hG.out.box).1 3
      have c4 := (cells_of hG.out.box).1 4
      have r0 := (cells_of hG.out.res).1 0
      have r1 := (cells_of hG.out.res).1 1
      have r2 := (cells_of hG.out.res).1 2
      have r3 := (cells_of hG.out.res).1 3
      have r4 := (cells_of hG.out.res).1 4
      have rf := (cells_of hG.out.res).2
      simp at c0 c1 c2 c3 c4 r0 r1 r2 r3 r4
      have z := hG.out.res
      have z0 := heap_setCell_same wr _ 0 _ _ (.slice sa sizes.length kS) z
      have z1 := heap_setCell_same _ _ 1 _ _ (.int .i64 p) z0
      have z2 := heap_setCell_same _ _ 2 _ _ (.int .i64 q) z1
      have z3 := heap_setCell_same _ _ 3 _ _ (.int .i64 r) z2
      have z4 : (((((wr.setCell ⟨w.heap.size + 1, 0, none⟩ (.slice sa sizes.length kS)).setCell ⟨w.heap.size + 1, 1, none⟩ (.int .i64 p)).setCell ⟨w.heap.size + 1, 2, none⟩ (.int .i64 q)).setCell ⟨w.heap.size + 1, 3, none⟩ (.int .i64 r)).setCell ⟨w.heap.size + 1, 4, none⟩ (.slice ab blocks.length kB)).heap[w.heap.size + 1]? = some (.cells #[.slice sa sizes.length kS, .int .i64 p, .int .i64 q, .int .i64 r, .slice ab blocks.length kB] 29 (0, 0)) := heap_setCell_same _ _ 4 _ _ (.slice ab blocks.length kB) z3
      have ZF := hideP z4
      have BU := hideP (((((But.refl (w.heap.size + 1) wr).set 0 (.slice sa sizes.length kS)).set 1 (.int .i64 p)).set 2 (.int .i64 q)).set 3 (.int .i64 r) |>.set 4 (.slice ab blocks.length kB))
      clear z z0 z1 z2 z3 z4
      rw [hE]
      go_wp2
      refine bodyPost_ret (results_cell_row rfl _ _ (w.heap.size + 1) 29 #[.slice sa sizes.length kS, .int .i64 p, .int .i64 q, .int .i64 r, .slice ab blocks.length kB] (0, 0) _ rfl ZF.out Try.underlying29 rfl (by kernel_rfl)) rfl ?_
      obtain ⟨S, hS, ow, lo⟩ := hG.out.own hE
      have hlow := hG.out.low
      have hbig := hG.out.big
      refine ⟨_, S, g, rows, rfl, GrKeeps.mono (GrKeeps.but (hG.out.is hE HWF.out hsm hbm BX.out) (by omega) BU.out) (by omega), ow.above (B := w.heap.size + 2) (fun c hc => (lo c hc).1) (fun k hk hkl => BU.out.block k hkl (by omega)), fun c hc => ?_, hS, hE, fun i hi => (hG.out.num i hi).2, hB.out.trans (BU.out.below (by omega) (by omega))⟩
      have := lo c hc
      have := BU.out.size
      omega
end Go.Proofs.Ytjmclmbepnbeoaa

/- The contract of impl.withBlocks (written by wip/mkwithb.py). -/
namespace Go.Proofs.Ytjmclmbepnbeoaa
open Go.ChangeShapes Go.WideShapes Go.ChangeAt Go.RowKit
/-- The answer is the graph x, its own memory alone. -/
def MadeGr (w : World) (x : Gr) (en : Ending) (w' : World) : Prop := ∃ v' S b cs, en = .returned (.agg v') ∧ GrIs w' w.heap.size v' x ∧ GOwn w' v' S b 0 cs ∧ (∀ c ∈ grL S b 0 cs, w.heap.size ≤ c.1 ∧ c.1 < w'.heap.size) ∧ S.n = x.sizes.length ∧ cs.length = x.blocks.length ∧ (∀ i (h : i < cs.length), cs[i].n = (x.blocks[i]!).code.length) ∧ Below w.heap.size w w'
/-- Its box, its result and the new numbers. -/
structure WB (w : World) (bx : Array Value) (N : List Int) (wr : World) : Prop where
  box : wr.heap[w.heap.size]? = some (.cells bx 29 (0, 0))
  res : wr.heap[w.heap.size + 1]? = some (.cells #[.slice none 0 0, .int .i64 0, .int .i64 0, .int .i64 0, .slice none 0 0] 29 (0, 0))
  num : NumIs wr (w.heap.size + 2) N
  bel : Below w.heap.size w wr
  big : w.heap.size + 3 ≤ wr.heap.size
theorem WB.stays {w wr wr' : World} {bx : Array Value} {N : List Int} (h : WB w bx N wr) (b : Below wr.heap.size wr wr') : WB w bx N wr' :=
  ⟨(b.block _ (hltH h.box)).trans h.box, (b.block _ (hltH h.res)).trans h.res, h.num.keep (b.block _ (by have := h.big; omega)), below_trans h.bel b, Nat.le_trans h.big b.size⟩
theorem WB.grown {w wr wr' : World} {bx : Array Value} {N : List Int} {row : Option Nat} (h : WB w bx N wr) (hg : wr.grownBy wr' row) (hr : ∀ k, row = some k → w.heap.size + 3 ≤ k) : WB w bx N wr' := by
  have hb := h.big
  have hk : ∀ k, k < w.heap.size + 3 → wr'.heap[k]? = wr.heap[k]? := fun k hk => hg.block k (by omega) (fun e => by have := hr k e.symm; omega)
  exact ⟨(hk _ (by omega)).trans h.box, (hk _ (by omega)).trans h.res, h.num.keep (hk _ (by omega)), h.bel.grown hg (by omega) (fun k e => by have := hr k e; omega), Nat.le_trans hb hg.size⟩
theorem WB.put {w wr : World} {bx : Array Value} {N : List Int} (h : WB w bx N wr) (k : Nat) (z : Int) : WB w bx (N.set k z) (wr.setCell ⟨w.heap.size + 2, k, none⟩ (.int .i64 z)) :=
  ⟨(Below.heap_setCell wr ⟨w.heap.size + 2, k, none⟩ _ _ (by simp only; omega)).trans h.box, (Below.heap_setCell wr ⟨w.heap.size + 2, k, none⟩ _ _ (by simp only; omega)).trans h.res, h.num.set k z, h.bel.setCell (p := ⟨w.heap.size + 2, k, none⟩) (by simp only; omega) _, by rw [size_set]; exact h.big⟩
/-- The rows told so far. -/
def RowsOk (w : World) (B : Nat) (bs : List Blk) (L : List Int) (rows : List BRow) : Prop := ∀ i (h : i < rows.length), rows[i].2.2 = reB (numF bs.length L L.length) (bs[(L[i]!).toNat]!) ∧ (rows[i].2.2).wf ∧ SlIs InsIs 7 w B rows[i].1 (rows[i].2.2).code
theorem RowsOk.snoc {w : World} {B : Nat} {bs : List Blk} {L : List Int} {rows : List BRow} (h : RowsOk w B bs L rows) {x : BRow} (h1 : x.2.2 = reB (numF bs.length L L.length) (bs[(L[rows.length]!).toNat]!)) (h2 : (x.2.2).wf) (h3 : SlIs InsIs 7 w B x.1 (x.2.2).code) : RowsOk w B bs L (rows ++ [x]) := by
  intro i hi
  by_cases hl : i < rows.length
  · rw [List.getElem_append_left hl]; exact h i hl
  · obtain rfl : i = rows.length := by simp at hi; omega
    rw [List.getElem_append_right (by omega)]
    simp only [Nat.sub_self, List.getElem_cons_zero]
    exact ⟨h1, h2, h3⟩
theorem rows_is {w W : World} {B B' g n k : Nat} {bs : List Blk} {L : List Int} {rows : List BRow} (ho : OwnE BlE W B' (.slice (some ⟨g, 0, none⟩) n k) rows) (hr : RowsOk w B bs L rows) (hE : rows.length = L.length) (hn : L.length ≤ 300) (bel : Below w.heap.size w W) : SlIs BlkIs 5 W 0 (some ⟨g, 0, none⟩) (rowB bs L) := by
  have hm := maxLen_lt
  have hlen : (rowB bs L).length = L.length := by simp [rowB]
  obtain ⟨g', cap, cur, hv, _, hh, _, _, _, hx⟩ := ho.parts BlE_ok
  injection hv with e1
  injection e1 with e1
  injection e1 with e1
  subst e1
  refine ⟨by unfold maxLen; omega, fun i => (BlE.cs (rows[i]!)).toArray, Or.inr ⟨g, 0, rfl, Nat.zero_le _, hltH hh, fun h0 => absurd h0 (Nat.lt_irrefl _), fun i hi => ⟨rfl, fun j hj => ?_⟩⟩, fun i hi => ?_⟩
  · have := hx i (by omega) j hj
    simp only [World.cell?, hh, Nat.zero_add, getElem!_pos rows i (show i < rows.length by omega)]
    rw [show BlE.sz = 5 from rfl] at this
    simpa using this
  · have hi' : i < rows.length := by omega
    obtain ⟨h1, h2, h3⟩ := hr i hi'
    have e : (rowB bs L)[i] = rows[i].2.2 := by
      rw [h1]
      simp only [rowB, List.getElem_map, getElem!_pos L i (show i < L.length by omega)]
    rw [e]
    simp only [getElem!_pos rows i hi']
    exact ⟨_, _, rfl, h2, (h3.stays InsKeeps bel).mono InsKeeps (Nat.zero_le _)⟩
theorem rowB_fits {sizes : List Int} {p q r : Int} {bs : List Blk} {L : List Int} (h : Fits ⟨sizes, p, q, r, bs⟩) (hL : Inn bs.length L) (hn : L.length ≤ 300) : Fits ⟨sizes, p, q, r, rowB bs L⟩ := by
  have hlen : (rowB bs L).length = L.length := by simp [rowB]
  refine ⟨h.1, by simp only [hlen]; omega, fun i hi => ?_⟩
  simp only at hi
  have hi' : i < L.length := by omega
  have hz := hL _ (List.getElem_mem hi')
  have hzb : L[i].toNat < bs.length := by have := hz.1; have := hz.2; omega
  have e : ((rowB bs L)[i]).code = (bs[L[i].toNat]).code := by
    simp only [rowB, List.getElem_map, reB_code, getElem!_pos bs L[i].toNat hzb]
  simp only [e]
  exact h.2.2 _ hzb
end Go.Proofs.Ytjmclmbepnbeoaa
