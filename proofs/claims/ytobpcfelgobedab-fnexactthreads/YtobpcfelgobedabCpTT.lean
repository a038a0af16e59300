/- One cell of a list that a call owns is written. -/
import Derived.Test.YtobpcfelgobedabPlR
import Derived.Test.YtobpcfelgobedabGrCp
import Derived.Test.YtobpcfelgobedabL04
namespace Go.Proofs.Ytobpcfelgobedab
open Go.ChangeShapes Go.WideShapes Go.ChangeAt Go.RowKit
theorem OwnE.setR {α : Type} {E : Elem α} (O : E.Ok) {w : World} {B g n cap : Nat} {l : List α} (h : OwnE E w B (.slice (some ⟨g, 0, none⟩) n cap) l) {j r : Nat} (hj : j < l.length) (hr : r < E.sz) {u : Value} {x' : α} (hx : E.cs x' = (E.cs l[j]).set r u) :
    OwnE E (w.setCell ⟨g, j * E.sz + r, none⟩ u) B (.slice (some ⟨g, 0, none⟩) n cap) (l.set j x') := by
  obtain ⟨g', cap', cur, hv, hB, hh, hc, hm, hs, hcell⟩ := h.parts O
  injection hv with e1 e2 e3
  injection e1 with e1
  injection e1 with e1
  subst e1 e2 e3
  have hlen : (l.set j x').length = l.length := List.length_set
  have hlt : j * E.sz + r < cur.size := by
    have := mul_stepE j l.length E.sz hj
    have := Nat.mul_le_mul_right E.sz hc
    omega
  have := OwnE.of_parts O (l := l.set j x') hB (heap_setCell_same w g (j * E.sz + r) cur E.T u hh) (by rw [hlen]; exact hc) hm (by simpa using hs) (fun i hi q hq => by
    rw [hlen] at hi
    rw [Array.getElem?_setIfInBounds, List.getElem_set]
    by_cases hij : j = i
    · subst hij
      rw [if_pos rfl, hx]
      by_cases hqr : r = q
      · subst hqr
        rw [if_pos rfl, if_pos hlt, List.getElem?_set_self (by rw [O.len]; exact hr)]
      · rw [if_neg (by omega), List.getElem?_set_ne hqr]
        exact hcell j hj q hq
    · have hne : ¬ j * E.sz + r = i * E.sz + q := fun e => by
        have hd : (j * E.sz + r) / E.sz = (i * E.sz + q) / E.sz := by rw [e]
        rw [Nat.mul_comm j, Nat.mul_comm i, Nat.mul_add_div O.pos, Nat.mul_add_div O.pos, Nat.div_eq_of_lt hr, Nat.div_eq_of_lt hq] at hd
        omega
      rw [if_neg hne, if_neg hij]
      exact hcell i hi q hq)
  rw [hlen] at this
  exact this
end Go.Proofs.Ytobpcfelgobedab

/- What one block of a graph of one's own goes to is written anew. -/
namespace Go.Proofs.Ytobpcfelgobedab
open Go.ChangeShapes Go.WideShapes Go.ChangeAt Go.RowKit
theorem RowAt.butneT {w w' : World} {B g b o : Nat} {n sz : Nat} {vs : Nat → Array Value} (h : RowAt w B (some ⟨b, o, none⟩) n sz vs) (hne : b ≠ g) (hb : But g w w') : RowAt w' B (some ⟨b, o, none⟩) n sz vs := by
  rcases h with h | ⟨b', o', ha, hB, hbl, hp, hc⟩
  · exact Or.inl h
  · cases ha
    have hk := hb.block b hbl hne
    refine Or.inr ⟨b, o, rfl, hB, Nat.lt_of_lt_of_le hbl hb.size, fun h0 => ?_, fun i hi => ⟨(hc i hi).1, fun j hj => ?_⟩⟩
    · obtain ⟨cs, T, h1⟩ := hp h0
      exact ⟨cs, T, hk.trans h1⟩
    · rw [World.cell?_of_block (a := ⟨b, o + i * sz + j, none⟩) hk]
      exact (hc i hi).2 j hj
theorem SlIs.butneT {w w' : World} {B g : Nat} {a : Option Addr} {xs : List Ins} (h : SlIs InsIs 7 w B a xs) (hne : 0 < xs.length → ∀ b o, a = some ⟨b, o, none⟩ → b ≠ g) (hb : But g w w') : SlIs InsIs 7 w' B a xs := by
  obtain ⟨hl, vs, hr, hx⟩ := h
  refine ⟨hl, vs, ?_, hx⟩
  by_cases h0 : xs.length = 0
  · exact Or.inl h0
  · rcases id hr with h1 | ⟨b, o, ha, _⟩
    · exact absurd h1 h0
    · subst ha
      exact hr.butneT (hne (by omega) b o rfl) hb
theorem IntsIs.butneT {w w' : World} {B g : Nat} {a : Option Addr} {zs : List Int} (h : IntsIs w B a zs) (hne : 0 < zs.length → ∀ b o, a = some ⟨b, o, none⟩ → b ≠ g) (hb : But g w w') : IntsIs w' B a zs := by
  obtain ⟨hl, h0 | ⟨b, o, ha, hB, hbl, hp, hc⟩⟩ := h
  · exact ⟨hl, Or.inl h0⟩
  · by_cases hz : zs.length = 0
    · exact ⟨hl, Or.inl hz⟩
    · have hk := hb.block b hbl (hne (by omega) b o ha)
      refine ⟨hl, Or.inr ⟨b, o, ha, hB, Nat.lt_of_lt_of_le hbl hb.size, fun h0 => ?_, fun i hi => ?_⟩⟩
      · obtain ⟨cs, T, h1⟩ := hp h0
        exact ⟨cs, T, hk.trans h1⟩
      · rw [World.cell?_of_block (a := ⟨b, o + i, none⟩) hk]
        exact hc i hi
theorem slice_injT {a b : Option Addr} {n m c d : Nat} (h : Value.slice a n c = Value.slice b m d) : a = b ∧ n = m ∧ c = d := by cases h; exact ⟨rfl, rfl, rfl⟩
theorem five_injT {a0 a1 a2 a3 a4 b0 b1 b2 b3 b4 : Value} (h : #[a0, a1, a2, a3, a4] = #[b0, b1, b2, b3, b4]) : a0 = b0 ∧ a4 = b4 := by simp at h; exact ⟨h.1, h.2.2.2.2⟩
/-- Where the code of block i lies. -/
theorem GOwn.codeAtT {W : World} {A : Nat} {v : Array Value} {y : Gr} {S : CRow} {gb : Nat} {cs : List CRow} (h : GrIs W A v y) (ow : GOwn W v S gb 0 cs) {i : Nat} (hic : i < cs.length) :
    ∃ us kS ub kB vs, v = #[.slice us y.sizes.length kS, .int .i64 y.params, .int .i64 y.vars, .int .i64 y.slots, .slice ub y.blocks.length kB] ∧ ub = some ⟨gb, 0, none⟩ ∧ (0 < y.sizes.length → us = some ⟨S.b, S.o, none⟩ ∧ 0 < S.n) ∧ IntsIs W A us y.sizes ∧ RowAt W A ub y.blocks.length 5 vs ∧ y.blocks.length ≤ maxLen ∧ y.wf ∧ (∀ (k : Nat) (hk : k < y.blocks.length) (hkc : k < cs.length), ∃ uc kc, vs k = #[.slice uc (y.blocks[k]).code.length kc, .int .i64 (y.blocks[k]).jump, .int .i64 (y.blocks[k]).a, .int .i64 (y.blocks[k]).to, .int .i64 (y.blocks[k]).els] ∧ (y.blocks[k]).wf ∧ SlIs InsIs 7 W A uc (y.blocks[k]).code ∧ cs[k].n = (y.blocks[k]).code.length ∧ (0 < (y.blocks[k]).code.length → uc = some ⟨cs[k].b, cs[k].o, none⟩)) := by
  obtain ⟨us, kS, ub, kB, rfl, ok, hs, hl, vs, hr, hx⟩ := h
  obtain ⟨ads, caps, p, q, r, adb, capb, hv, h1, h2⟩ := ow.val
  obtain ⟨e0, e4⟩ := five_injT hv
  obtain ⟨rfl, en, rfl⟩ := slice_injT e0
  obtain ⟨rfl, em, rfl⟩ := slice_injT e4
  have hub : ub = some ⟨gb, 0, none⟩ := by
    rcases h2 with h2 | h2
    · subst h2; simp at hic
    · exact h2
  refine ⟨us, kS, ub, kB, vs, rfl, hub, fun h0 => ?_, hs, hr, hl, ok, fun k hk hkc => ?_⟩
  · rcases h1 with h1 | h1
    · omega
    · exact ⟨h1, by omega⟩
  · obtain ⟨uc, kc, hvk, hw, hcode⟩ := hx k hk
    obtain ⟨ad, cap, hc, had⟩ := ow.codes.cell k hkc
    have hc2 : W.cell? ⟨gb, 0 + k * 5, none⟩ = (vs k)[0]? := by
      rcases hr with h0 | ⟨b', o', ha, _, _, _, hcc⟩
      · omega
      · rw [hub] at ha
        cases ha
        have := (hcc k hk).2 0 (by omega)
        simpa using this
    rw [hvk, hc] at hc2
    have hc3 : Value.slice ad cs[k].n cap = Value.slice uc (y.blocks[k]).code.length kc := by simpa using hc2
    obtain ⟨ea, en2, _⟩ := slice_injT hc3
    refine ⟨uc, kc, hvk, hw, hcode, en2, fun h0 => ?_⟩
    rcases had with had | had
    · omega
    · rw [← ea]; exact had
/-- Five cells of a row are written. -/
theorem put5T {W : World} {g p : Nat} {c : Array Value} {T : TypeId} (h : W.heap[g]? = some (.cells c T (0, 0))) (hp : p + 5 ≤ c.size) (v0 v1 v2 v3 v4 : Value) :
    ∃ c5 : Array Value, (((((W.setCell ⟨g, p, none⟩ v0).setCell ⟨g, p + 1, none⟩ v1).setCell ⟨g, p + 2, none⟩ v2).setCell ⟨g, p + 3, none⟩ v3).setCell ⟨g, p + 4, none⟩ v4).heap[g]? = some (.cells c5 T (0, 0)) ∧ c5.size = c.size ∧ (∀ j, j < p ∨ p + 5 ≤ j → c5[j]? = c[j]?) ∧ c5[p]? = some v0 ∧ c5[p + 1]? = some v1 ∧ c5[p + 2]? = some v2 ∧ c5[p + 3]? = some v3 ∧ c5[p + 4]? = some v4 := by
  have z0 := heap_setCell_same W g p c T v0 h
  have z1 := heap_setCell_same _ g (p + 1) _ T v1 z0
  have z2 := heap_setCell_same _ g (p + 2) _ T v2 z1
  have z3 := heap_setCell_same _ g (p + 3) _ T v3 z2
  have z4 := heap_setCell_same _ g (p + 4) _ T v4 z3
  refine ⟨_, z4, by simp, fun j hj => ?_, ?_, ?_, ?_, ?_, ?_⟩
  · simp only [Array.getElem?_setIfInBounds]
    rw [if_neg (by omega), if_neg (by omega), if_neg (by omega), if_neg (by omega), if_neg (by omega)]
  all_goals (simp only [Array.getElem?_setIfInBounds, Array.size_setIfInBounds]; simp; try omega)
theorem GrIs.turnT {W : World} {A : Nat} {v : Array Value} {y : Gr} {S : CRow} {gb : Nat} {cs : List CRow} (h : GrIs W A v y) (ow : GOwn W v S gb 0 cs) (hl : cs.length = y.blocks.length) {i : Nat} (hi : i < y.blocks.length) {t e : Int} (hw : (⟨(y.blocks[i]).code, (y.blocks[i]).jump, (y.blocks[i]).a, t, e⟩ : Blk).wf) {uc : Option Addr} {kc : Nat} (hc : W.cell? ⟨gb, i * 5, none⟩ = some (.slice uc (y.blocks[i]).code.length kc)) :
    GrIs (((((W.setCell ⟨gb, i * 5, none⟩ (.slice uc (y.blocks[i]).code.length kc)).setCell ⟨gb, i * 5 + 1, none⟩ (.int .i64 (y.blocks[i]).jump)).setCell ⟨gb, i * 5 + 2, none⟩ (.int .i64 (y.blocks[i]).a)).setCell ⟨gb, i * 5 + 3, none⟩ (.int .i64 t)).setCell ⟨gb, i * 5 + 4, none⟩ (.int .i64 e)) A v { y with blocks := y.blocks.set i ⟨(y.blocks[i]).code, (y.blocks[i]).jump, (y.blocks[i]).a, t, e⟩ } ∧
    GOwn (((((W.setCell ⟨gb, i * 5, none⟩ (.slice uc (y.blocks[i]).code.length kc)).setCell ⟨gb, i * 5 + 1, none⟩ (.int .i64 (y.blocks[i]).jump)).setCell ⟨gb, i * 5 + 2, none⟩ (.int .i64 (y.blocks[i]).a)).setCell ⟨gb, i * 5 + 3, none⟩ (.int .i64 t)).setCell ⟨gb, i * 5 + 4, none⟩ (.int .i64 e)) v S gb 0 cs ∧
    But gb W (((((W.setCell ⟨gb, i * 5, none⟩ (.slice uc (y.blocks[i]).code.length kc)).setCell ⟨gb, i * 5 + 1, none⟩ (.int .i64 (y.blocks[i]).jump)).setCell ⟨gb, i * 5 + 2, none⟩ (.int .i64 (y.blocks[i]).a)).setCell ⟨gb, i * 5 + 3, none⟩ (.int .i64 t)).setCell ⟨gb, i * 5 + 4, none⟩ (.int .i64 e)) := by
  have hic : i < cs.length := by omega
  have hne : cs ≠ [] := fun e => by subst e; simp at hic
  obtain ⟨cb, Tb, hcb, hcbs⟩ := ow.brow hne
  have hb : But gb W (((((W.setCell ⟨gb, i * 5, none⟩ (.slice uc (y.blocks[i]).code.length kc)).setCell ⟨gb, i * 5 + 1, none⟩ (.int .i64 (y.blocks[i]).jump)).setCell ⟨gb, i * 5 + 2, none⟩ (.int .i64 (y.blocks[i]).a)).setCell ⟨gb, i * 5 + 3, none⟩ (.int .i64 t)).setCell ⟨gb, i * 5 + 4, none⟩ (.int .i64 e)) := (((((But.refl gb W).set _ _).set _ _).set _ _).set _ _).set _ _
  obtain ⟨c5, h5, hz5, hout, n0, n1, n2, n3, n4⟩ := put5T hcb (p := i * 5) (by omega) (.slice uc (y.blocks[i]).code.length kc) (.int .i64 (y.blocks[i]).jump) (.int .i64 (y.blocks[i]).a) (.int .i64 t) (.int .i64 e)
  obtain ⟨us, kS, ub, kB, vs, rfl, rfl, hus, hs, hr, hlen, ok, hall⟩ := ow.codeAtT h hic
  generalize hW5 : (((((W.setCell ⟨gb, i * 5, none⟩ (.slice uc (y.blocks[i]).code.length kc)).setCell ⟨gb, i * 5 + 1, none⟩ (.int .i64 (y.blocks[i]).jump)).setCell ⟨gb, i * 5 + 2, none⟩ (.int .i64 (y.blocks[i]).a)).setCell ⟨gb, i * 5 + 3, none⟩ (.int .i64 t)).setCell ⟨gb, i * 5 + 4, none⟩ (.int .i64 e)) = W5 at *
  have hcell : ∀ j, (j < i * 5 ∨ i * 5 + 5 ≤ j) → W5.cell? ⟨gb, j, none⟩ = W.cell? ⟨gb, j, none⟩ := fun j hj => by
    simp only [World.cell?, h5, hcb]
    exact hout j hj
  have hc0 : cb[i * 5]? = some (.slice uc (y.blocks[i]).code.length kc) := by simpa [World.cell?, hcb] using hc
  have hcell0 : ∀ k, k < cs.length → W5.cell? ⟨gb, 0 + k * 5, none⟩ = W.cell? ⟨gb, 0 + k * 5, none⟩ := fun k hk => by
    by_cases e1 : k = i
    · subst e1
      rw [Nat.zero_add]
      simp only [World.cell?, h5, hcb]
      rw [n0, hc0]
    · exact hcell _ (by omega)
  obtain ⟨uc0, kc0, hv0, hwk0, hcode0, hn0, huc0⟩ := hall i hi hic
  have hbc : ∀ k (hk : k < y.blocks.length) (hkc : k < cs.length) (uc' : Option Addr), SlIs InsIs 7 W A uc' (y.blocks[k]).code → (0 < (y.blocks[k]).code.length → uc' = some ⟨cs[k].b, cs[k].o, none⟩) → cs[k].n = (y.blocks[k]).code.length → SlIs InsIs 7 W5 A uc' (y.blocks[k]).code := fun k hk hkc uc' hcode huc hnk => hcode.butneT (fun h0 b o e2 => by
    rw [huc h0] at e2
    cases e2
    exact ow.codes.own k hkc (by omega)) hb
  have hrow : ∀ k, k < y.blocks.length → ∀ j, j < 5 → W.cell? ⟨gb, k * 5 + j, none⟩ = (vs k)[j]? ∧ (vs k).size = 5 := fun k hk j hj => by
    rcases hr with h0 | ⟨b', o', ha, _, _, _, hcc⟩
    · omega
    · cases ha
      have := (hcc k hk).2 j hj
      exact ⟨by simpa using this, (hcc k hk).1⟩
  have huc : uc = uc0 ∧ kc = kc0 := by
    have := (hrow i hi 0 (by omega)).1
    rw [Nat.add_zero, hc, hv0] at this
    have e3 : Value.slice uc (y.blocks[i]).code.length kc = Value.slice uc0 (y.blocks[i]).code.length kc0 := by simpa using this
    obtain ⟨h1, _, h3⟩ := slice_injT e3
    exact ⟨h1, h3⟩
  obtain ⟨rfl, rfl⟩ := huc
  refine ⟨⟨us, kS, some ⟨gb, 0, none⟩, kB, by simp only [List.length_set], ok, ?_, ?_⟩, ?_, hb⟩
  · refine hs.butneT (fun h0 b o e => ?_) hb
    obtain ⟨e1, hsn⟩ := hus h0
    rw [e1] at e
    cases e
    exact ow.sb hsn hne
  · refine ⟨by simpa using hlen, fun k => if k = i then #[.slice uc (y.blocks[i]).code.length kc, .int .i64 (y.blocks[i]).jump, .int .i64 (y.blocks[i]).a, .int .i64 t, .int .i64 e] else vs k, ?_, fun k hk => ?_⟩
    · rcases hr with h0 | ⟨b, o, ha, hB, hbl, hp, hcc⟩
      · omega
      · cases ha
        simp only [List.length_set]
        refine Or.inr ⟨gb, 0, rfl, hB, Nat.lt_of_lt_of_le hbl hb.size, fun _ => ⟨_, _, h5⟩, fun k hk => ?_⟩
        by_cases e1 : k = i
        · subst e1
          refine ⟨by simp, fun j hj => ?_⟩
          simp only [if_pos, World.cell?, h5, Nat.zero_add]
          match j, hj with
          | 0, _ => simpa using n0
          | 1, _ => simpa using n1
          | 2, _ => simpa using n2
          | 3, _ => simpa using n3
          | 4, _ => simpa using n4
        · simp only [if_neg e1]
          exact ⟨(hcc k hk).1, fun j hj => by rw [hcell _ (by omega)]; exact (hcc k hk).2 j hj⟩
    · simp only [List.length_set] at hk
      by_cases e1 : i = k
      · subst e1
        rw [List.getElem_set_self]
        simp only [if_pos]
        exact ⟨_, _, rfl, hw, hbc i hi hic uc hcode0 huc0 hn0⟩
      · obtain ⟨uc', kc', hv, hwk, hcode, hnk, huc'⟩ := hall k hk (by omega)
        rw [List.getElem_set_ne e1]
        simp only [if_neg (fun e2 => e1 (Eq.symm e2))]
        exact ⟨uc', kc', hv, hwk, hbc k hk (by omega) uc' hcode huc' hnk⟩
  · exact {
      val := ow.val
      srow := fun h0 => by
        obtain ⟨c, T, h1, h2⟩ := ow.srow h0
        exact ⟨c, T, (hb.block _ (hltH h1) (ow.sb h0 hne)).trans h1, h2⟩
      brow := fun _ => ⟨_, _, h5, by omega⟩
      codes := {
        cell := fun k hk => by rw [hcell0 k hk]; exact ow.codes.cell k hk
        row := fun k hk h0 => by
          obtain ⟨c, T, h1, h2⟩ := ow.codes.row k hk h0
          exact ⟨c, T, (hb.block _ (hltH h1) (ow.codes.own k hk h0)).trans h1, h2⟩
        own := ow.codes.own
        dis := ow.codes.dis }
      sb := ow.sb
      sc := ow.sc }
end Go.Proofs.Ytobpcfelgobedab

/- The copy that spec.l04Copy has made, what one block of it goes to written anew. -/
namespace Go.Proofs.Ytobpcfelgobedab
open Go.ChangeShapes Go.WideShapes Go.ChangeAt Go.RowKit
theorem RDis.set {sa : Option Addr} {ns : Nat} {rows : List BRow} (h : RDis sa ns rows) {j : Nat} (hj : j < rows.length) {x' : BRow} (h1 : x'.1 = rows[j].1) (h2 : (x'.2.2).code.length = (rows[j].2.2).code.length) : RDis sa ns (rows.set j x') := by
  have cs : ∀ i (hi : i < (rows.set j x').length), ∃ hl : i < rows.length, ((rows.set j x')[i]).1 = rows[i].1 ∧ (((rows.set j x')[i]).2.2).code.length = (rows[i].2.2).code.length := fun i hi => by
    have hl : i < rows.length := by simpa using hi
    refine ⟨hl, ?_⟩
    by_cases e : j = i
    · subst e
      rw [List.getElem_set_self]
      exact ⟨h1, h2⟩
    · rw [List.getElem_set_ne e]
      exact ⟨rfl, rfl⟩
  refine ⟨fun i k hi hk hne p1 p2 b o b' o' e1 e2 => ?_, fun i hi hn p1 b o b' o' e1 e2 => ?_⟩
  · obtain ⟨li, a1, a2⟩ := cs i hi
    obtain ⟨lk, c1, c2⟩ := cs k hk
    rw [a2] at p1
    rw [c2] at p2
    rw [a1] at e1
    rw [c1] at e2
    exact h.two i k li lk hne p1 p2 b o b' o' e1 e2
  · obtain ⟨li, a1, a2⟩ := cs i hi
    rw [a2] at p1
    rw [a1] at e2
    exact h.szs i li hn p1 b o b' o' e1 e2
theorem CpAt.storeT {base : Nat} {x : Gr} {sa : Option Addr} {kS gq cq : Nat} {rows : List BRow} {W : World} (h : CpAt base x sa kS gq cq rows W) (d : RDis sa x.sizes.length rows) {j : Nat} (hj : j < x.blocks.length) (hjr : j < rows.length) {code : List Ins} {jump a t0 els : Int} (hcode : code = (x.blocks[j]).code) (hw : (⟨code, jump, a, t0, els⟩ : Blk).wf) :
    CpAt base { x with blocks := x.blocks.set j ⟨code, jump, a, t0, els⟩ } sa kS gq cq (rows.set j (rows[j].1, rows[j].2.1, ⟨code, jump, a, t0, els⟩)) (((((W.setCell ⟨gq, j * 5, none⟩ (.slice rows[j].1 code.length rows[j].2.1)).setCell ⟨gq, j * 5 + 1, none⟩ (.int .i64 jump)).setCell ⟨gq, j * 5 + 2, none⟩ (.int .i64 a)).setCell ⟨gq, j * 5 + 3, none⟩ (.int .i64 t0)).setCell ⟨gq, j * 5 + 4, none⟩ (.int .i64 els)) ∧ RDis sa x.sizes.length (rows.set j (rows[j].1, rows[j].2.1, ⟨code, jump, a, t0, els⟩)) := by
  obtain ⟨h1, h2, h3⟩ := h.code j hjr
  rw [getElem!_pos x.blocks j hj] at h1
  have hc1 : (rows[j].2.2).code = code := by rw [h1]; exact hcode.symm
  have hb : But gq W (((((W.setCell ⟨gq, j * 5, none⟩ (.slice rows[j].1 code.length rows[j].2.1)).setCell ⟨gq, j * 5 + 1, none⟩ (.int .i64 jump)).setCell ⟨gq, j * 5 + 2, none⟩ (.int .i64 a)).setCell ⟨gq, j * 5 + 3, none⟩ (.int .i64 t0)).setCell ⟨gq, j * 5 + 4, none⟩ (.int .i64 els)) := ((((But.refl gq W).set _ _).set _ _).set _ _).set _ _ |>.set _ _
  refine ⟨⟨?_, ?_, h.wf, h.szs.butneT h.szne hb, h.szne, fun i hi => ?_, fun i hi h0 => ?_⟩, d.set hjr rfl (by rw [hc1])⟩
  · have s0 := OwnE.setR BlE_ok h.own hjr (r := 0) (by decide) (u := .slice rows[j].1 code.length rows[j].2.1) (x' := rows[j]) (by simp only [BlE]; rw [hc1]; rfl)
    have l0 : j < (rows.set j rows[j]).length := by rw [List.length_set]; exact hjr
    have s1 := OwnE.setR BlE_ok s0 l0 (r := 1) (by decide) (u := .int .i64 jump) (x' := (rows[j].1, rows[j].2.1, { rows[j].2.2 with jump := jump })) (by rw [List.getElem_set_self]; rfl)
    rw [List.set_set] at s1
    have l1 : j < (rows.set j (rows[j].1, rows[j].2.1, { rows[j].2.2 with jump := jump })).length := by rw [List.length_set]; exact hjr
    have s2 := OwnE.setR BlE_ok s1 l1 (r := 2) (by decide) (u := .int .i64 a) (x' := (rows[j].1, rows[j].2.1, { rows[j].2.2 with jump := jump, a := a })) (by rw [List.getElem_set_self]; rfl)
    rw [List.set_set] at s2
    have l2 : j < (rows.set j (rows[j].1, rows[j].2.1, { rows[j].2.2 with jump := jump, a := a })).length := by rw [List.length_set]; exact hjr
    have s3 := OwnE.setR BlE_ok s2 l2 (r := 3) (by decide) (u := .int .i64 t0) (x' := (rows[j].1, rows[j].2.1, ⟨(rows[j].2.2).code, jump, a, t0, (rows[j].2.2).els⟩)) (by rw [List.getElem_set_self]; rfl)
    rw [List.set_set] at s3
    have l3 : j < (rows.set j (rows[j].1, rows[j].2.1, ⟨(rows[j].2.2).code, jump, a, t0, (rows[j].2.2).els⟩)).length := by rw [List.length_set]; exact hjr
    have s4 := OwnE.setR BlE_ok s3 l3 (r := 4) (by decide) (u := .int .i64 els) (x' := (rows[j].1, rows[j].2.1, ⟨code, jump, a, t0, els⟩)) (by rw [List.getElem_set_self]; simp only [BlE]; rw [hc1]; rfl)
    rw [List.set_set] at s4
    simp only [List.length_set]
    exact s4
  · rw [List.length_set, List.length_set]; exact h.len
  · rw [List.length_set] at hi
    have hib : i < x.blocks.length := by rw [← h.len]; exact hi
    rw [getElem!_pos (x.blocks.set j _) i (by rw [List.length_set]; exact hib)]
    by_cases e : j = i
    · subst e
      rw [List.getElem_set_self, List.getElem_set_self]
      refine ⟨rfl, hw, ?_⟩
      have := h3.butneT (h.cone j hjr) hb
      rw [hc1] at this
      exact this
    · rw [List.getElem_set_ne e, List.getElem_set_ne e]
      obtain ⟨k1, k2, k3⟩ := h.code i hi
      rw [getElem!_pos x.blocks i hib] at k1
      exact ⟨k1, k2, k3.butneT (h.cone i hi) hb⟩
  · rw [List.length_set] at hi
    by_cases e : j = i
    · subst e
      rw [List.getElem_set_self] at h0 ⊢
      exact h.cone j hjr (by rw [hc1]; exact h0)
    · rw [List.getElem_set_ne e] at h0 ⊢
      exact h.cone i hi h0
theorem CpAt.grT {base : Nat} {x : Gr} {sa : Option Addr} {kS gq cq : Nat} {rows : List BRow} {W : World} (h : CpAt base x sa kS gq cq rows W) (hl : x.blocks.length ≤ maxLen) : GrIs W base #[.slice sa x.sizes.length kS, .int .i64 x.params, .int .i64 x.vars, .int .i64 x.slots, .slice (some ⟨gq, 0, none⟩) x.blocks.length cq] x := by
  refine ⟨sa, kS, _, cq, rfl, h.wf, h.szs, hl, ?_⟩
  obtain ⟨g', cap, cur, hv, hB', hh, _, _, _, hx⟩ := h.own.parts BlE_ok
  injection hv with e1
  injection e1 with e1
  injection e1 with e1
  subst e1
  have hlen := h.len
  refine ⟨fun i => (BlE.cs (rows[i]!)).toArray, Or.inr ⟨gq, 0, rfl, hB', hltH hh, fun _ => ⟨cur, _, hh⟩, fun i hi => ⟨rfl, fun j hj => ?_⟩⟩, fun i hi => ?_⟩
  · have := hx i (by omega) j hj
    simp only [World.cell?, hh, Nat.zero_add, getElem!_pos rows i (show i < rows.length by omega)]
    rw [show BlE.sz = 5 from rfl] at this
    simpa using this
  · have hi' : i < rows.length := by omega
    obtain ⟨h1, h2, h3⟩ := h.code i hi'
    rw [getElem!_pos x.blocks i hi] at h1
    simp only [getElem!_pos rows i hi']
    rw [← h1]
    exact ⟨_, _, rfl, h2, h3⟩
end Go.Proofs.Ytobpcfelgobedab
