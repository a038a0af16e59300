/- A change of a graph: one row of steps, cut for each block: plain, and how it lies in memory. -/
import Derived.Test.YtjmclmbepnbeoaaFldPG
import Derived.Test.YtjmclmbepnbeoaaMksW
import Derived.Test.YtjmclmbepnbeoaaCpyAll
import Derived.Test.YtjmclmbepnbeoaaOwnA
import Derived.Test.YtjmclmbepnbeoaaWgtA
import Derived.ArgAppend
import Derived.Test.YtjmclmbepnbeoaaUseA
import Derived.Test.YtjmclmbepnbeoaaCelB
import Derived.Test.YtjmclmbepnbeoaaCpR
import Derived.Test.YtjmclmbepnbeoaaShD
namespace Go.Proofs.Ytjmclmbepnbeoaa
open Go.ChangeShapes Go.WideShapes Go.ChangeAt Go.RowKit
/-- The answer is the graph x, its own memory alone; its codes may lie in one block. -/
def MadeGrW (w : World) (x : Gr) (en : Ending) (w' : World) : Prop := ∃ v' S b cs, en = .returned (.agg v') ∧ GrIs w' w.heap.size v' x ∧ GOwnW w' v' S b 0 cs ∧ (∀ c ∈ grL S b 0 cs, w.heap.size ≤ c.1 ∧ c.1 < w'.heap.size) ∧ S.n = x.sizes.length ∧ cs.length = x.blocks.length ∧ (∀ i (h : i < cs.length), cs[i].n = (x.blocks[i]!).code.length) ∧ Below w.heap.size w w'
theorem MadeGr.weak {w : World} {x : Gr} {en : Ending} {w' : World} (h : MadeGr w x en w') : MadeGrW w x en w' :=
  let ⟨v', S, b, cs, h1, h2, h3, h4⟩ := h
  ⟨v', S, b, cs, h1, h2, h3.weak, h4⟩
section
variable {σ : Type}
/-- What a change makes of a block. -/
def chB (f : σ → Ins → σ × Ins) (s0 : σ) (jf : σ → Blk → Blk) (b : Blk) : Blk := { jf (scanUp f s0 b.code b.code.length).1 b with code := (scanUp f s0 b.code b.code.length).2 }
theorem chB_len (f : σ → Ins → σ × Ins) (s0 : σ) (jf : σ → Blk → Blk) (b : Blk) : (chB f s0 jf b).code.length = b.code.length := scanUp_len _ (Nat.le_refl _)
end
theorem codeAll_map {g : Blk → Blk} (h : ∀ b, (g b).code.length = b.code.length) : ∀ bs : List Blk, (codeAll (bs.map g)).length = (codeAll bs).length
  | [] => rfl
  | b :: bs => by
    have := codeAll_map h bs
    unfold codeAll at this ⊢
    rw [List.map_cons, List.flatMap_cons, List.flatMap_cons, List.length_append, List.length_append, h b, this]
theorem codeAll_mono (bs : List Blk) {i j : Nat} (h : i ≤ j) : (codeAll (bs.take i)).length ≤ (codeAll (bs.take j)).length := by
  have e : bs.take i = (bs.take j).take i := by rw [List.take_take, Nat.min_eq_left h]
  rw [e]
  unfold codeAll
  conv => rhs; rw [← List.take_append_drop i (bs.take j), List.flatMap_append, List.length_append]
  omega
theorem codeAll_split (bs : List Blk) (k : Nat) (h : k < bs.length) : ∃ R, codeAll bs = codeAll (bs.take k) ++ (bs[k].code ++ R) := by
  refine ⟨codeAll (bs.drop (k + 1)), ?_⟩
  unfold codeAll
  conv => lhs; rw [← List.take_append_drop k bs, List.flatMap_append, List.drop_eq_getElem_cons h, List.flatMap_cons]
section
variable {α : Type} {E : Elem α}
/-- An append where there is room. -/
theorem run_appRm (O : E.Ok) {w : World} {B g n cap : Nat} {l : List α} {x : α} {b o cap2 : Nat} (ty : TypeId) (h1 : OwnE E w B (.slice (some ⟨g, 0, none⟩) n cap) l) (hnl : n = l.length) (h2 : ∀ r, r < E.sz → w.cell? ⟨b, o + r, none⟩ = (E.cs x)[r]?) (hroom : l.length + 1 ≤ cap) (hn : l.length + 1 ≤ 8000000) (hB : B ≤ w.heap.size) :
    ∃ w', (Builtin.append_ #[E.ST, E.ST] ty #[.slice (some ⟨g, 0, none⟩) n cap, .slice (some ⟨b, o, none⟩) 1 cap2]).run Try.prog w = .ok (.slice (some ⟨g, 0, none⟩) (n + 1) cap) w' ∧ OwnE E w' B (.slice (some ⟨g, 0, none⟩) (n + 1) cap) (l ++ [x]) ∧ But g w w' := by
  subst hnl
  obtain ⟨v', w', hr, o1, gr, _⟩ := run_appE O (cap2 := cap2) ty h1 h2 hn hB
  obtain ⟨i0, hi, hz0, hz1, hz2⟩ := info_parts O.info
  obtain ⟨g', cap', cur, hv, _, hh, hc, _, hs, _⟩ := h1.parts O
  cases hv
  have hlt : ∀ j, j < (E.cs x).length → 0 + l.length * i0.size + j < cur.size := fun j hj => by
    rw [O.len] at hj
    rw [hz1, hs]
    have := mul_stepE l.length cap E.sz (by omega)
    omega
  have hr2 := run_append_room_cells (P := Try.prog) (w := w) E.ST ty E.T i0 O.und hi g 0 l.length cap ⟨b, o, none⟩ 1 cap2 (E.cs x) (by rw [O.len, hz1]; omega) (fun j u hj => by rw [addr_add', h2 j (by have := (List.getElem?_eq_some_iff.1 hj).1; rwa [O.len] at this), hj]) (O.one x) hroom (fun j hj => by rw [(cells_of hh).1, Array.getElem?_eq_getElem (hlt j hj)]; rfl) (fun j _ => (cells_of hh).2 _)
  rw [hr] at hr2
  injection hr2 with e1 e2
  subst e1
  exact ⟨w', hr, o1, ⟨gr.os, gr.tape, gr.output, gr.size, fun k hk hne => gr.block k hk (by simp only [Value.ownBlock]; intro e; exact hne (by simpa using e))⟩⟩
theorem list_appRm (O : E.Ok) {ops : Array Oper} {o : Oper} {a : Act} {Q : Exit → Act → World → Prop} {rest : List Oper} (w : World) (hgd : o.guard = none) (s y : Operand) (ho : o.op = .call { callee := .builtin .append, args := #[s, y], argTypes := #[E.ST, E.ST] })
    (B g n cap : Nat) (l1 : List α) (x : α) (b o2 cap2 : Nat) (hs : a.eval s = .slice (some ⟨g, 0, none⟩) n cap) (hx : a.eval y = .slice (some ⟨b, o2, none⟩) 1 cap2) (h1 : OwnE E w B (.slice (some ⟨g, 0, none⟩) n cap) l1) (hnl : n = l1.length) (h2 : ∀ r, r < E.sz → w.cell? ⟨b, o2 + r, none⟩ = (E.cs x)[r]?) (hroom : l1.length + 1 ≤ cap) (hn : l1.length + 1 ≤ 8000000) (hB : B ≤ w.heap.size)
    (h : ∀ w', OwnE E w' B (.slice (some ⟨g, 0, none⟩) (n + 1) cap) (l1 ++ [x]) → But g w w' → wpList Try.prog ops Q rest (a.put o.dst (.slice (some ⟨g, 0, none⟩) (n + 1) cap)) w') :
    wpList Try.prog ops Q (o :: rest) a w := by
  refine wpList_plain hgd fun K hK => ?_
  obtain ⟨w', hr, r1, r2⟩ := run_appRm O (cap2 := cap2) o.type h1 hnl h2 hroom hn hB
  unfold Oper.wp execOp
  simp only [ho, resolve, invoke, builtin, Sem.run_bind, Sem.run_pure, Result.andThen_ok, List.map_toArray, List.map_cons, List.map_nil, hs, hx, hr]
  exact hK _ _ (h w' r1 r2)
end
theorem But.next {gb m : Nat} {Wb W W' : World} (h : But gb Wb W) (hb : But m W W') (hm : Wb.heap.size ≤ m) : But gb Wb W' := ⟨hb.os.trans h.os, hb.tape.trans h.tape, hb.output.trans h.output, Nat.le_trans h.size hb.size, fun k hk hne => (hb.block k (Nat.lt_of_lt_of_le hk h.size) (by omega)).trans (h.block k hk hne)⟩
theorem But.same {gb : Nat} {Wb W W' : World} (h : But gb Wb W) (hb : But gb W W') : But gb Wb W' := ⟨hb.os.trans h.os, hb.tape.trans h.tape, hb.output.trans h.output, Nat.le_trans h.size hb.size, fun k hk hne => (hb.block k (Nat.lt_of_lt_of_le hk h.size) hne).trans (h.block k hk hne)⟩
theorem But.belowN {gb : Nat} {Wb W W' : World} (h : But gb Wb W) (hb : Below W.heap.size W W') : But gb Wb W' := ⟨hb.os.trans h.os, hb.tape.trans h.tape, hb.output.trans h.output, Nat.le_trans h.size hb.size, fun k hk hne => (hb.block k (Nat.lt_of_lt_of_le hk h.size)).trans (h.block k hk hne)⟩
theorem cellQ {W : World} {g i j : Nat} {c : Array Value} {T : TypeId} {u : Value} (h : W.heap[g]? = some (.cells c T (0, 0))) : (W.setCell ⟨g, i, none⟩ u).cell? ⟨g, j, none⟩ = if i = j then (if i < c.size then some u else none) else W.cell? ⟨g, j, none⟩ := by
  have h2 := heap_setCell_same W g i c _ u h
  simp only [World.cell?, h2, h]
  exact Array.getElem?_setIfInBounds
/-- Between two rounds: the copy's blocks stand as g tells, the row of steps has L; of the rest nothing was written. -/
structure ChAt (Wb : World) (gb SB tot nb : Nat) (g : Nat → Array Value) (L : List Ins) (W : World) : Prop where
  kp : But gb Wb W
  pl : ∃ c T, W.heap[gb]? = some (.cells c T (0, 0)) ∧ nb * 5 ≤ c.size
  row : ∀ k, k < nb → ∀ r, r < 5 → W.cell? ⟨gb, k * 5 + r, none⟩ = (g k)[r]?
  st : OwnE InE W Wb.heap.size (.slice (some ⟨SB, 0, none⟩) L.length tot) L
section
variable {Wb W W' : World} {gb SB tot nb : Nat} {g : Nat → Array Value} {L L' : List Ins}
theorem ChAt.sb (h : ChAt Wb gb SB tot nb g L W) : Wb.heap.size ≤ SB ∧ SB < W.heap.size := h.st.low SB rfl
theorem ChAt.lt (h : ChAt Wb gb SB tot nb g L W) : gb < W.heap.size := let ⟨_, _, h1, _⟩ := h.pl; (Array.getElem?_eq_some_iff.1 h1).1
theorem ChAt.move (h : ChAt Wb gb SB tot nb g L W) (hk : But gb Wb W') (hb : W'.heap[gb]? = W.heap[gb]?) (hs : OwnE InE W' Wb.heap.size (.slice (some ⟨SB, 0, none⟩) L'.length tot) L') : ChAt Wb gb SB tot nb g L' W' := by
  obtain ⟨c, T, h1, h2⟩ := h.pl
  exact ⟨hk, ⟨c, T, hb.trans h1, h2⟩, fun k hk r hr => (World.cell?_of_block (a := ⟨gb, k * 5 + r, none⟩) hb).trans (h.row k hk r hr), hs⟩
theorem ChAt.stays (h : ChAt Wb gb SB tot nb g L W) (b : Below W.heap.size W W') : ChAt Wb gb SB tot nb g L W' :=
  h.move (h.kp.belowN b) (b.block _ h.lt) (h.st.stays b)
theorem ChAt.other (h : ChAt Wb gb SB tot nb g L W) {m : Nat} (b : But m W W') (hm : Wb.heap.size ≤ m) (hg : gb < Wb.heap.size) (hs : m ≠ SB) : ChAt Wb gb SB tot nb g L W' :=
  h.move (h.kp.next b hm) (b.block _ h.lt (by omega)) (h.st.butG b (fun e => hs (by simpa [Value.ownBlock] using e.symm)))
theorem ChAt.app (h : ChAt Wb gb SB tot nb g L W) (b : But SB W W') (hg : gb < Wb.heap.size) {x : Ins} {n : Nat} (hn : n = L.length) (hs : OwnE InE W' Wb.heap.size (.slice (some ⟨SB, 0, none⟩) (n + 1) tot) (L ++ [x])) : ChAt Wb gb SB tot nb g (L ++ [x]) W' := by
  have := h.sb
  refine h.move (h.kp.next b this.1) (b.block _ h.lt (by omega)) ?_
  rw [List.length_append, List.length_singleton, ← hn]; exact hs
/-- One cell of block i is written. -/
theorem ChAt.put1 (h : ChAt Wb gb SB tot nb g L W) (hg : gb < Wb.heap.size) {i r0 : Nat} (hi : i < nb) (hr0 : r0 < 5) (u : Value) {g' : Nat → Array Value} (h1 : ∀ k, k < nb → k ≠ i → g' k = g k) (h2 : ∀ r, r < 5 → (g' i)[r]? = if r = r0 then some u else (g i)[r]?) : ChAt Wb gb SB tot nb g' L (W.setCell ⟨gb, i * 5 + r0, none⟩ u) := by
  have hsb := h.sb
  have hb : But gb W (W.setCell ⟨gb, i * 5 + r0, none⟩ u) := (But.refl gb W).set _ _
  obtain ⟨c, T, p1, p2⟩ := h.pl
  have hnb : (Value.slice (some ⟨SB, 0, none⟩) L.length tot).ownBlock ≠ some gb := fun e => by
    have e2 : SB = gb := by simpa [Value.ownBlock] using e
    omega
  refine ⟨h.kp.same hb, ⟨_, _, heap_setCell_same W gb (i * 5 + r0) c _ u p1, by simpa using p2⟩, fun k hk r hr => ?_, h.st.butG hb hnb⟩
  rw [cellQ p1]
  by_cases e : k = i
  · subst e
    rw [h2 r hr]
    by_cases er : r = r0
    · subst er
      rw [if_pos rfl, if_pos (by omega), if_pos rfl]
    · rw [if_neg (by omega), if_neg er]
      exact h.row k hk r hr
  · rw [if_neg (by omega), h1 k hk e]
    exact h.row k hk r hr
/-- Block i is written whole. -/
theorem ChAt.put5 (h : ChAt Wb gb SB tot nb g L W) (hg : gb < Wb.heap.size) {i : Nat} (hi : i < nb) (hs : (g i).size = 5) (v0 v1 v2 v3 v4 : Value) : ChAt Wb gb SB tot nb (fun k => if k = i then #[v0, v1, v2, v3, v4] else g k) L (((((W.setCell ⟨gb, i * 5, none⟩ v0).setCell ⟨gb, i * 5 + 1, none⟩ v1).setCell ⟨gb, i * 5 + 2, none⟩ v2).setCell ⟨gb, i * 5 + 3, none⟩ v3).setCell ⟨gb, i * 5 + 4, none⟩ v4) := by
  obtain ⟨a0, a1, a2, a3, a4, hg5⟩ : ∃ a0 a1 a2 a3 a4, g i = #[a0, a1, a2, a3, a4] := by
    match hgi : g i, hs with
    | ⟨[a0, a1, a2, a3, a4]⟩, _ => exact ⟨a0, a1, a2, a3, a4, rfl⟩
  have c0 := h.put1 hg hi (r0 := 0) (by omega) v0 (g' := fun k => if k = i then #[v0, a1, a2, a3, a4] else g k) (fun k _ hne => if_neg hne) (fun r hr => by
    simp only [if_true, hg5]
    match r, hr with
    | 0, _ | 1, _ | 2, _ | 3, _ | 4, _ => rfl)
  have c1 := c0.put1 hg hi (r0 := 1) (by omega) v1 (g' := fun k => if k = i then #[v0, v1, a2, a3, a4] else g k) (fun k _ hne => by simp only [if_neg hne]) (fun r hr => by
    simp only [if_true]
    match r, hr with
    | 0, _ | 1, _ | 2, _ | 3, _ | 4, _ => rfl)
  have c2 := c1.put1 hg hi (r0 := 2) (by omega) v2 (g' := fun k => if k = i then #[v0, v1, v2, a3, a4] else g k) (fun k _ hne => by simp only [if_neg hne]) (fun r hr => by
    simp only [if_true]
    match r, hr with
    | 0, _ | 1, _ | 2, _ | 3, _ | 4, _ => rfl)
  have c3 := c2.put1 hg hi (r0 := 3) (by omega) v3 (g' := fun k => if k = i then #[v0, v1, v2, v3, a4] else g k) (fun k _ hne => by simp only [if_neg hne]) (fun r hr => by
    simp only [if_true]
    match r, hr with
    | 0, _ | 1, _ | 2, _ | 3, _ | 4, _ => rfl)
  exact c3.put1 hg hi (r0 := 4) (by omega) v4 (g' := fun k => if k = i then #[v0, v1, v2, v3, v4] else g k) (fun k _ hne => by simp only [if_neg hne]) (fun r hr => by
    simp only [if_true]
    match r, hr with
    | 0, _ | 1, _ | 2, _ | 3, _ | 4, _ => rfl)
end
/-- The cells of a block that is done: its list is cut out of the row. -/
def NewAt (SB off n : Nat) (b : Blk) (v : Array Value) : Prop := ∃ ad cap, v = #[.slice ad n cap, .int .i64 b.jump, .int .i64 b.a, .int .i64 b.to, .int .i64 b.els] ∧ (n = 0 ∨ ad = some ⟨SB, off * 7, none⟩)
/-- All blocks are done: what has been made is the graph. -/
theorem ChAt.made {Wb W : World} {B0 gb SB tot : Nat} {g : Nat → Array Value} {news : List Blk} {x : Gr} {us : Option Addr} {kS kB : Nat} {S : CRow} {cs : List CRow}
    (h : ChAt Wb gb SB tot news.length g (codeAll news) W) (hl : news.length = x.blocks.length) (hpos : 0 < news.length) (hm : news.length ≤ 300) (htot : (codeAll news).length ≤ tot) (hcl : (codeAll news).length ≤ 1000)
    (gr : GrIs Wb B0 #[.slice us x.sizes.length kS, .int .i64 x.params, .int .i64 x.vars, .int .i64 x.slots, .slice (some ⟨gb, 0, none⟩) x.blocks.length kB] x) (ow : GOwn Wb #[.slice us x.sizes.length kS, .int .i64 x.params, .int .i64 x.vars, .int .i64 x.slots, .slice (some ⟨gb, 0, none⟩) x.blocks.length kB] S gb 0 cs)
    (lo : ∀ c ∈ grL S gb 0 cs, B0 ≤ c.1 ∧ c.1 < Wb.heap.size) (hsn : S.n = x.sizes.length) (hcs : cs.length = x.blocks.length) (hB0 : B0 ≤ Wb.heap.size)
    (hnew : ∀ k (hk : k < news.length), NewAt SB (codeAll (news.take k)).length news[k].code.length news[k] (g k)) (hwf : ∀ k (hk : k < news.length), news[k].wf ∧ ∀ z ∈ news[k].code, z.wf ∧ z.t.size ≤ maxLen) :
    ∃ cs', GrIs W B0 #[.slice us x.sizes.length kS, .int .i64 x.params, .int .i64 x.vars, .int .i64 x.slots, .slice (some ⟨gb, 0, none⟩) x.blocks.length kB] { x with blocks := news } ∧ GOwnW W #[.slice us x.sizes.length kS, .int .i64 x.params, .int .i64 x.vars, .int .i64 x.slots, .slice (some ⟨gb, 0, none⟩) x.blocks.length kB] S gb 0 cs' ∧ (∀ c ∈ grL S gb 0 cs', B0 ≤ c.1 ∧ c.1 < W.heap.size) ∧ cs'.length = news.length ∧ ∀ i (h : i < cs'.length), cs'[i].n = (news[i]!).code.length := by
  have hne : cs ≠ [] := fun e => by rw [e] at hcs; simp at hcs; omega
  have hsb := h.sb
  obtain ⟨m1, m2, m3⟩ := ow.mem
  have hgb : B0 ≤ gb ∧ gb < Wb.heap.size := let ⟨_, hp⟩ := m2 hne; lo _ hp
  have hSn : 0 < S.n → B0 ≤ S.b ∧ S.b < Wb.heap.size := fun hn => lo _ (m1 hn)
  obtain ⟨g', cap', cur, hv, _, hh, hc, hcm, hs, hx⟩ := h.st.parts InOk
  cases hv
  simp only [show InE.sz = 7 from rfl] at hs hx
  have cf : ∀ k (hk : k < news.length), CodeF W SB ((codeAll (news.take k)).length * 7) news[k].code := fun k hk => by
    obtain ⟨R, hR⟩ := codeAll_split news k hk
    have hle : (codeAll (news.take k)).length + news[k].code.length ≤ (codeAll news).length := by rw [hR]; simp only [List.length_append]; omega
    refine ⟨cur, _, hh, by omega, fun j hj r hr => ?_⟩
    have hj2 : (codeAll (news.take k)).length + j < (codeAll news).length := by omega
    have := hx ((codeAll (news.take k)).length + j) hj2 r hr
    have e : (codeAll news)[(codeAll (news.take k)).length + j] = news[k].code[j] := by
      simp only [hR]
      rw [List.getElem_append_right (by omega)]
      simp only [Nat.add_sub_cancel_left]
      rw [List.getElem_append_left hj]
    rw [e] at this
    rw [show (codeAll (news.take k)).length * 7 + j * 7 + r = ((codeAll (news.take k)).length + j) * 7 + r by omega, this]
    simp only [getElem!_pos news[k].code j hj]
    match r, hr with
    | 0, _ | 1, _ | 2, _ | 3, _ | 4, _ | 5, _ | 6, _ => rfl
  have hml : news.length ≤ maxLen := by unfold maxLen; omega
  have each : ∀ k (hk : k < news.length), ∃ ad cap, g k = #[.slice ad news[k].code.length cap, .int .i64 news[k].jump, .int .i64 news[k].a, .int .i64 news[k].to, .int .i64 news[k].els] ∧ (news[k].code.length = 0 ∨ ad = some ⟨SB, (codeAll (news.take k)).length * 7, none⟩) ∧ SlIs InsIs 7 W B0 ad news[k].code := fun k hk => by
    obtain ⟨ad, cap, e1, e2⟩ := hnew k hk
    have hlk : news[k].code.length ≤ maxLen := by
      obtain ⟨R, hR⟩ := codeAll_split news k hk
      have : news[k].code.length ≤ (codeAll news).length := by rw [hR]; simp only [List.length_append]; omega
      unfold maxLen; omega
    refine ⟨ad, cap, e1, e2, ?_⟩
    rcases e2 with e2 | e2
    · refine ⟨hlk, fun _ => #[], Or.inl e2, fun i hi => ?_⟩
      omega
    · rw [e2]
      exact (cf k hk).is (by omega) hlk (hwf k hk).2
  obtain ⟨us', kS', ub', kB', hv', hw, hsz, hbl⟩ := gr
  have e5 := five_inj hv'
  obtain ⟨rfl, _, rfl⟩ := slice_inj e5.1
  have hgl := h.lt
  refine ⟨(List.range news.length).map fun k => ⟨SB, (codeAll (news.take k)).length * 7, ((news[k]?).map (fun b => b.code.length)).getD 0⟩, ?_, ?_, ?_, by simp, fun i hi => ?_⟩
  · refine ⟨us, kS, some ⟨gb, 0, none⟩, kB, by simp only [hl], hw, hsz.butne (fun h0 b o e => ?_) h.kp, ⟨hml, g, Or.inr ⟨gb, 0, rfl, hgb.1, hgl, fun _ => ?_, fun k hk => ⟨?_, fun r hr => ?_⟩⟩, fun k hk => ?_⟩⟩
    · obtain ⟨ads, caps, p, q, r, adb, capb, hv2, ha, _⟩ := ow.val
      have e6 := slice_inj (five_inj hv2).1
      have hn : 0 < S.n := by rw [hsn]; exact h0
      rw [e6.1, ha.resolve_left (by omega)] at e
      cases e
      exact ow.sb hn hne
    · obtain ⟨c, T, p1, _⟩ := h.pl
      exact ⟨c, T, p1⟩
    · obtain ⟨ad, cap, e1, _⟩ := each k hk
      rw [e1]; rfl
    · have := h.row k hk r hr
      simpa using this
    · obtain ⟨ad, cap, e1, e2, e3⟩ := each k hk
      exact ⟨ad, cap, e1, (hwf k hk).1, e3⟩
  · have gk : ∀ k (hk : k < news.length), ((news[k]?).map (fun b => b.code.length)).getD 0 = news[k].code.length := fun k hk => by rw [List.getElem?_eq_getElem hk]; rfl
    obtain ⟨ads, caps, p, q, r, adb, capb, hv2, hv3, hv4⟩ := ow.val
    obtain ⟨c0, T0, p1, p2⟩ := h.pl
    exact {
      val := ⟨ads, caps, p, q, r, adb, capb, by rw [hv2]; simp only [List.length_map, List.length_range, hcs, hl], hv3, Or.inr (hv4.resolve_left hne)⟩
      srow := fun h0 => by
        obtain ⟨c, T, h1, h2⟩ := ow.srow h0
        exact ⟨c, T, (h.kp.block _ (hSn h0).2 (ow.sb h0 hne)).trans h1, h2⟩
      brow := fun _ => ⟨c0, T0, p1, by simp; omega⟩
      codes := {
        cell := fun k hk => by
          have hk' : k < news.length := by simpa using hk
          obtain ⟨ad, cap, e1, e2, _⟩ := each k hk'
          have := h.row k hk' 0 (by omega)
          rw [e1] at this
          simp only [List.getElem_map, List.getElem_range, gk k hk', Nat.zero_add]
          exact ⟨ad, cap, this, e2⟩
        row := fun k hk _ => by
          have hk' : k < news.length := by simpa using hk
          simp only [List.getElem_map, List.getElem_range, gk k hk']
          obtain ⟨R, hR⟩ := codeAll_split news k hk'
          have hle : (codeAll (news.take k)).length + news[k].code.length ≤ (codeAll news).length := by rw [hR]; simp only [List.length_append]; omega
          exact ⟨cur, _, hh, by omega⟩
        own := fun k hk _ => by
          simp only [List.getElem_map]
          omega
        dis := fun i j hi hj hij _ _ => by
          have hi' : i < news.length := by simpa using hi
          have hj' : j < news.length := by simpa using hj
          simp only [List.getElem_map, List.getElem_range, gk i hi', gk j hj']
          right
          by_cases hlt : i < j
          · left
            have h1 := codeAll_mono news (show i + 1 ≤ j from hlt)
            rw [codeAll_take news i hi', List.length_append] at h1
            omega
          · right
            have h1 := codeAll_mono news (show j + 1 ≤ i by omega)
            rw [codeAll_take news j hj', List.length_append] at h1
            omega }
      sb := fun h0 _ => ow.sb h0 hne
      sc := fun h0 k hk _ => by
        simp only [List.getElem_map]
        have := (hSn h0).2
        omega }
  · rintro ⟨b', o', t⟩ hc
    simp only
    rcases List.mem_append.1 hc with hc | hc
    · have hmm := intL_mem hc
      have hn : 0 < S.n := by omega
      have := hSn hn
      have := h.kp.size
      omega
    · rcases blksL_mem hc with ⟨i, hi, e, hn⟩ | ⟨e, i, hi, _⟩
      · simp only [List.getElem_map] at e
        omega
      · have := h.kp.size
        omega
  · have hi' : i < news.length := by simpa using hi
    simp only [List.getElem_map, List.getElem_range]
    rw [List.getElem?_eq_getElem hi', getElem!_pos news i hi']; rfl
end Go.Proofs.Ytjmclmbepnbeoaa

/- A change of a graph: what stands between two rounds, and within one. -/
namespace Go.Proofs.Ytjmclmbepnbeoaa
open Go.ChangeShapes Go.WideShapes Go.ChangeAt Go.RowKit
theorem infoNs : (Try.prog.info? 48).map (fun i => (i.zero, i.size, i.bytes)) = some (some InE.z, 7, 64) := by kernel_rfl
theorem make_0n (tot : Nat) (hn : tot ≤ 1000) (W : World) : (Instr.makeSlice 42 (.int .i64 0) (.int .i64 (tot : Int))).run Try.prog W = .ok (.slice (some ⟨W.heap.size, 0, none⟩) 0 tot) (W.alloc (.cells (madeCells InE.z.cells (tot * 7)) 48)) := by
  obtain ⟨i, hi, hz, hs, hbb⟩ := info_out infoNs
  have hr := run_make (P := Try.prog) W 42 48 i InE.z Try.underlying42 hi hz .i64 .i64 0 tot (by omega) (by omega) (by rw [hbb]; omega) (by omega)
  rw [hs] at hr
  simpa using hr
theorem own_0n (tot : Nat) (hn : tot ≤ 1000) (W : World) {B : Nat} (hB : B ≤ W.heap.size) : OwnE InE (W.alloc (.cells (madeCells InE.z.cells (tot * 7)) 48)) B (.slice (some ⟨W.heap.size, 0, none⟩) 0 tot) ([] : List Ins) :=
  OwnE.of_parts InOk (l := []) hB (by show (W.heap.push _)[W.heap.size]? = _; exact Array.getElem?_push_size) (Nat.zero_le _) (by unfold maxLen; omega) (by rw [size_madeCells]; rfl) (fun j hj => absurd hj (Nat.not_lt_zero _))
/-- Those that are done stand as told, the others as the copy has them. -/
def ChG (SB : Nat) (vs : Nat → Array Value) (news : List Blk) (i : Nat) (g : Nat → Array Value) : Prop := (∀ k (hk : k < news.length), k < i → NewAt SB (codeAll (news.take k)).length news[k].code.length news[k] (g k)) ∧ ∀ k, i ≤ k → k < news.length → g k = vs k
/-- Between two rounds. -/
def ChI (Wb : World) (gb SB tot : Nat) (vs : Nat → Array Value) (news : List Blk) (i : Nat) (L : List Ins) (W : World) : Prop := ∃ g, ChAt Wb gb SB tot news.length g L W ∧ ChG SB vs news i g
section
variable {Wb W W' : World} {gb SB tot nb : Nat} {vs : Nat → Array Value} {news : List Blk} {i : Nat} {L : List Ins}
theorem ChI.kp (h : ChI Wb gb SB tot vs news i L W) : But gb Wb W := let ⟨_, h1, _⟩ := h; h1.kp
theorem ChI.sb (h : ChI Wb gb SB tot vs news i L W) : Wb.heap.size ≤ SB ∧ SB < W.heap.size := let ⟨_, h1, _⟩ := h; h1.sb
theorem ChI.st (h : ChI Wb gb SB tot vs news i L W) : OwnE InE W Wb.heap.size (.slice (some ⟨SB, 0, none⟩) L.length tot) L := let ⟨_, h1, _⟩ := h; h1.st
theorem ChI.stays (h : ChI Wb gb SB tot vs news i L W) (b : Below W.heap.size W W') : ChI Wb gb SB tot vs news i L W' := let ⟨g, h1, h2⟩ := h; ⟨g, h1.stays b, h2⟩
theorem ChI.other (h : ChI Wb gb SB tot vs news i L W) {m : Nat} (b : But m W W') (hm : Wb.heap.size ≤ m) (hg : gb < Wb.heap.size) (hs : m ≠ SB) : ChI Wb gb SB tot vs news i L W' := let ⟨g, h1, h2⟩ := h; ⟨g, h1.other b hm hg hs, h2⟩
theorem ChI.app (h : ChI Wb gb SB tot vs news i L W) (b : But SB W W') (hg : gb < Wb.heap.size) {x : Ins} {n : Nat} (hn : n = L.length) (hs : OwnE InE W' Wb.heap.size (.slice (some ⟨SB, 0, none⟩) (n + 1) tot) (L ++ [x])) : ChI Wb gb SB tot vs news i (L ++ [x]) W' := let ⟨g, h1, h2⟩ := h; ⟨g, h1.app b hg hn hs, h2⟩
/-- The cells of the block whose turn it is. -/
theorem ChI.cells (h : ChI Wb gb SB tot vs news i L W) (hi : i < news.length) : ∀ r, r < 5 → W.cell? ⟨gb, i * 5 + r, none⟩ = (vs i)[r]? := let ⟨g, h1, h2⟩ := h; fun r hr => by rw [h1.row i hi r hr, h2.2 i (Nat.le_refl _) hi]
theorem ChI.frozen (h : ChI Wb gb SB tot vs news i L W) : ∀ r, W.frozen? ⟨gb, r, none⟩ = false := let ⟨_, h1, _⟩ := h; let ⟨_, _, p, _⟩ := h1.pl; (cells_of p).2
/-- Block i is told. -/
theorem ChI.tell (h : ChI Wb gb SB tot vs news i L W) (hg : gb < Wb.heap.size) (hi : i < news.length) (hv : (vs i).size = 5) (v0 : Value) (ad : Option Addr) (cap n : Nat) {b : Blk} (hb : news[i] = b) (hn : n = news[i].code.length) (had : n = 0 ∨ ad = some ⟨SB, (codeAll (news.take i)).length * 7, none⟩) :
    ChI Wb gb SB tot vs news (i + 1) L ((((((W.setCell ⟨gb, i * 5, none⟩ v0).setCell ⟨gb, i * 5 + 1, none⟩ (.int .i64 b.jump)).setCell ⟨gb, i * 5 + 2, none⟩ (.int .i64 b.a)).setCell ⟨gb, i * 5 + 3, none⟩ (.int .i64 b.to)).setCell ⟨gb, i * 5 + 4, none⟩ (.int .i64 b.els)).setCell ⟨gb, i * 5, none⟩ (.slice ad n cap)) := by
  obtain ⟨g, h1, h2, h3⟩ := h
  have c1 := h1.put5 hg hi (by rw [h3 i (Nat.le_refl _) hi]; exact hv) v0 (.int .i64 b.jump) (.int .i64 b.a) (.int .i64 b.to) (.int .i64 b.els)
  have c2 := c1.put1 hg hi (r0 := 0) (by omega) (.slice ad n cap) (g' := fun k => if k = i then #[.slice ad n cap, .int .i64 b.jump, .int .i64 b.a, .int .i64 b.to, .int .i64 b.els] else g k) (fun k _ hne => by simp only [if_neg hne]) (fun r hr => by
    simp only [if_true]
    match r, hr with
    | 0, _ | 1, _ | 2, _ | 3, _ | 4, _ => rfl)
  refine ⟨_, c2, fun k hk hki => ?_, fun k hki hk => ?_⟩
  · by_cases e : k = i
    · subst e
      simp only [if_true]
      rw [← hn]
      exact ⟨ad, cap, by rw [hb], had⟩
    · simp only [if_neg e]
      exact h2 k hk (by omega)
  · simp only [if_neg (show ¬ k = i by omega)]
    exact h3 k (by omega) hk
end
/-- The beginning. -/
theorem chStart {Wb W : World} {B0 gb SB tot : Nat} {v : Array Value} {x : Gr} {S : CRow} {cs : List CRow} {news : List Blk} {us ub : Option Addr} {kS kB : Nat} (hv : v = #[.slice us x.sizes.length kS, .int .i64 x.params, .int .i64 x.vars, .int .i64 x.slots, .slice ub x.blocks.length kB])
    (gr : GrIs Wb B0 v x) (ow : GOwn Wb v S gb 0 cs) (hcs : cs.length = x.blocks.length) (hl : news.length = x.blocks.length) (hpos : 0 < news.length) (bel : Below Wb.heap.size Wb W) (st : OwnE InE W Wb.heap.size (.slice (some ⟨SB, 0, none⟩) 0 tot) []) :
    ub = some ⟨gb, 0, none⟩ ∧ ∃ vs, ChI Wb gb SB tot vs news 0 [] W ∧ ∀ k (hk : k < x.blocks.length), (vs k).size = 5 ∧ ∃ uc kc, vs k = #[.slice uc (x.blocks[k]).code.length kc, .int .i64 (x.blocks[k]).jump, .int .i64 (x.blocks[k]).a, .int .i64 (x.blocks[k]).to, .int .i64 (x.blocks[k]).els] ∧ (x.blocks[k]).wf ∧ ∀ W', But gb Wb W' → SlIs InsIs 7 W' B0 uc (x.blocks[k]).code := by
  have hne : cs ≠ [] := fun e => by rw [e] at hcs; simp at hcs; omega
  obtain ⟨ads, caps, p, q, r, adb, capb, hv2, _, hv4⟩ := ow.val
  obtain ⟨us', kS', ub', kB', hv3, _, _, hm, vs, hr, hx⟩ := gr
  have e1 := (slice_inj (five_inj (hv.symm.trans hv2)).2).1
  have e2 := (slice_inj (five_inj (hv.symm.trans hv3)).2).1
  have e3 : ub = some ⟨gb, 0, none⟩ := e1.trans (hv4.resolve_left hne)
  rw [← e2, e3] at hr
  rcases hr with h0 | ⟨b, o, ha, hB, hbl, hp, hc⟩
  · omega
  · cases ha
    obtain ⟨c, T, p1, p2⟩ := ow.brow hne
    have hgl : gb < Wb.heap.size := (Array.getElem?_eq_some_iff.1 p1).1
    have hk0 := (But.refl gb Wb).belowN bel
    refine ⟨e3, vs, ⟨vs, ⟨hk0, ⟨c, T, (bel.block _ hgl).trans p1, by omega⟩, fun k hk r hr => ?_, st⟩, fun k _ h0 => absurd h0 (Nat.not_lt_zero _), fun k _ _ => rfl⟩, fun k hk => ?_⟩
    · rw [World.cell?_of_block (a := ⟨gb, k * 5 + r, none⟩) (bel.block _ hgl)]
      have := (hc k (by omega)).2 r hr
      simpa using this
    · obtain ⟨uc, kc, hvk, hwk, hcode⟩ := hx k hk
      refine ⟨(hc k hk).1, uc, kc, hvk, hwk, fun W' hW' => hcode.butne (fun h0 b o e => ?_) hW'⟩
      obtain ⟨ad, cap, q1, q2⟩ := ow.codes.cell k (by omega)
      have q3 := (hc k hk).2 0 (by omega)
      rw [Nat.add_zero, q1, hvk] at q3
      have q4 : some (Value.slice ad (cs[k]'(by omega)).n cap) = some (Value.slice uc (x.blocks[k]).code.length kc) := q3
      have q5 := slice_inj (Option.some.inj q4)
      have q6 : 0 < (cs[k]'(by omega)).n := by rw [q5.2.1]; exact h0
      have q7 := q2.resolve_left (by omega)
      rw [← q5.1, q7] at e
      cases e
      exact ow.codes.own k (by omega) q6
/-- What is asked of a step. -/
def OkZ (z : Ins) : Prop := (z.wf ∧ z.t.size ≤ maxLen) ∧ (¬ (z.op = 4 ∨ z.op = 6) → 0 ≤ z.d) ∧ (z.op = 1 → 0 ≤ z.a)
/-- The boxes, and the copy as it was made. -/
structure IfQ (w : World) (o : Nat) (bv zv ov : Array Value) (S : CRow) (gb : Nat) (cs : List CRow) (y : Gr) (wr : World) : Prop where
  gr : GrIs wr (w.heap.size + 2) ov y
  ow : GOwn wr ov S gb 0 cs
  bP : wr.heap[w.heap.size]? = some (.cells bv 29 (0, 0))
  bR : wr.heap[w.heap.size + 1]? = some (.cells zv 29 (0, 0))
  bO : wr.heap[o]? = some (.cells ov 29 (0, 0))
  bel : Below w.heap.size w wr
theorem IfQ.stays {w wr wr' : World} {o : Nat} {bv zv ov : Array Value} {S : CRow} {gb : Nat} {cs : List CRow} {y : Gr} (h : IfQ w o bv zv ov S gb cs y wr) (b : Below wr.heap.size wr wr') : IfQ w o bv zv ov S gb cs y wr' :=
  ⟨GrKeeps.stays h.gr b, h.ow.stays b, (b.block _ (hltP h.bP)).trans h.bP, (b.block _ (hltP h.bR)).trans h.bR, (b.block _ (hltP h.bO)).trans h.bO, below_trans h.bel b⟩
/-- The first state of every block. -/
def s0 : Kn := fun _ => none
theorem set5_cell {W W' : World} {g i : Nat} {c : Array Value} {T : TypeId} (h : W.heap[g]? = some (.cells c T (0, 0))) (v0 v1 v2 v3 v4 : Value) (e : ((((W.setCell ⟨g, i, none⟩ v0).setCell ⟨g, i + 1, none⟩ v1).setCell ⟨g, i + 2, none⟩ v2).setCell ⟨g, i + 3, none⟩ v3).setCell ⟨g, i + 4, none⟩ v4 = W') (hi : i < c.size) : (∃ u, W'.cell? ⟨g, i, none⟩ = some u) ∧ (∀ q, W'.frozen? ⟨g, q, none⟩ = false) ∧ But g W W' := by
  have z0 := heap_setCell_same W g i c T v0 h
  have z1 := heap_setCell_same _ g (i + 1) _ T v1 z0
  have z2 := heap_setCell_same _ g (i + 2) _ T v2 z1
  have z3 := heap_setCell_same _ g (i + 3) _ T v3 z2
  have z4 := heap_setCell_same _ g (i + 4) _ T v4 z3
  have hb : But g W (((((W.setCell ⟨g, i, none⟩ v0).setCell ⟨g, i + 1, none⟩ v1).setCell ⟨g, i + 2, none⟩ v2).setCell ⟨g, i + 3, none⟩ v3).setCell ⟨g, i + 4, none⟩ v4) := ((((But.refl g W).set _ _).set _ _).set _ _).set _ _ |>.set _ _
  rw [e] at z4 hb
  refine ⟨⟨_, ((cells_of z4).1 i).trans (Array.getElem?_eq_getElem (by simpa using hi))⟩, (cells_of z4).2, hb⟩
theorem ChI.plain {Wb W : World} {gb SB tot : Nat} {vs : Nat → Array Value} {news : List Blk} {i : Nat} {L : List Ins} (h : ChI Wb gb SB tot vs news i L W) : ∃ c T, W.heap[gb]? = some (.cells c T (0, 0)) ∧ news.length * 5 ≤ c.size := let ⟨_, h1, _⟩ := h; h1.pl
end Go.Proofs.Ytjmclmbepnbeoaa

/- What a graph that lies in memory has: numbers of 64 bits; what its steps use and make where it is right. -/
namespace Go.Proofs.Ytjmclmbepnbeoaa
open Go.ChangeShapes Go.WideShapes Go.ChangeAt Go.RowKit
theorem gr_wf {w : World} {B : Nat} {v : Array Value} {x : Gr} (h : GrIs w B v x) : ∀ b ∈ x.blocks, b.wf ∧ ∀ z ∈ b.code, z.wf ∧ z.t.size ≤ maxLen := fun b hb => by
  obtain ⟨_, _, _, _, _, _, _, hbl⟩ := h
  obtain ⟨k, hk, rfl⟩ := List.getElem_of_mem hb
  obtain ⟨_, _, v', _, _, _, _, _, hx⟩ := hbl.at k hk
  obtain ⟨uc, kc, _, hw, hc⟩ := hx
  refine ⟨hw, fun z hz => ?_⟩
  obtain ⟨i, hi, rfl⟩ := List.getElem_of_mem hz
  obtain ⟨_, _, _, _, _, _, _, _, ok⟩ := hc.at i hi
  exact ok.2
theorem ins_of {x : Gr} (hk : grOk x = true) : ∀ b ∈ x.blocks, ∀ z ∈ b.code, insOk (x.sizes.length : Nat) x.slots z = true := fun b hb z hz => by
  simp only [grOk, Bool.and_eq_true, decide_eq_true_eq] at hk
  exact List.all_eq_true.1 hk.1.2 z (List.mem_flatMap.2 ⟨b, hb, hz⟩)
theorem okz_of {w : World} {B : Nat} {v : Array Value} {x : Gr} (h : GrIs w B v x) (hk : grOk x = true) : ∀ b ∈ x.blocks, ∀ z ∈ b.code, OkZ z := fun b hb z hz => by
  have hi := ins_of hk b hb z hz
  obtain ⟨hu, hm⟩ := ins_uses hi
  refine ⟨(gr_wf h b hb).2 z hz, fun hn => ?_, fun h1 => ?_⟩
  · rcases hm with hm | hm
    · exact absurd hm.2 hn
    · omega
  · have := hu z.a (by simp [usesP, h1])
    omega
theorem MadeGrW.few {w w' : World} {x : Gr} {en : Ending} (h : MadeGrW w x en w') (hc : x.sizes.length + celS x.blocks ≤ 50000000) :
    ∃ v' S b o cs, en = .returned (.agg v') ∧ GrIs w' w.heap.size v' x ∧ GOwnW w' v' S b o cs ∧ (∀ c ∈ grL S b o cs, w.heap.size ≤ c.1 ∧ c.1 < w'.heap.size) ∧ (grL S b o cs).length ≤ 50000000 ∧ Below w.heap.size w w' := by
  obtain ⟨v', S, b, cs, e, h1, h2, h3, h4, h5, h6, h7⟩ := h
  refine ⟨v', S, b, 0, cs, e, h1, h2, h3, ?_, h7⟩
  rw [grL, List.length_append, intL_len, blksL_length, h4, celS_sum cs x.blocks h5 h6]
  exact hc
theorem celS_map9 {f : Blk → Blk} (hf : ∀ b, (f b).code.length = b.code.length) : ∀ (l : List Blk), celS (l.map f) = celS l
  | [] => rfl
  | b :: l => by
    simp only [List.map_cons, celS, celS_map9 hf l, celN, hf]
theorem foldP_few {x : Gr} (h : x.sz ≤ 1048576) : (foldP x).sizes.length + celS (foldP x).blocks ≤ 50000000 := by
  have h1 := celS_sz x.blocks
  simp only [Gr.sz, slSz] at h
  by_cases hok : grOk x = true
  · rw [foldP_ok hok]
    simp only [celS_map9 foldB_len]
    omega
  · rw [foldP_no hok]
    omega
theorem copP_few {x : Gr} (h : x.sz ≤ 1048576) : (copP x).sizes.length + celS (copP x).blocks ≤ 50000000 := by
  have h1 := celS_sz x.blocks
  simp only [Gr.sz, slSz] at h
  by_cases hok : grOk x = true
  · rw [copP_ok hok]
    simp only [celS_map9 copB_len]
    omega
  · rw [copP_no hok]
    omega
end Go.Proofs.Ytjmclmbepnbeoaa

/- The copy that spec.l04Copy has made, one block of it written anew: its code in place, then its jump. -/
namespace Go.Proofs.Ytjmclmbepnbeoaa
open Go.ChangeShapes Go.WideShapes Go.ChangeAt Go.RowKit
theorem CpAt.gr9 {base : Nat} {x : Gr} {sa : Option Addr} {kS gq cq : Nat} {rows : List BRow} {W : World} (h : CpAt base x sa kS gq cq rows W) (hl : x.blocks.length ≤ maxLen) : GrIs W base #[.slice sa x.sizes.length kS, .int .i64 x.params, .int .i64 x.vars, .int .i64 x.slots, .slice (some ⟨gq, 0, none⟩) x.blocks.length cq] x := by
  refine ⟨sa, kS, _, cq, rfl, h.wf, h.szs, hl, ?_⟩
  obtain ⟨g', cap, cur, hv, hB', hh, _, _, _, hx⟩ := h.own.parts BlE_ok
  injection hv with e1
  injection e1 with e1
  injection e1 with e1
  subst e1
  have hlen := h.len
  refine ⟨fun i => (BlE.cs (rows[i]!)).toArray, Or.inr ⟨gq, 0, rfl, hB', hltH hh, fun _ => ⟨cur, _, hh⟩, fun i hi => ⟨rfl, fun j hj => ?_⟩⟩, fun i hi => ?_⟩
  · have := hx i (by omega) j hj
    simp only [World.cell?, hh, Nat.zero_add, getElem!_pos rows i (show i < rows.length by omega)]
    rw [show BlE.sz = 5 from rfl] at this
    simpa using this
  · have hi' : i < rows.length := by omega
    obtain ⟨h1, h2, h3⟩ := h.code i hi'
    rw [getElem!_pos x.blocks i hi] at h1
    simp only [getElem!_pos rows i hi']
    rw [← h1]
    exact ⟨_, _, rfl, h2, h3⟩
/-- The answer is this graph. -/
def SpGr9 (w : World) (x : Gr) (en : Ending) (w' : World) : Prop := ∃ v', en = .returned (.agg v') ∧ GrIs w' w.heap.size v' x ∧ Below w.heap.size w w'
/-- Between two rounds: the copy, its boxes. -/
structure SgAt (w : World) (o : Nat) (bv zv ov : Array Value) (x : Gr) (sa : Option Addr) (kS gq cq : Nat) (wr : World) : Prop where
  cp : ∃ rows, CpAt (w.heap.size + 2) x sa kS gq cq rows wr ∧ RDis sa x.sizes.length rows
  bP : wr.heap[w.heap.size]? = some (.cells bv 29 (0, 0))
  bR : wr.heap[w.heap.size + 1]? = some (.cells zv 29 (0, 0))
  bO : wr.heap[o]? = some (.cells ov 29 (0, 0))
  bel : Below w.heap.size w wr
theorem SgAt.stays {w wr wr' : World} {o : Nat} {bv zv ov : Array Value} {x : Gr} {sa : Option Addr} {kS gq cq : Nat} (h : SgAt w o bv zv ov x sa kS gq cq wr) (b : Below wr.heap.size wr wr') : SgAt w o bv zv ov x sa kS gq cq wr' :=
  let ⟨rows, hr, hd⟩ := h.cp
  ⟨⟨rows, hr.stays b, hd⟩, (b.block _ (hltP h.bP)).trans h.bP, (b.block _ (hltP h.bR)).trans h.bR, (b.block _ (hltP h.bO)).trans h.bO, below_trans h.bel b⟩
/-- Where the code of block j lies: in block gc from oc on; where it has no steps gc is none that was there. -/
structure CoAt (w wr : World) (gq : Nat) (uc : Option Addr) (code : List Ins) (gc oc : Nat) : Prop where
  some' : 0 < code.length → uc = some ⟨gc, oc, none⟩ ∧ w.heap.size + 2 ≤ gc ∧ gc < wr.heap.size ∧ gc ≠ gq ∧ CodeF wr gc oc code
  none' : code.length = 0 → gc = wr.heap.size
/-- The block whose turn it is. -/
theorem SgAt.turn {w wr : World} {o : Nat} {bv zv ov : Array Value} {x : Gr} {sa : Option Addr} {kS gq cq : Nat} (h : SgAt w o bv zv ov x sa kS gq cq wr) {j : Nat} (hj : j < x.blocks.length) :
    ∃ uc kc gc oc, (∀ r, r < 5 → wr.cell? ⟨gq, j * 5 + r, none⟩ = (#[Value.slice uc (x.blocks[j]).code.length kc, .int .i64 (x.blocks[j]).jump, .int .i64 (x.blocks[j]).a, .int .i64 (x.blocks[j]).to, .int .i64 (x.blocks[j]).els])[r]?) ∧ CoAt w wr gq uc (x.blocks[j]).code gc oc ∧ (x.blocks[j]).wf ∧ (∀ z ∈ (x.blocks[j]).code, z.wf ∧ z.t.size ≤ maxLen) ∧ (∃ c T, wr.heap[gq]? = some (.cells c T (0, 0))) ∧
    ∀ (W : World) (nb : Blk), But gc wr W → (0 < nb.code.length → CodeF W gc oc nb.code) → nb.code.length = (x.blocks[j]).code.length → nb.wf → (∀ z ∈ nb.code, z.wf ∧ z.t.size ≤ maxLen) → w.heap.size + 2 ≤ gq ∧ gq < o → o < wr.heap.size → (0 < nb.code.length → gc ≠ o) →
      SgAt w o bv zv ov { x with blocks := x.blocks.set j nb } sa kS gq cq (((((W.setCell ⟨gq, j * 5, none⟩ (.slice uc nb.code.length kc)).setCell ⟨gq, j * 5 + 1, none⟩ (.int .i64 nb.jump)).setCell ⟨gq, j * 5 + 2, none⟩ (.int .i64 nb.a)).setCell ⟨gq, j * 5 + 3, none⟩ (.int .i64 nb.to)).setCell ⟨gq, j * 5 + 4, none⟩ (.int .i64 nb.els)) := by
  obtain ⟨rows, cp, dis⟩ := h.cp
  have hjr : j < rows.length := by rw [cp.len]; exact hj
  obtain ⟨c1, c2, c3⟩ := cp.code j hjr
  rw [getElem!_pos x.blocks j hj] at c1
  obtain ⟨uc, hu⟩ : ∃ uc, rows[j].1 = uc := ⟨_, rfl⟩
  obtain ⟨kc, hk⟩ : ∃ kc, rows[j].2.1 = kc := ⟨_, rfl⟩
  rw [hu, c1] at c3
  rw [c1] at c2
  have hcells : ∀ r, r < 5 → wr.cell? ⟨gq, j * 5 + r, none⟩ = (#[Value.slice uc (x.blocks[j]).code.length kc, .int .i64 (x.blocks[j]).jump, .int .i64 (x.blocks[j]).a, .int .i64 (x.blocks[j]).to, .int .i64 (x.blocks[j]).els])[r]? := fun r hr => by
    have := cp.own.at BlE_ok j hjr r hr
    rw [show BlE.sz = 5 from rfl, Nat.zero_add] at this
    rw [this]
    simp only [BlE, c1, hu, hk]
    simp
  obtain ⟨gc, oc, hco⟩ : ∃ gc oc, CoAt w wr gq uc (x.blocks[j]).code gc oc := by
    by_cases h0 : (x.blocks[j]).code.length = 0
    · exact ⟨wr.heap.size, 0, fun hp => absurd h0 (Nat.ne_of_gt hp), fun _ => rfl⟩
    · rcases id c3 with ⟨hm, vs, hr | ⟨b, o', ha, hB, hb, hp, hc⟩, hx⟩
      · exact absurd hr h0
      · subst ha
        refine ⟨b, o', fun _ => ⟨rfl, hB, hb, cp.cone j hjr (by rw [c1]; omega) b o' hu, ?_⟩, fun e => absurd e h0⟩
        obtain ⟨c, T, hh⟩ := hp (by omega)
        refine codeF_of c3 ⟨c, T, hh, ?_⟩
        have hl := (hc ((x.blocks[j]).code.length - 1) (by omega)).2 6 (by omega)
        have hz := (hc ((x.blocks[j]).code.length - 1) (by omega)).1
        simp only [World.cell?, hh] at hl
        have : o' + ((x.blocks[j]).code.length - 1) * 7 + 6 < c.size := by
          have e7 : (vs ((x.blocks[j]).code.length - 1))[6]? = some ((vs ((x.blocks[j]).code.length - 1))[6]'(by rw [hz]; omega)) := Array.getElem?_eq_getElem (by rw [hz]; omega)
          exact (Array.getElem?_eq_some_iff.1 (hl.trans e7)).1
        omega
  have hw : ∀ z ∈ (x.blocks[j]).code, z.wf ∧ z.t.size ≤ maxLen := fun z hz => by
    obtain ⟨i, hi, rfl⟩ := List.getElem_of_mem hz
    obtain ⟨_, _, _, _, _, _, _, _, ok⟩ := c3.at i hi
    exact ok.2
  have hpl : ∃ c T, wr.heap[gq]? = some (.cells c T (0, 0)) := by
    obtain ⟨g', cap', cur, hv, _, hh, _⟩ := cp.own.parts BlE_ok
    injection hv with e1
    injection e1 with e1
    injection e1 with e1
    subst e1
    exact ⟨_, _, hh⟩
  refine ⟨uc, kc, gc, oc, hcells, hco, c2, hw, hpl, fun W nb hb hcf hl hnw hnz lo hol hgo => ?_⟩
  -- the code anew
  have step1 : CpAt (w.heap.size + 2) { x with blocks := x.blocks.set j { x.blocks[j] with code := nb.code } } sa kS gq cq (rows.set j (rows[j].1, rows[j].2.1, { x.blocks[j] with code := nb.code })) W ∧ RDis sa x.sizes.length (rows.set j (rows[j].1, rows[j].2.1, { x.blocks[j] with code := nb.code })) := by
    by_cases h0 : nb.code.length = 0
    · have e0 : nb.code = (x.blocks[j]).code := by rw [List.length_eq_zero_iff.1 h0, List.length_eq_zero_iff.1 (show (x.blocks[j]).code.length = 0 by omega)]
      have e1 : ({ x.blocks[j] with code := nb.code } : Blk) = x.blocks[j] := by rw [e0]
      have e2 : (rows[j].1, rows[j].2.1, x.blocks[j]) = rows[j] := by rw [← c1]
      have hgc := hco.none' (by omega)
      have bel : Below wr.heap.size wr W := ⟨hb.os, hb.tape, hb.output, hb.size, fun k hk => hb.block k hk (by omega)⟩
      rw [e1, List.set_getElem_self, e2, List.set_getElem_self]
      exact ⟨cp.stays bel, dis⟩
    · obtain ⟨s1, s2, s3, s4, s5⟩ := hco.some' (by omega)
      have hm : nb.code.length ≤ maxLen := by rw [hl]; exact c3.1
      exact cp.recode dis hj hjr (hu.trans s1) hl (by omega) hm hnz s2 hb (hcf (by omega))
  obtain ⟨st1, st2⟩ := step1
  have hj1 : j < (x.blocks.set j { x.blocks[j] with code := nb.code }).length := by rw [List.length_set]; exact hj
  have hjr1 : j < (rows.set j (rows[j].1, rows[j].2.1, { x.blocks[j] with code := nb.code })).length := by rw [List.length_set]; exact hjr
  have st3 := CpAt.store st1 st2 hj1 hjr1 (code := nb.code) (jump := nb.jump) (a := nb.a) (t0 := nb.to) (els := nb.els) (by simp only [List.getElem_set_self]) hnw
  simp only [List.getElem_set_self, List.set_set, hu, hk] at st3
  have hbg : But gq W (((((W.setCell ⟨gq, j * 5, none⟩ (.slice uc nb.code.length kc)).setCell ⟨gq, j * 5 + 1, none⟩ (.int .i64 nb.jump)).setCell ⟨gq, j * 5 + 2, none⟩ (.int .i64 nb.a)).setCell ⟨gq, j * 5 + 3, none⟩ (.int .i64 nb.to)).setCell ⟨gq, j * 5 + 4, none⟩ (.int .i64 nb.els)) := ((((But.refl gq W).set _ _).set _ _).set _ _).set _ _ |>.set _ _
  have keep : ∀ (b : Nat) (ob : Obj), wr.heap[b]? = some ob → b ≠ gq → (0 < nb.code.length → b ≠ gc) → (((((W.setCell ⟨gq, j * 5, none⟩ (.slice uc nb.code.length kc)).setCell ⟨gq, j * 5 + 1, none⟩ (.int .i64 nb.jump)).setCell ⟨gq, j * 5 + 2, none⟩ (.int .i64 nb.a)).setCell ⟨gq, j * 5 + 3, none⟩ (.int .i64 nb.to)).setCell ⟨gq, j * 5 + 4, none⟩ (.int .i64 nb.els)).heap[b]? = some ob := fun b ob h1 h2 h3 => by
    have hbl := hltP h1
    have hne : b ≠ gc := by
      by_cases h0 : nb.code.length = 0
      · have := hco.none' (by omega); omega
      · exact h3 (by omega)
    exact (hbg.block b (Nat.lt_of_lt_of_le hbl hb.size) h2).trans ((hb.block b hbl hne).trans h1)
  have hgcl : 0 < nb.code.length → w.heap.size + 2 ≤ gc := fun h0 => (hco.some' (by omega)).2.1
  have hwl := hltP h.bR
  refine ⟨⟨_, st3.1, st3.2⟩, keep _ _ h.bP (by omega) (fun h0 => by have := hgcl h0; omega), keep _ _ h.bR (by omega) (fun h0 => by have := hgcl h0; omega), keep _ _ h.bO (by omega) (fun h0 e => hgo h0 e.symm), ?_⟩
  have hgl : w.heap.size ≤ gc := by
    by_cases h0 : nb.code.length = 0
    · have := hco.none' (by omega); omega
    · have := hgcl (by omega); omega
  have b1 := h.bel.trans (hb.below hgl h.bel.size)
  exact b1.trans (hbg.below (by omega) b1.size)
end Go.Proofs.Ytjmclmbepnbeoaa
