/- A list of numbers that a call owns and whose head may have been cut off: its append. -/
import Derived.Test.YtelkpikbjfkpcaaGreatOwnA
import Derived.Test.YtelkpikbjfkpcaaGreatOrdPA
import Derived.Test.YtelkpikbjfkpcaaGreatNextIS
import Derived.Test.YtelkpikbjfkpcaaGreatCpyB
import Derived.Deep.CutRange
import Derived.Deep.RegionHeld3
import Derived.Deep.LoopGhost
import Derived.Test.YtelkpikbjfkpcaaGreatL04All
namespace Go.Proofs.YtelkpikbjfkpcaaGreat
open Go.ChangeShapes Go.WideShapes Go.ChangeAt Go.RowKit
theorem run_append_room_off {P : Program} (w : World) (t ty e : TypeId) (i : TypeInfo) (ht : P.underlying t = some (.slice e)) (hi : P.info? e = some i)
    (g o sLen sCap : Nat) (cur : Array Value) (hg : w.heap[g]? = some (.cells cur e (0, 0)))
    (a : Addr) (m c : Nat) (news : List Value) (hl : news.length = m * i.size) (hnews : ∀ j u, news[j]? = some u → w.cell? (a.add j) = some u) (h1 : ∀ u ∈ news, u.oneCell' = true)
    (hroom : sLen + m ≤ sCap) (hfit : o + sLen * i.size + news.length ≤ cur.size) :
    (Builtin.append_ #[t, t] ty #[.slice (some ⟨g, o, none⟩) sLen sCap, .slice (some a) m c]).run P w =
      .ok (.slice (some ⟨g, o, none⟩) (sLen + m) sCap) (w.setRow g (cur.toList.take (o + sLen * i.size) ++ news ++ cur.toList.drop (o + sLen * i.size + news.length)).toArray) := by
  have hf := run_firstCells_some (P := P) w i.size m a m c news hl hnews
  have hst := run_storeCells_at P g (o + sLen * i.size) e news 0 cur w hg (by simpa using hfit) h1
  simp only [Nat.add_zero] at hst
  simp [Builtin.append_, run_underlying ht, sizeOf, typeInfo, hi, Builtin.lenOf, hroom, hf, Addr.add_lit, hst]
/-- The value is a slice of these numbers within a block of its own from B on. -/
def QuI (w : World) (B : Nat) (v : Value) (l : List Int) : Prop := ∃ (g o cap : Nat) (cur : Array Value), v = .slice (some ⟨g, o, none⟩) l.length cap ∧ B ≤ g ∧ w.heap[g]? = some (.cells cur 3 (0, 0)) ∧ l.length ≤ cap ∧ cap ≤ maxLen ∧ o + cap ≤ cur.size ∧ ∀ j (hj : j < l.length), cur[o + j]? = some (.int .i64 l[j])
theorem QuI.of_own {w : World} {B : Nat} {v : Value} {l : List Int} (h : OwnI w B v l) : QuI w B v l := by
  obtain ⟨g, cap, cur, rfl, hB, hh, hc, hm, hs, hx⟩ := h.parts
  exact ⟨g, 0, cap, cur, rfl, hB, hh, hc, hm, by omega, fun j hj => by rw [Nat.zero_add]; exact hx j hj⟩
theorem QuI.low {w : World} {B : Nat} {v : Value} {l : List Int} (h : QuI w B v l) : ∃ g, v.ownBlock = some g ∧ B ≤ g ∧ g < w.heap.size := by
  obtain ⟨g, o, cap, cur, rfl, hB, hh, _⟩ := h
  exact ⟨g, rfl, hB, (Array.getElem?_eq_some_iff.1 hh).1⟩
theorem QuI.keep {w w' : World} {B : Nat} {v : Value} {l : List Int} (h : QuI w B v l) (hk : ∀ g, v.ownBlock = some g → w'.heap[g]? = w.heap[g]?) : QuI w' B v l := by
  obtain ⟨g, o, cap, cur, rfl, hB, hh, hr⟩ := h
  exact ⟨g, o, cap, cur, rfl, hB, (hk g rfl).trans hh, hr⟩
theorem QuI.stays {w w' : World} {B : Nat} {v : Value} {l : List Int} (h : QuI w B v l) (bel : Below w.heap.size w w') : QuI w' B v l := by
  obtain ⟨b, hb, _, hlt⟩ := h.low
  exact h.keep fun g hg => bel.block g (by rw [hb] at hg; cases hg; exact hlt)
/-- Without its first number. -/
theorem QuI.tail {w : World} {B g o n cap : Nat} {a : Int} {l : List Int} (h : QuI w B (.slice (some ⟨g, o, none⟩) n cap) (a :: l)) : QuI w B (.slice (some ⟨g, o + 1, none⟩) l.length (cap - 1)) l ∧ (cap = 1 → QuI w B (.slice (some ⟨g, o, none⟩) l.length (cap - 1)) l) := by
  obtain ⟨g', o', cap', cur, hv, hB, hh, hc, hm, hs, hx⟩ := h
  cases hv
  simp only [List.length_cons] at hc
  refine ⟨⟨g, o + 1, cap - 1, cur, rfl, hB, hh, by omega, by omega, by omega, fun j hj => ?_⟩, fun h1 => ⟨g, o, cap - 1, cur, rfl, hB, hh, by omega, by omega, by omega, fun j hj => by omega⟩⟩
  have := hx (j + 1) (by simpa using hj)
  rw [show o + 1 + j = o + (j + 1) by omega]
  simpa using this
theorem QuI.at {w : World} {B g o n cap : Nat} {l : List Int} (h : QuI w B (.slice (some ⟨g, o, none⟩) n cap) l) (j : Nat) (hj : j < l.length) : w.cell? ⟨g, o + j, none⟩ = some (.int .i64 l[j]) := by
  obtain ⟨g', o', cap', cur, hv, hB, hh, hc, hm, hs, hx⟩ := h
  cases hv
  rw [(cells_of hh).1]; exact hx j hj
theorem run_appQ {w : World} {B : Nat} {v1 : Value} {l : List Int} {x : Int} {b o2 cap2 : Nat} (ty : TypeId) (h1 : QuI w B v1 l) (h2 : w.cell? ⟨b, o2, none⟩ = some (.int .i64 x)) (hn : l.length ≤ 8000000) (hB : B ≤ w.heap.size) :
    ∃ v' w', (Builtin.append_ #[22, 22] ty #[v1, .slice (some ⟨b, o2, none⟩) 1 cap2]).run Tryz.prog w = .ok v' w' ∧ QuI w' B v' (l ++ [x]) ∧ w.grownBy w' v1.ownBlock ∧ (v'.ownBlock = v1.ownBlock ∨ v'.ownBlock = some w.heap.size) := by
  obtain ⟨i0, hi, hz0, hz1, hz2⟩ := info_parts infoInt
  obtain ⟨g, o, cap, cur, rfl, hBg, hh, hc, hm, hs, hx⟩ := h1
  have hnews : ∀ (j : Nat) (u : Value), [Value.int .i64 x][j]? = some u → w.cell? ((⟨b, o2, none⟩ : Addr).add j) = some u := fun j u hj => by
    obtain ⟨hj1, hj2⟩ := List.getElem?_eq_some_iff.1 hj
    have : j = 0 := by simpa using hj1
    subst this
    rw [addr_add', ← hj2]; exact h2
  have hcl : cur.toList.length = cur.size := Array.length_toList
  have hone : ∀ u ∈ [Value.int .i64 x], u.oneCell' = true := fun u hu => by rw [List.mem_singleton.1 hu]; rfl
  by_cases hroom : l.length + 1 ≤ cap
  · have hr := run_append_room_off (P := Tryz.prog) w 22 ty 3 i0 Tryz.underlying22 hi g o l.length cap cur hh ⟨b, o2, none⟩ 1 cap2 [.int .i64 x] (by simp [hz1]) hnews hone hroom (by rw [hz1]; simp; omega)
    refine ⟨_, _, hr, ⟨g, o, cap, _, by simp, hBg, setRow_heap w g cur _ _ _ hh, by simpa using hroom, hm, ?_, fun j hj => ?_⟩, ⟨rfl, rfl, rfl, by simp, fun k _ hk => setRow_other w g k _ (fun e => hk (by simp [Value.ownBlock, e]))⟩, Or.inl rfl⟩
    · rw [hz1]
      simp only [List.size_toArray, List.length_append, List.length_take, List.length_drop, Array.length_toList, List.length_singleton]
      omega
    · rw [hz1, Nat.mul_one, List.getElem?_toArray]
      have htl : (cur.toList.take (o + l.length)).length = o + l.length := by rw [List.length_take]; have e : cur.toList.length = cur.size := Array.length_toList; omega
      rw [List.length_append, List.length_singleton] at hj
      by_cases hjl : j < l.length
      · rw [List.append_assoc, List.getElem?_append_left (by omega), List.getElem?_take_of_lt (by omega), List.getElem_append_left hjl]
        simpa using hx j hjl
      · have hje : j = l.length := by omega
        subst hje
        rw [List.append_assoc, List.getElem?_append_right (by omega), htl]
        simp
  · have holds : ∀ (j : Nat) (u : Value), (l.map (Value.int .i64))[j]? = some u → w.cell? ((⟨g, o, none⟩ : Addr).add j) = some u := fun j u hj => by
      obtain ⟨hj1, hj2⟩ := List.getElem?_eq_some_iff.1 hj
      rw [List.length_map] at hj1
      rw [addr_add', (cells_of hh).1, hx j hj1, ← hj2]; simp
    have hr := run_append_grow (P := Tryz.prog) w 22 ty 3 i0 (.int .i64 0) Tryz.underlying22 hi hz0 ⟨g, o, none⟩ l.length cap (l.map (Value.int .i64)) (by simp [hz1]) holds ⟨b, o2, none⟩ 1 cap2 [.int .i64 x] (by simp [hz1]) hnews (by omega) (by omega) (growslice_fits (by omega) (by rw [hz2]; omega))
    have hge := grownCap_ge w (l.length + 1) cap 3
    refine ⟨_, _, hr, ⟨w.heap.size, 0, _, _, by simp, hB, heap_alloc_new w.drew _, by simpa using hge, grownCap_le_maxLen w (l.length + 1) cap 3 (by unfold maxLen; omega), ?_, fun j hj => ?_⟩, ⟨rfl, rfl, rfl, by simp, fun k hk _ => heap_alloc_old w.drew _ hk⟩, Or.inr rfl⟩
    · simp only [Array.size_append, List.size_toArray, size_zeroCells, List.length_map, List.length_singleton]
      have : (Value.int IntKind.i64 0).cells.size = 1 := rfl
      rw [this]
      omega
    · rw [Nat.zero_add, Array.getElem?_append_left (by simpa using hj)]
      have e : ((l.map (Value.int .i64)).toArray ++ #[Value.int .i64 x])[j]? = ((l ++ [x]).map (Value.int .i64))[j]? := by
        rw [List.map_append]; simp
      rw [show ([Value.int IntKind.i64 x].toArray) = #[Value.int .i64 x] from rfl, e]
      rw [List.getElem?_map, List.getElem?_eq_getElem hj]; rfl
theorem list_appQ {ops : Array Oper} {o : Oper} {a : Act} {Q : Exit → Act → World → Prop} {rest : List Oper} (w : World) (hgd : o.guard = none) (s x : Operand) (ho : o.op = .call { callee := .builtin .append, args := #[s, x], argTypes := #[22, 22] })
    (B : Nat) (v1 : Value) (l : List Int) (y : Int) (b o2 cap2 : Nat) (hs : a.eval s = v1) (hx : a.eval x = .slice (some ⟨b, o2, none⟩) 1 cap2) (h1 : QuI w B v1 l) (h2 : w.cell? ⟨b, o2, none⟩ = some (.int .i64 y)) (hn : l.length ≤ 8000000) (hB : B ≤ w.heap.size)
    (h : ∀ v' w', QuI w' B v' (l ++ [y]) → w.grownBy w' v1.ownBlock → (v'.ownBlock = v1.ownBlock ∨ v'.ownBlock = some w.heap.size) → wpList Tryz.prog ops Q rest (a.put o.dst v') w') :
    wpList Tryz.prog ops Q (o :: rest) a w := by
  refine wpList_plain hgd fun K hK => ?_
  obtain ⟨v', w', hr, r1, r2, r3⟩ := run_appQ (cap2 := cap2) o.type h1 h2 hn hB
  unfold Oper.wp execOp
  simp only [ho, resolve, invoke, builtin, Sem.run_bind, Sem.run_pure, Result.andThen_ok, List.map_toArray, List.map_cons, List.map_nil, hs, hx, hr]
  exact hK _ _ (h v' w' r1 r2 r3)
end Go.Proofs.YtelkpikbjfkpcaaGreat

/- What holds between two rounds of spec.Blocks. -/
namespace Go.Proofs.YtelkpikbjfkpcaaGreat
open Go.ChangeShapes Go.WideShapes Go.ChangeAt Go.RowKit
/-- Block gs tells by 1 and 0 which of n blocks were met. -/
def SeenN (w : World) (gs n : Nat) (met : List Int) : Prop := ∃ cur : Array Value, w.heap[gs]? = some (.cells cur 3 (0, 0)) ∧ n ≤ cur.size ∧ ∀ i, i < n → cur[i]? = some (.int .i64 (if (i : Int) ∈ met then 1 else 0))
theorem SeenN.lt {w : World} {gs n : Nat} {met : List Int} (h : SeenN w gs n met) : gs < w.heap.size := by
  obtain ⟨cur, hh, _⟩ := h; exact (Array.getElem?_eq_some_iff.1 hh).1
theorem SeenN.keep {w w' : World} {gs n : Nat} {met : List Int} (h : SeenN w gs n met) (hk : w'.heap[gs]? = w.heap[gs]?) : SeenN w' gs n met := by
  obtain ⟨cur, hh, hr⟩ := h; exact ⟨cur, hk.trans hh, hr⟩
theorem SeenN.at {w : World} {gs n : Nat} {met : List Int} (h : SeenN w gs n met) {i : Nat} (hi : i < n) : w.cell? ⟨gs, i, none⟩ = some (.int .i64 (if (i : Int) ∈ met then 1 else 0)) ∧ w.frozen? ⟨gs, i, none⟩ = false := by
  obtain ⟨cur, hh, _, hc⟩ := h
  exact ⟨by simp [World.cell?, hh, hc i hi], by simp [World.frozen?, hh]⟩
theorem SeenN.set {w : World} {gs n : Nat} {met : List Int} (h : SeenN w gs n met) {i : Nat} (hi : i < n) : SeenN (w.setCell ⟨gs, i, none⟩ (.int .i64 1)) gs n (met ++ [(i : Int)]) := by
  obtain ⟨cur, hh, hs, hc⟩ := h
  refine ⟨_, heap_setCell_same w gs i cur _ _ hh, by simpa using hs, fun j hj => ?_⟩
  rw [Array.getElem?_setIfInBounds]
  by_cases he : i = j
  · subst he; rw [if_pos rfl, if_pos (by omega)]; simp
  · rw [if_neg he, hc j hj]
    have : ((j : Int) ∈ met ++ [(i : Int)]) ↔ ((j : Int) ∈ met) := by
      rw [List.mem_append, List.mem_singleton]
      exact ⟨fun h => h.resolve_right (by omega), Or.inl⟩
    simp [this]
theorem seenN_zeros {w : World} {B g n cap : Nat} (h : OwnI w B (.slice (some ⟨g, 0, none⟩) n cap) (List.replicate n 0)) : SeenN w g n [] := by
  obtain ⟨g', cap', cur, hv, hB, hh, hc, hm, hs, hx⟩ := h.parts
  simp at hv
  obtain ⟨rfl, rfl⟩ := hv
  rw [List.length_replicate] at hc
  refine ⟨cur, hh, by omega, fun i hi => ?_⟩
  rw [hx i (by simpa using hi)]
  simp
structure BQ (w : World) (G : Array Value) (gs gO n : Nat) (met : List Int) (wr : World) (vq : Value) (todo : List Int) : Prop where
  q : QuI wr (w.heap.size + 1) vq todo
  s : SeenN wr gs n met
  o : OwnI wr (w.heap.size + 1) (.slice (some ⟨gO, 0, none⟩) 0 0) []
  gs0 : w.heap.size + 1 ≤ gs
  qs : vq.ownBlock ≠ some gs
  qo : vq.ownBlock ≠ some gO
  so : gs ≠ gO
  bel : Below w.heap.size w wr
  box : wr.heap[w.heap.size]? = some (.cells G 29 (0, 0))
theorem BQ.stays {w wr w' : World} {G : Array Value} {gs gO n : Nat} {met todo : List Int} {vq : Value} (h : BQ w G gs gO n met wr vq todo) (bel : Below wr.heap.size wr w') : BQ w G gs gO n met w' vq todo :=
  ⟨h.q.stays bel, h.s.keep (bel.block gs h.s.lt), h.o.stays bel, h.gs0, h.qs, h.qo, h.so, below_trans h.bel bel, (bel.block _ (Array.getElem?_eq_some_iff.1 h.box).1).trans h.box⟩
theorem BQ.swap {w wr : World} {G : Array Value} {gs gO n : Nat} {met todo todo' : List Int} {vq vq' : Value} (h : BQ w G gs gO n met wr vq todo) (hq : QuI wr (w.heap.size + 1) vq' todo') (hb : vq'.ownBlock = vq.ownBlock) : BQ w G gs gO n met wr vq' todo' :=
  ⟨hq, h.s, h.o, h.gs0, by rw [hb]; exact h.qs, by rw [hb]; exact h.qo, h.so, h.bel, h.box⟩
theorem BQ.mark {w wr : World} {G : Array Value} {gs gO n : Nat} {met todo : List Int} {vq : Value} (h : BQ w G gs gO n met wr vq todo) {i : Nat} (hi : i < n) : BQ w G gs gO n (met ++ [(i : Int)]) (wr.setCell ⟨gs, i, none⟩ (.int .i64 1)) vq todo := by
  have hb : But gs wr (wr.setCell ⟨gs, i, none⟩ (.int .i64 1)) := (But.refl _ _).set _ _
  have hbx := (Array.getElem?_eq_some_iff.1 h.box).1
  exact ⟨h.q.keep fun g hg => Below.heap_setCell wr ⟨gs, i, none⟩ _ g (fun e => h.qs (by rw [hg]; exact congrArg some e)), h.s.set hi, h.o.butG hb (by simp [Value.ownBlock]; exact fun e => h.so e.symm), h.gs0, h.qs, h.qo, h.so, h.bel.trans (hb.below (by have := h.gs0; omega) h.bel.size), (hb.block _ hbx (by have := h.gs0; omega)).trans h.box⟩
theorem BQ.push {w wr w' : World} {G : Array Value} {gs gO n : Nat} {met todo todo' : List Int} {vq vq' : Value} (h : BQ w G gs gO n met wr vq todo) (hq : QuI w' (w.heap.size + 1) vq' todo') (hg : wr.grownBy w' vq.ownBlock) (hl : vq'.ownBlock = vq.ownBlock ∨ vq'.ownBlock = some wr.heap.size) : BQ w G gs gO n met w' vq' todo' := by
  obtain ⟨b, hb, hb1, hb2⟩ := h.q.low
  have hlo := h.o.low gO rfl
  have hbx := (Array.getElem?_eq_some_iff.1 h.box).1
  have hgs := h.s.lt
  have hbs : b ≠ gs := fun e => h.qs (by rw [hb, e])
  have hbo : b ≠ gO := fun e => h.qo (by rw [hb, e])
  rw [hb] at hg hl
  refine ⟨hq, h.s.keep (hg.block gs hgs (by simp; exact fun e => hbs e.symm)), h.o.kept hg (by simp [Value.ownBlock]; exact fun e => hbo e.symm), h.gs0, ?_, ?_, h.so, h.bel.grown hg h.bel.size (fun b' hb' => by simp at hb'; omega), (hg.block _ hbx (by simp; omega)).trans h.box⟩
  · rcases hl with e | e
    · rw [e]; simpa using hbs
    · rw [e]; simp; omega
  · rcases hl with e | e
    · rw [e]; simpa using hbo
    · rw [e]; simp; omega
end Go.Proofs.YtelkpikbjfkpcaaGreat

/- The contract of spec.Blocks. -/
namespace Go.Proofs.YtelkpikbjfkpcaaGreat
open Go.ChangeShapes Go.WideShapes Go.ChangeAt Go.RowKit
set_option maxHeartbeats 8000000 in
set_option maxRecDepth 100000 in
theorem spec_blocks (g : Gr) (w : World) (B : Nat) (v : Array Value) (h : GrIs w B v g) (GO : OkIs 14 g) :
    Calls Tryz.prog 49 #[.agg v] w fun en w' => ∃ v', en = .returned v' ∧ OwnI w' w.heap.size v' (blocksP g) ∧ Below w.heap.size w w' := by
  have hG := hideP h
  have HGO := hideP GO
  clear GO
  obtain ⟨sizes, params, vars, slots, blocks⟩ := g
  obtain ⟨us, cs, ub, cb, rfl, _, _, hb⟩ := h
  simp only at *
  have hm := maxLen_lt
  have hlb := hb.1
  have HB := hideP hb
  clear hb
  obtain ⟨R, hR⟩ : ∃ R, blocksP ⟨sizes, params, vars, slots, blocks⟩ = R := ⟨_, rfl⟩
  rw [hR]
  have HR := hideP hR
  clear hR
  obtain ⟨gok, hgok⟩ : ∃ r, grOk ⟨sizes, params, vars, slots, blocks⟩ = r := ⟨_, rfl⟩
  have GO1 : Hid (∀ W A v, GrIs W A v ⟨sizes, params, vars, slots, blocks⟩ → Calls Tryz.prog 14 #[.agg v] W fun en w' => en = .returned (.bool gok) ∧ Below W.heap.size W w') := fun W A v hv => hgok ▸ HGO.out W A v hv
  have HK := hideP hgok
  clear hgok HGO
  have Q1 := hideP (two (Below.refl ((w.alloc (.cells #[.slice us sizes.length cs, .int .i64 params, .int .i64 vars, .int .i64 slots, .slice ub blocks.length cb] 29)).alloc (.cells #[] 3)).heap.size _)).1
  have O1 : Hid (OwnI ((w.alloc (.cells #[.slice us sizes.length cs, .int .i64 params, .int .i64 vars, .int .i64 slots, .slice ub blocks.length cb] 29)).alloc (.cells #[] 3)) (w.heap.size + 1) (.slice (some ⟨w.heap.size + 1, 0, none⟩) 0 0) []) := by
    have := own_lit (w.alloc (.cells #[.slice us sizes.length cs, .int .i64 params, .int .i64 vars, .int .i64 slots, .slice ub blocks.length cb] 29)) [] #[] (w.heap.size + 1) 0 (by simp) rfl rfl (by simp)
    show OwnI _ _ _ _
    simpa using this
  have BW := hideP (below2 w (.cells #[.slice us sizes.length cs, .int .i64 params, .int .i64 vars, .int .i64 slots, .slice ub blocks.length cb] 29) (.cells #[] 3))
  cases gok with
  | false =>
    go_enter Tryz.func49, Tryz.ntmps49
    go_wp2_with fail
    refine (GO1.out _ B _ (GrKeeps.stays hG.out BW.out)).mono ?_
    rintro e1 w1 ⟨rfl, bel1⟩
    have E : Hid (R = []) := by rw [← HR.out]; exact blocksP_none (by simp [HK.out])
    have OO := hideP ((O1.out.stays bel1).mono (Nat.le_succ _))
    have BB := hideP (below_trans BW.out bel1)
    clear bel1
    go_wp2
    go_ret
    exact ⟨_, rfl, by rw [E.out]; exact OO.out, BB.out⟩
  | true =>
    have hbl := grOk_blocks HK.out
    simp only at hbl
    have HALL := hideP (allIn_of HK.out)
    go_enter Tryz.func49, Tryz.ntmps49
    go_wp2_with fail
    refine (GO1.out _ B _ (GrKeeps.stays hG.out BW.out)).mono ?_
    rintro e1 w1 ⟨rfl, bel1⟩
    have BB := hideP (below_trans BW.out bel1)
    have QQ := hideP ((bel1.block w.heap.size (Array.getElem?_eq_some_iff.1 Q1.out).1).trans Q1.out)
    have OO := hideP (O1.out.stays bel1)
    have hz1 : Hid (w.heap.size + 1 < w1.heap.size) := by have := bel1.size; simp at this; show _ < _; omega
    have p4 := (cells_of QQ.out).1 4
    simp at p4
    clear bel1 Q1 O1 BW GO1
    go_wp2_with fail
    refine (zeros_any blocks.length _ (by omega)).mono ?_
    rintro e2 w2 ⟨v2, rfl, o2, bel2⟩
    obtain ⟨gs, c2, rfl, _⟩ := id o2
    rw [List.length_replicate] at o2 ⊢
    have hgs := o2.low gs rfl
    obtain ⟨m0, f0⟩ := (seenN_zeros o2).at (i := 0) (by omega)
    simp only [List.not_mem_nil, if_false] at m0
    have hsz2 := bel2.size
    have IV : Hid (BQ w #[.slice us sizes.length cs, .int .i64 params, .int .i64 vars, .int .i64 slots, .slice ub blocks.length cb] gs (w.heap.size + 1) blocks.length [0] ((w2.setCell ⟨gs, 0, none⟩ (.int .i64 1)).alloc (.cells #[.int .i64 0] 3)) (.slice (some ⟨w2.heap.size, 0, none⟩) 1 1) [0]) := by
      have hz := hz1.out
      have bt : But gs w2 (w2.setCell ⟨gs, 0, none⟩ (.int .i64 1)) := (But.refl _ _).set _ _
      have al := (Below.refl (w2.setCell ⟨gs, 0, none⟩ (.int .i64 1)).heap.size _).alloc (Nat.le_refl _) (.cells #[.int .i64 0] 3)
      have hss := (seenN_zeros o2).set (i := 0) (by omega)
      have hb2 := below_trans BB.out bel2
      have hbx := (bel2.block w.heap.size (by omega)).trans QQ.out
      refine ⟨QuI.of_own ((own_lit (w2.setCell ⟨gs, 0, none⟩ (.int .i64 1)) [0] #[.int .i64 0] w2.heap.size 1 (by rw [size_set]) rfl rfl (by simp)).mono (by rw [size_set]; omega)), hss.keep (al.block gs (by rw [size_set]; exact hgs.2)), ((OO.out.stays bel2).butG bt (by simp [Value.ownBlock]; omega)).stays al, by omega, by simp [Value.ownBlock]; omega, by simp [Value.ownBlock]; omega, by omega, ?_, ?_⟩
      · exact (hb2.trans (bt.below (by omega) hb2.size)).trans (al.mono (by rw [size_set]; exact hb2.size))
      · exact (al.block w.heap.size (by rw [size_set]; omega)).trans ((bt.block w.heap.size (by omega) (by omega)).trans hbx)
    have BS := hideP (bfs_start blocks hbl.1)
    clear o2 bel2 QQ OO p4
    go_wp2
    clear m0 f0
    go_loopg [5] blocks.length (fun gk q wr => ∃ (dn todo : List Int), gk + dn.length = blocks.length ∧ Hid (Bfs blocks dn todo) ∧ Hid (BQ w #[.slice us sizes.length cs, .int .i64 params, .int .i64 vars, .int .i64 slots, .slice ub blocks.length cb] gs (w.heap.size + 1) blocks.length (dn ++ todo) wr q todo))
    case atStart => exact ⟨[], [0], by simp, BS.out, IV.out⟩
    case round =>
      obtain ⟨dn, todo, hgk, hbf, hbq⟩ := hrel
      clear IV BS
      obtain ⟨kk, hkk⟩ : ∃ kk, kk = gk := ⟨_, rfl⟩
      rw [← hkk] at hgk
      have HGK := hideP hkk
      clear hkk
      obtain ⟨gq, oq, cq, cur, rfl, hq1, hq2, hq3, hq4, hq5, hq6⟩ := id hbq.out.q
      cases todo with
      | nil =>
        have MM := hideP (fun y => hbf.out.done y)
        rw [List.append_nil] at hbq
        clear hq1 hq2 hq3 hq4 hq5 hq6 hbf
        go_wp2
        go_loopg [3, 8] blocks.length (fun hk o i wr2 => ∃ j : Nat, hk + j = blocks.length ∧ i = .int .i64 j ∧ Hid (OwnI wr2 (w.heap.size + 1) o (metUp dn j)) ∧ Hid (SeenN wr2 gs blocks.length dn) ∧ Hid (o.ownBlock ≠ some gs) ∧ Hid (Below w.heap.size w wr2) ∧ Hid (w.heap.size + 1 ≤ wr2.heap.size))
        case atStart => exact ⟨0, by simp, rfl, hbq.out.o, hbq.out.s, by show _ ≠ _; simp [Value.ownBlock]; exact fun e => hbq.out.so e.symm, hbq.out.bel, (Array.getElem?_eq_some_iff.1 hbq.out.box).1⟩
        case round =>
          obtain ⟨j, hj, rfl, ho, hs, hne, hbw, hsz⟩ := hrel
          by_cases hlt : j < blocks.length
          · obtain ⟨m1, f1⟩ := hs.out.at hlt
            by_cases hin : (j : Int) ∈ dn
            · rw [if_pos hin] at m1
              have UP : Hid (metUp dn (j + 1) = metUp dn j ++ [(j : Int)]) := if_pos hin
              obtain ⟨g5, c5, rfl, _⟩ := id ho.out
              have hlen := metUp_len dn j
              have al := (Below.refl wr.heap.size wr).alloc (Nat.le_refl _) (.cells #[.int .i64 (j : Int)] 3)
              have OC := hideP (ho.out.stays al)
              have OD := hideP (own_lit wr [(j : Int)] #[.int .i64 (j : Int)] wr.heap.size 1 rfl rfl rfl (by simp))
              have BC := hideP (hbw.out.alloc hbw.out.size (.cells #[.int .i64 (j : Int)] 3))
              have SC : Hid (w.heap.size + 1 ≤ (wr.alloc (.cells #[.int .i64 (j : Int)] 3)).heap.size) := by have := hsz.out; show _ ≤ _; simp; omega
              have SN := hideP (hs.out.keep (al.block gs hs.out.lt))
              have hgl := hs.out.lt
              clear al
              go_wp2_with (at_builtin; refine list_appI _ rfl _ _ rfl (w.heap.size + 1) _ (metUp dn j) [(j : Int)] wr.heap.size 0 1 1 rfl rfl rfl OC.out OD.out.at (by simp; omega) SC.out ?_; intro v6 w6 o6 grow6 loc6)
              replace grow6 : World.grownBy _ w6 (Value.slice (some ⟨g5, 0, none⟩) (metUp dn j).length c5).ownBlock := grow6
              replace loc6 : v6.ownBlock = (Value.slice (some ⟨g5, 0, none⟩) (metUp dn j).length c5).ownBlock ∨ v6.ownBlock = some (wr.alloc (.cells #[.int .i64 (j : Int)] 3)).heap.size := loc6
              have B6 := hideP (BC.out.grown grow6 BC.out.size (fun b' hb' => by have := OC.out.low b' hb'; omega))
              have S6 := hideP (SN.out.keep (grow6.block gs SN.out.lt (fun e => hne.out e.symm)))
              have Z6 : Hid (w.heap.size + 1 ≤ w6.heap.size) := Nat.le_trans SC.out grow6.size
              have N6 : Hid (v6.ownBlock ≠ some gs) := by
                show _ ≠ _
                rcases loc6 with e | e
                · rw [e]; exact hne.out
                · rw [e]; simp; omega
              obtain ⟨g6, c6, rfl, _⟩ := id o6
              have O6 := hideP o6
              clear o6 grow6 loc6
              go_wp2
              go_roundg (blocks.length - (j + 1))
              case rel => exact ⟨j + 1, by omega, by go_num, by rw [UP.out]; simpa using O6, S6.out, N6.out, B6.out, Z6.out⟩
              case measure => omega
            · rw [if_neg hin] at m1
              have UP : Hid (metUp dn (j + 1) = metUp dn j) := if_neg hin
              go_wp2
              go_roundg (blocks.length - (j + 1))
              case rel => exact ⟨j + 1, by omega, by go_num, by rw [UP.out]; exact ho.out, hs.out, hne.out, hbw.out, hsz.out⟩
              case measure => omega
          · have hjn : j = blocks.length := by omega
            subst hjn
            have ER := hideP (blocks_eq HK.out MM.out)
            go_wp2
            go_ret
            exact ⟨_, rfl, by rw [← HR.out, ← ER.out]; exact ho.out.mono (Nat.le_succ _), hbw.out⟩
      | cons a todo =>
        have hra := reach_in HK.out (hbf.out.reach a (by simp))
        simp only at hra
        obtain ⟨i, rfl⟩ : ∃ i : Nat, a = (i : Int) := ⟨a.toNat, by have := hra.1; omega⟩
        have hi : i < blocks.length := by have := hra.2; omega
        have hc0 := hbq.out.q.at 0 (by simp)
        simp only [Nat.add_zero, List.getElem_cons_zero] at hc0
        have hdl : dn.length + 1 + todo.length ≤ blocks.length := by have := hbf.out.few; unfold Few at this; rw [List.length_append, List.length_cons] at this; omega
        have BI := hideP hbf.out.inn
        have hX := hbq.out.box
        obtain ⟨b, o, x0, x1, x2, x3, x4, ux, kx, rfl, _, hbb, hx, q0, q1, q2, q3, q4, hbX⟩ := Blk_get (HB.out.stays BlkKeeps hbq.out.bel) i hi
        have TL := hideP hbq.out.q.tail
        simp only [List.length_cons] at hq3 ⊢
        obtain ⟨k, hkl⟩ : ∃ k, todo.length = k := ⟨_, rfl⟩
        rw [hkl] at hq3 hdl TL ⊢
        have NL : Hid (∀ W', Below wr.heap.size wr W' → Calls Tryz.prog 82 #[.agg #[.slice ux x0.length kx, .int .i64 x1, .int .i64 x2, .int .i64 x3, .int .i64 x4]] W' fun en w' => ∃ g2 c2, en = .returned (.slice (some ⟨g2, 0, none⟩) (nxt blocks (i : Int)).length c2) ∧ OwnI w' wr.heap.size (.slice (some ⟨g2, 0, none⟩) (nxt blocks (i : Int)).length c2) (nxt blocks (i : Int)) ∧ Below wr.heap.size wr w') := fun W' bel => by
          refine (spec_l05Next _ W' B _ (BlkKeeps.stays hbX bel)).mono ?_
          rintro en w' ⟨v', he, ho, hb'⟩
          have e : nextP ⟨x0, x1, x2, x3, x4⟩ = nxt blocks (i : Int) := by rw [nxt_at hi, hx]
          rw [e] at ho
          obtain ⟨g2, c2, rfl, _⟩ := id ho
          exact ⟨g2, c2, he, ho.mono bel.size, bel.trans (hb'.mono bel.size)⟩
        have SK : Hid (∀ W', Below wr.heap.size wr W' → W'.cell? ⟨w.heap.size, 4, none⟩ = some (.slice (some ⟨b, o, none⟩) blocks.length cb) ∧ W'.cell? ⟨gq, oq, none⟩ = some (.int .i64 (i : Int)) ∧ W'.cell? ⟨b, o + i * 5, none⟩ = some (.slice ux x0.length kx) ∧ W'.cell? ⟨b, o + i * 5 + 1, none⟩ = some (.int .i64 x1) ∧ W'.cell? ⟨b, o + i * 5 + 2, none⟩ = some (.int .i64 x2) ∧ W'.cell? ⟨b, o + i * 5 + 3, none⟩ = some (.int .i64 x3) ∧ W'.cell? ⟨b, o + i * 5 + 4, none⟩ = some (.int .i64 x4)) := fun W' bel =>
          ⟨(cells_of ((bel.block _ (Array.getElem?_eq_some_iff.1 hX).1).trans hX)).1 4, (bel.cell (p := ⟨gq, oq, none⟩) (World.block_lt_of_cell? wr _ hc0)).trans hc0, (bel.cell (p := ⟨b, _, none⟩) hbb).trans q0, (bel.cell (p := ⟨b, _, none⟩) hbb).trans q1, (bel.cell (p := ⟨b, _, none⟩) hbb).trans q2, (bel.cell (p := ⟨b, _, none⟩) hbb).trans q3, (bel.cell (p := ⟨b, _, none⟩) hbb).trans q4⟩
        have HKL := hideP hkl
        clear hX hbX hx q0 q1 q2 q3 q4 hc0 hq1 hq2 hq4 hq5 hq6 hbf hkl
        go_upto_region 8 with fail
        go_region_held3 (fun W' => W'.cell? ⟨w.heap.size, 4, none⟩ = some (.slice (some ⟨b, o, none⟩) blocks.length cb) ∧ W'.cell? ⟨gq, oq, none⟩ = some (.int .i64 (i : Int)) ∧ W'.cell? ⟨b, o + i * 5, none⟩ = some (.slice ux x0.length kx) ∧ W'.cell? ⟨b, o + i * 5 + 1, none⟩ = some (.int .i64 x1) ∧ W'.cell? ⟨b, o + i * 5 + 2, none⟩ = some (.int .i64 x2) ∧ W'.cell? ⟨b, o + i * 5 + 3, none⟩ = some (.int .i64 x3) ∧ W'.cell? ⟨b, o + i * 5 + 4, none⟩ = some (.int .i64 x4)) (first | exact SK.out _ (Below.refl _ _).drew | exact SK.out _ FR.out) (first
          | (go_at_call 82; refine (NL.out _ (Below.refl _ _).drew).mono ?_; rintro yy wy ⟨g2, c2', rfl, on, fn⟩; have ON := hideP on; have FR := hideP fn; clear on fn))
        obtain ⟨L, hL⟩ : ∃ L, nxt blocks (i : Int) = L := ⟨_, rfl⟩
        have hL2 : L.length ≤ 2 := by rw [← hL]; exact nxt_len _ _
        have HIN : Hid (∀ y ∈ L, InR blocks.length y) := by rw [← hL]; exact nxt_in HALL.out _
        rw [hL] at ON ⊢
        have HL := hideP hL
        have BQ2 := hideP (hbq.out.stays FR.out)
        have G2 := hideP (ON.out.low g2 rfl)
        have hgsz := hbq.out.s.lt
        obtain ⟨bq', hbq', hbqlo, hbqhi⟩ := hbq.out.q.low
        obtain rfl : gq = bq' := by simpa [Value.ownBlock] using hbq'
        have QT : Hid (QuI wy (w.heap.size + 1) (.slice (some ⟨gq, oq + 1, none⟩) k (cq - 1)) todo ∧ (cq = 1 → QuI wy (w.heap.size + 1) (.slice (some ⟨gq, oq, none⟩) k (cq - 1)) todo)) := ⟨TL.out.1.stays FR.out, fun e => (TL.out.2 e).stays FR.out⟩
        have i1 : (1 : Int) ≤ ((k + 1 : Nat) : Int) := by omega
        have i2 : ((k + 1 : Nat) : Int) ≤ (cq : Int) := by omega
        clear hL TL hbq hbq' SK NL
        go_upto_region 9 with fail
        go_cut [5] from 21 to 60 (fun q wx => wx = wy ∧ Hid (QuI wy (w.heap.size + 1) q todo ∧ q.ownBlock = some gq))
        case first =>
          by_cases hc1 : cq = 1
          · have QT2 : Hid (QuI wy (w.heap.size + 1) (.slice (some ⟨gq, oq, none⟩) k 0) todo) := by have := QT.out.2 hc1; rw [hc1] at this; exact this
            go_wp2
            go_meet
            exact ⟨rfl, QT2.out, rfl⟩
          · go_wp2
            go_meet
            exact ⟨rfl, QT.out.1, rfl⟩
        case rest =>
        obtain ⟨hwc, hqq⟩ := hcut
        have hwc' := hwc.symm
        subst hwc'
        clear hwc
        obtain ⟨gq2, oq2, cq2, cur2, rfl, _⟩ := id hqq.out.1
        obtain rfl : gq2 = gq := by have := hqq.out.2; simpa [Value.ownBlock] using this
        have BQ3 : Hid (BQ w #[.slice us sizes.length cs, .int .i64 params, .int .i64 vars, .int .i64 slots, .slice (some ⟨b, o, none⟩) blocks.length cb] gs (w.heap.size + 1) blocks.length (dn ++ [(i : Int)] ++ todo) wy (.slice (some ⟨gq2, oq2, none⟩) todo.length cq2) todo) := by
          have := BQ2.out.swap hqq.out.1 rfl
          rw [show dn ++ (i : Int) :: todo = dn ++ [(i : Int)] ++ todo by simp] at this
          exact this
        have N2 := hideP ON.out.is.2.sees
        clear BQ2 hqq QT
        go_wp2
        go_loopg [5, 7] L.length (fun hk q jj wr2 => ∃ (j : Nat) (td : List Int), hk + j = L.length ∧ jj = .int .i64 j ∧ Hid (BfsIn blocks dn (i : Int) td j) ∧ Hid (BQ w #[.slice us sizes.length cs, .int .i64 params, .int .i64 vars, .int .i64 slots, .slice (some ⟨b, o, none⟩) blocks.length cb] gs (w.heap.size + 1) blocks.length (dn ++ [(i : Int)] ++ td) wr2 q td) ∧ Hid (wr2.heap[g2]? = wy.heap[g2]?) ∧ Hid (q.ownBlock ≠ some g2) ∧ Hid (wy.heap.size ≤ wr2.heap.size))
        case atStart => exact ⟨0, todo, by simp, rfl, BI.out, BQ3.out, rfl, by show _ ≠ _; have := G2.out; simp [Value.ownBlock]; omega, Nat.le_refl _⟩
        case round =>
          obtain ⟨j, td, hhk, rfl, hbi, hb4, hn2, hq2, hz2⟩ := hrel
          clear BQ3 BI
          by_cases hlt : j < L.length
          · obtain ⟨b', o', he, hc⟩ := N2.out.get j hlt
            cases he
            rw [Nat.zero_add] at hc
            have hz := HIN.out _ (List.getElem_mem hlt)
            obtain ⟨z, hzl⟩ : ∃ z : Nat, L[j] = (z : Int) := ⟨L[j].toNat, by have := hz.1; omega⟩
            rw [hzl] at hc hz
            have hzb : z < blocks.length := by have := hz.2; omega
            have hcz : wr.cell? ⟨g2, j, none⟩ = some (.int .i64 (z : Int)) := (World.cell?_of_block (w := wy) (w' := wr) (a := ⟨g2, j, none⟩) hn2.out).trans hc
            obtain ⟨m1, f1⟩ := hb4.out.s.at hzb
            have hLn : (nxt blocks (i : Int)).length = L.length := by rw [HL.out]
            have hLj : ∀ (hh : j < (nxt blocks (i : Int)).length), (nxt blocks (i : Int))[j] = (z : Int) := fun hh => by rw [← hzl]; simp only [HL.out]
            obtain ⟨gq4, oq4, cq4, cur4, rfl, _⟩ := id hb4.out.q
            have hg2lt : g2 < wr.heap.size := by have := G2.out; have := hz2.out; omega
            have hg2s : g2 ≠ gs := by have := G2.out; omega
            have hg2q : g2 ≠ gq4 := fun e => hq2.out (by rw [e]; rfl)
            by_cases hin : (z : Int) ∈ dn ++ [(i : Int)] ++ td
            · rw [if_pos hin] at m1
              have ST := hideP (hbi.out.there (by omega) (by rw [hLj (by omega)]; exact hin))
              clear hzl hc hz hLj hLn
              go_wp2
              go_roundg (L.length - (j + 1))
              case rel => exact ⟨j + 1, td, by omega, by go_num, ST.out, hb4.out, hn2.out, hq2.out, hz2.out⟩
              case measure => omega
            · rw [if_neg hin] at m1
              have ST : Hid (BfsIn blocks dn (i : Int) (td ++ [(z : Int)]) (j + 1)) := by
                have := hbi.out.new (by omega) (by rw [hLj (by omega)]; exact hin) (by rw [hLj (by omega)]; exact hz)
                rw [hLj (by omega)] at this
                exact this
              have htl : td.length ≤ 300 := by have := hbi.out.few; unfold Few at this; rw [List.length_append] at this; omega
              clear hzl hc hz hLj hLn
              go_upto_region 15 with fail
              have BM := hb4.out.mark hzb
              have hX2 : (wr.setCell ⟨gs, z, none⟩ (.int .i64 1)).heap[g2]? = wr.heap[g2]? := Below.heap_setCell wr ⟨gs, z, none⟩ _ g2 hg2s
              have hXs : (wr.setCell ⟨gs, z, none⟩ (.int .i64 1)).heap.size = wr.heap.size := size_set _ _ _
              obtain ⟨X1, hX1⟩ : ∃ X1, wr.setCell ⟨gs, z, none⟩ (.int .i64 1) = X1 := ⟨_, rfl⟩
              rw [hX1] at BM hX2 hXs ⊢
              have hcX : X1.cell? ⟨g2, j, none⟩ = some (.int .i64 (z : Int)) := (World.cell?_of_block (w := wr) (w' := X1) (a := ⟨g2, j, none⟩) hX2).trans hcz
              have al := (Below.refl X1.heap.size X1).alloc (Nat.le_refl _) (.cells #[.int .i64 (z : Int)] 3)
              have BM2 := hideP (BM.stays al)
              have hlc : (X1.alloc (.cells #[.int .i64 (z : Int)] 3)).cell? ⟨X1.heap.size, 0, none⟩ = some (.int .i64 (z : Int)) := by rw [World.cell?_alloc_new]; rfl
              have HLC := hideP hlc
              have SC : Hid (w.heap.size + 1 ≤ (X1.alloc (.cells #[.int .i64 (z : Int)] 3)).heap.size) := by have := (BM.q.low).choose_spec; show _ ≤ _; simp; omega
              have HX2 := hideP ((al.block g2 (by omega)).trans (hX2.trans hn2.out))
              have HXS := hideP hXs
              clear BM al hlc hX2 hXs m1 f1 hcz hX1
              go_wp2_with (at_builtin; refine list_appQ _ rfl _ _ rfl (w.heap.size + 1) _ td (z : Int) X1.heap.size 0 1 rfl rfl BM2.out.q HLC.out (by omega) SC.out ?_; intro v6 w6 o6 grow6 loc6)
              replace grow6 : World.grownBy _ w6 (Value.slice (some ⟨gq4, oq4, none⟩) td.length cq4).ownBlock := grow6
              replace loc6 : v6.ownBlock = (Value.slice (some ⟨gq4, oq4, none⟩) td.length cq4).ownBlock ∨ v6.ownBlock = some (X1.alloc (.cells #[.int .i64 (z : Int)] 3)).heap.size := loc6
              have B6 := hideP (BM2.out.push o6 grow6 loc6)
              have H6 := hideP ((grow6.block g2 (by simp; have := HXS.out; omega) (by simp [Value.ownBlock]; exact hg2q)).trans HX2.out)
              have Z6 : Hid (wy.heap.size ≤ w6.heap.size) := by have := grow6.size; have := HXS.out; have := hz2.out; simp at *; show _ ≤ _; omega
              have Q6 : Hid (v6.ownBlock ≠ some g2) := by
                show _ ≠ _
                rcases loc6 with e | e
                · rw [e]; exact hq2.out
                · rw [e]; simp; have := HXS.out; omega
              obtain ⟨g6, oo6, c6, cur6, rfl, _⟩ := id o6
              clear o6 grow6 loc6
              go_wp2
              go_roundg (L.length - (j + 1))
              case rel => exact ⟨j + 1, td ++ [(z : Int)], by omega, by go_num, ST.out, by have := B6.out; rw [List.append_assoc] at this; show BQ _ _ _ _ _ _ _ _ _; simpa using this, H6.out, Q6.out, Z6.out⟩
              case measure => omega
          · have hjn : j = L.length := by omega
            subst hjn
            have BO : Hid (Bfs blocks (dn ++ [(i : Int)]) td) := by have := hbi.out; rw [← HL.out] at this; exact this.out
            go_wp2
            go_roundg (kk - 1)
            case rel => exact ⟨dn ++ [(i : Int)], td, by rw [List.length_append]; simp; omega, BO.out, hb4.out⟩
            case measure => have := HGK.out; omega
end Go.Proofs.YtelkpikbjfkpcaaGreat

/- The contract of spec.Trim (written by wip/mktrims.py). -/
namespace Go.Proofs.YtelkpikbjfkpcaaGreat
open Go.ChangeShapes Go.WideShapes Go.ChangeAt Go.RowKit
/-- All blocks but one row are as they were. -/
def KpB (wr : World) (row : Option Nat) (W : World) : Prop := ∀ k, k < wr.heap.size → some k ≠ row → W.heap[k]? = wr.heap[k]?
theorem KpB.of {wr W : World} {row : Option Nat} (h : Below wr.heap.size wr W) : KpB wr row W := fun k hk _ => h.block k hk
theorem KpB.grown {wr W W' : World} {row : Option Nat} (h : Below wr.heap.size wr W) (hg : W.grownBy W' row) : KpB wr row W' := fun k hk hne => (hg.block k (by have := h.size; omega) hne).trans (h.block k hk)
theorem bl_at {w : World} {B g n cap : Nat} {l : List BRow} (h : OwnE BlE w B (.slice (some ⟨g, 0, none⟩) n cap) l) (j : Nat) (hj : j < l.length) {ux : Option Addr} {kx : Nat} {code : List Ins} {jump a t0 els : Int} (he : l[j] = (ux, kx, ⟨code, jump, a, t0, els⟩)) :
    w.cell? ⟨g, j * 5, none⟩ = some (.slice ux code.length kx) ∧ w.cell? ⟨g, j * 5 + 1, none⟩ = some (.int .i64 jump) ∧ w.cell? ⟨g, j * 5 + 2, none⟩ = some (.int .i64 a) ∧ w.cell? ⟨g, j * 5 + 3, none⟩ = some (.int .i64 t0) ∧ w.cell? ⟨g, j * 5 + 4, none⟩ = some (.int .i64 els) ∧ ∀ k, w.frozen? ⟨g, k, none⟩ = false := by
  have h0 := h.at BlE_ok j hj 0 (by decide)
  have h1 := h.at BlE_ok j hj 1 (by decide)
  have h2 := h.at BlE_ok j hj 2 (by decide)
  have h3 := h.at BlE_ok j hj 3 (by decide)
  have h4 := h.at BlE_ok j hj 4 (by decide)
  rw [he] at h0 h1 h2 h3 h4
  simp [BlE] at h0 h1 h2 h3 h4
  obtain ⟨g', cap', cur, hv, _, hh, _⟩ := h.parts BlE_ok
  cases hv
  exact ⟨h0, h1, h2, h3, h4, (cells_of hh).2⟩
/-- The new numbers lie at the beginning of block g. -/
def NumW (w : World) (g : Nat) (l : List Int) : Prop := ∃ cur, w.heap[g]? = some (.cells cur 3 (0, 0)) ∧ l.length ≤ cur.size ∧ ∀ i (h : i < l.length), cur[i]? = some (.int .i64 l[i])
theorem NumW.at {w : World} {g : Nat} {l : List Int} (h : NumW w g l) {i : Nat} (hi : i < l.length) : w.cell? ⟨g, i, none⟩ = some (.int .i64 (l[i]!)) ∧ w.frozen? ⟨g, i, none⟩ = false := by
  obtain ⟨cur, h1, h2, h3⟩ := h
  exact ⟨by simp only [World.cell?, h1, getElem!_pos l i hi]; exact h3 i hi, by simp [World.frozen?, h1]⟩
theorem NumW.set {w : World} {g : Nat} {l : List Int} (h : NumW w g l) (k : Nat) (z : Int) : NumW (w.setCell ⟨g, k, none⟩ (.int .i64 z)) g (l.set k z) := by
  obtain ⟨cur, h1, h2, h3⟩ := h
  refine ⟨cur.setIfInBounds k (.int .i64 z), heap_setCell_same w g k cur _ _ h1, by simpa using h2, fun i hi => ?_⟩
  rw [List.length_set] at hi
  rw [Array.getElem?_setIfInBounds, List.getElem_set]
  split
  · rename_i e
    subst e
    rw [if_pos (by omega)]
  · exact h3 i hi
theorem NumW.keep {w w' : World} {g : Nat} {l : List Int} (h : NumW w g l) (hk : w'.heap[g]? = w.heap[g]?) : NumW w' g l :=
  let ⟨cur, h1, h2⟩ := h
  ⟨cur, hk.trans h1, h2⟩
theorem NumW.ltN {w : World} {g : Nat} {l : List Int} (h : NumW w g l) : g < w.heap.size := let ⟨_, h1, _⟩ := h; hltH h1
theorem own_neN {w : World} {B gN : Nat} {qv : Value} {rows : List BRow} {N : List Int} (h : OwnE BlE w B qv rows) (hn : NumW w gN N) : qv.ownBlock ≠ some gN := by
  obtain ⟨g, cap, cur, rfl, _, hh, _⟩ := h.parts BlE_ok
  obtain ⟨c, h1, _⟩ := hn
  intro e
  have e : g = gN := by simpa [Value.ownBlock] using e
  subst e
  rw [h1] at hh
  injection hh with hh
  injection hh with _ h2
  exact absurd h2 (by decide)
theorem own_neI {w : World} {B B2 gL n k : Nat} {qv : Value} {rows : List BRow} {L : List Int} (h : OwnE BlE w B qv rows) (hn : OwnI w B2 (.slice (some ⟨gL, 0, none⟩) n k) L) : qv.ownBlock ≠ some gL := by
  obtain ⟨g, cap, cur, rfl, _, hh, _⟩ := h.parts BlE_ok
  obtain ⟨g2, _, c, hv, _, h1, _⟩ := hn.parts
  cases hv
  intro e
  have e : g = gL := by simpa [Value.ownBlock] using e
  subst e
  rw [h1] at hh
  injection hh with hh
  injection hh with _ h2
  exact absurd h2 (by decide)
/-- Between two rounds: the list, the new numbers, what is kept. -/
structure TB (Wb : World) (gL kL gN : Nat) (L N : List Int) (qv : Value) (rows : List BRow) (wr : World) : Prop where
  bel : Below Wb.heap.size Wb wr
  num : NumW wr gN N
  lst : OwnI wr Wb.heap.size (.slice (some ⟨gL, 0, none⟩) L.length kL) L
  own : OwnE BlE wr Wb.heap.size qv rows
  low : Wb.heap.size ≤ gN
  ne : gL ≠ gN
section
variable {Wb wr wr' : World} {gL kL gN : Nat} {L N : List Int} {qv : Value} {rows : List BRow}
theorem TB.set (h : TB Wb gL kL gN L N qv rows wr) (k : Nat) (z : Int) : TB Wb gL kL gN L (N.set k z) qv rows (wr.setCell ⟨gN, k, none⟩ (.int .i64 z)) :=
  ⟨h.bel.setCell (p := ⟨gN, k, none⟩) h.low _, h.num.set k z, h.lst.butG ((But.refl gN wr).set k (.int .i64 z)) (by simpa [Value.ownBlock] using h.ne), h.own.blk (fun g hg _ => Below.heap_setCell wr ⟨gN, k, none⟩ _ g (fun e => own_neN h.own h.num (by rw [hg, e]))), h.low, h.ne⟩
theorem TB.app (h : TB Wb gL kL gN L N qv rows wr) (bel : Below wr.heap.size wr wr') {w6 : World} {v6 : Value} {x : BRow} (ho : OwnE BlE w6 Wb.heap.size v6 (rows ++ [x])) (hg : wr'.grownBy w6 qv.ownBlock) : TB Wb gL kL gN L N v6 (rows ++ [x]) w6 := by
  have hn := own_neN h.own h.num
  have hi := own_neI h.own h.lst
  have lowq := h.own.low
  refine ⟨(below_trans h.bel bel).grown hg (Nat.le_trans h.bel.size bel.size) (fun k hk => (lowq k hk).1), h.num.keep ((hg.block gN (Nat.lt_of_lt_of_le h.num.ltN bel.size) (fun e => hn e.symm)).trans (bel.block gN h.num.ltN)), (h.lst.stays bel).kept hg (fun e => hi (by rw [← e]; rfl)), ho, h.low, h.ne⟩
theorem TB.own_set (h : TB Wb gL kL gN L N qv rows wr) {rows' : List BRow} {g j : Nat} {u : Value} (hq : qv.ownBlock = some g) (ho : OwnE BlE (wr.setCell ⟨g, j, none⟩ u) Wb.heap.size qv rows') : TB Wb gL kL gN L N qv rows' (wr.setCell ⟨g, j, none⟩ u) := by
  have hn := own_neN h.own h.num
  have hi := own_neI h.own h.lst
  have lowq := h.own.low g hq
  refine ⟨h.bel.setCell (p := ⟨g, j, none⟩) lowq.1 _, h.num.keep (Below.heap_setCell wr ⟨g, j, none⟩ _ gN (fun e => hn (by rw [hq]; exact congrArg some e.symm))), h.lst.butG ((But.refl g wr).set j u) (fun e => hi (by rw [hq, ← e]; rfl)), ho, h.low, h.ne⟩
end
/-- The rows as they were copied. -/
def Rows0 (w : World) (B : Nat) (bs : List Blk) (L : List Int) (rows : List BRow) : Prop := ∀ i (h : i < rows.length), rows[i].2.2 = bs[(L[i]!).toNat]! ∧ (rows[i].2.2).wf ∧ SlIs InsIs 7 w B rows[i].1 (rows[i].2.2).code
theorem Rows0.snoc {w : World} {B : Nat} {bs : List Blk} {L : List Int} {rows : List BRow} (h : Rows0 w B bs L rows) {x : BRow} (h1 : x.2.2 = bs[(L[rows.length]!).toNat]!) (h2 : (x.2.2).wf) (h3 : SlIs InsIs 7 w B x.1 (x.2.2).code) : Rows0 w B bs L (rows ++ [x]) := by
  intro i hi
  by_cases hl : i < rows.length
  · rw [List.getElem_append_left hl]; exact h i hl
  · obtain rfl : i = rows.length := by simp at hi; omega
    rw [List.getElem_append_right (by omega)]
    simp only [Nat.sub_self, List.getElem_cons_zero]
    exact ⟨h1, h2, h3⟩
def reR (N : List Int) (x : BRow) : BRow := (x.1, x.2.1, reB N x.2.2)
/-- The first i rows go to the new numbers. -/
def reUp (N : List Int) (rows : List BRow) : Nat → List BRow
  | 0 => rows
  | i + 1 => (reUp N rows i).set i (reR N (rows[i]!))
theorem reUp_len (N : List Int) (rows : List BRow) : ∀ i, (reUp N rows i).length = rows.length
  | 0 => rfl
  | i + 1 => by simp [reUp, reUp_len N rows i]
theorem reUp_ge (N : List Int) (rows : List BRow) : ∀ i k, i ≤ k → (h : k < rows.length) → (reUp N rows i)[k]'(by rw [reUp_len]; exact h) = rows[k]
  | 0, _, _, _ => rfl
  | i + 1, k, hk, h => by
    simp only [reUp]
    rw [List.getElem_set_ne (by omega)]
    exact reUp_ge N rows i k (by omega) h
theorem reUp_lt (N : List Int) (rows : List BRow) : ∀ i k, k < i → (h : k < rows.length) → (reUp N rows i)[k]'(by rw [reUp_len]; exact h) = reR N rows[k]
  | 0, _, hk, _ => absurd hk (Nat.not_lt_zero _)
  | i + 1, k, hk, h => by
    simp only [reUp]
    by_cases e : i = k
    · subst e
      rw [List.getElem_set_self, getElem!_pos rows i h]
    · rw [List.getElem_set_ne e]
      exact reUp_lt N rows i k (by omega) h
theorem reUp_ok {w : World} {B : Nat} {bs : List Blk} {L : List Int} {rows : List BRow} (h : Rows0 w B bs L rows) (hE : rows.length = L.length) (hw : ∀ z ∈ numF bs.length L L.length, I64 z) (hin : ∀ b ∈ bs, (b.jump = 0 ∨ b.jump = 1 → InR bs.length b.to) ∧ (b.jump = 1 → InR bs.length b.els)) (hL : Inn bs.length L) : RowsOk w B bs L (reUp (numF bs.length L L.length) rows L.length) := by
  intro i hi
  rw [reUp_len] at hi
  rw [reUp_lt _ _ _ i (by omega) hi]
  obtain ⟨h1, h2, h3⟩ := h i hi
  simp only [reR]
  refine ⟨by rw [h1], ?_, by rw [reB_code]; exact h3⟩
  have hiL : i < L.length := by omega
  have hz := hL _ (List.getElem_mem hiL)
  have hzb : L[i].toNat < bs.length := by have := hz.1; have := hz.2; omega
  have hmem : rows[i].2.2 ∈ bs := by rw [h1, getElem!_pos L i hiL, getElem!_pos bs _ hzb]; exact List.getElem_mem _
  have hi1 := hin _ hmem
  have hnl := numF_len bs.length L L.length
  have get : ∀ z, InR bs.length z → I64 ((numF bs.length L L.length)[z.toNat]!) := fun z hz => by
    have hzl : z.toNat < (numF bs.length L L.length).length := by rw [hnl]; have := hz.1; have := hz.2; omega
    rw [getElem!_pos (numF bs.length L L.length) z.toNat hzl]
    exact hw _ (List.getElem_mem _)
  unfold reB
  split
  · rename_i hj
    exact ⟨h2.1, h2.2.1, get _ (hi1.1 (Or.inr hj)), get _ (hi1.2 hj)⟩
  · split
    · rename_i hj
      exact ⟨h2.1, h2.2.1, get _ (hi1.1 (Or.inl hj)), h2.2.2.2⟩
    · exact h2
theorem rows_isB {w W : World} {B B' C g n k : Nat} {bs : List Blk} {L : List Int} {rows : List BRow} (ho : OwnE BlE W B' (.slice (some ⟨g, 0, none⟩) n k) rows) (hr : RowsOk w B bs L rows) (hE : rows.length = L.length) (hn : L.length ≤ 300) (bel : Below w.heap.size w W) (hC : C ≤ B) (hC' : C ≤ B') : SlIs BlkIs 5 W C (some ⟨g, 0, none⟩) (rowB bs L) := by
  have hm := maxLen_lt
  have hlen : (rowB bs L).length = L.length := by simp [rowB]
  obtain ⟨g', cap, cur, hv, hB', hh, _, _, _, hx⟩ := ho.parts BlE_ok
  injection hv with e1
  injection e1 with e1
  injection e1 with e1
  subst e1
  refine ⟨by unfold maxLen; omega, fun i => (BlE.cs (rows[i]!)).toArray, Or.inr ⟨g, 0, rfl, by omega, hltH hh, fun _ => ⟨cur, _, hh⟩, fun i hi => ⟨rfl, fun j hj => ?_⟩⟩, fun i hi => ?_⟩
  · have := hx i (by omega) j hj
    simp only [World.cell?, hh, Nat.zero_add, getElem!_pos rows i (show i < rows.length by omega)]
    rw [show BlE.sz = 5 from rfl] at this
    simpa using this
  · have hi' : i < rows.length := by omega
    obtain ⟨h1, h2, h3⟩ := hr i hi'
    have e : (rowB bs L)[i] = rows[i].2.2 := by
      rw [h1]
      simp only [rowB, List.getElem_map, getElem!_pos L i (show i < L.length by omega)]
    rw [e]
    simp only [getElem!_pos rows i hi']
    exact ⟨_, _, rfl, h2, (h3.stays InsKeeps bel).mono InsKeeps hC⟩
theorem reUp_two {N : List Int} {rows : List BRow} {i : Nat} (h : i < rows.length) {ux : Option Addr} {kx : Nat} {code : List Ins} {a t0 els : Int} (hx : rows[i] = (ux, kx, (⟨code, 2, a, t0, els⟩ : Blk))) : reUp N rows (i + 1) = reUp N rows i := by
  have e : reR N (rows[i]!) = (reUp N rows i)[i]'(by rw [reUp_len]; exact h) := by rw [reUp_ge N rows i i (Nat.le_refl _) h, getElem!_pos rows i h, hx]; simp [reR, reB]
  show (reUp N rows i).set i (reR N (rows[i]!)) = _
  rw [e, List.set_getElem_self]
theorem reUp_zero {N : List Int} {rows : List BRow} {i : Nat} (h : i < rows.length) {ux : Option Addr} {kx : Nat} {code : List Ins} {a els : Int} {zt : Nat} (hx : rows[i] = (ux, kx, (⟨code, 0, a, (zt : Int), els⟩ : Blk))) : reUp N rows (i + 1) = (reUp N rows i).set i (ux, kx, (⟨code, 0, a, N[zt]!, els⟩ : Blk)) := by
  show (reUp N rows i).set i (reR N (rows[i]!)) = _
  rw [getElem!_pos rows i h, hx]; simp [reR, reB]
theorem reUp_one {N : List Int} {rows : List BRow} {i : Nat} (h : i < rows.length) {ux : Option Addr} {kx : Nat} {code : List Ins} {a : Int} {zt ze : Nat} (hx : rows[i] = (ux, kx, (⟨code, 1, a, (zt : Int), (ze : Int)⟩ : Blk))) : reUp N rows (i + 1) = ((reUp N rows i).set i (ux, kx, (⟨code, 1, a, N[zt]!, (ze : Int)⟩ : Blk))).set i (ux, kx, (⟨code, 1, a, N[zt]!, N[ze]!⟩ : Blk)) := by
  show (reUp N rows i).set i (reR N (rows[i]!)) = _
  rw [getElem!_pos rows i h, hx, List.set_set]; simp [reR, reB]
/-- The answer is this graph. -/
def SpGr (w : World) (x : Gr) (en : Ending) (w' : World) : Prop := ∃ v', en = .returned (.agg v') ∧ GrIs w' w.heap.size v' x ∧ Below w.heap.size w w'
set_option maxRecDepth 100000 in
set_option maxHeartbeats 8000000 in
theorem spec_trim0 (x : Gr) (w : World) (B : Nat) (v : Array Value) (h : GrIs w B v x) (GO : OkIs 14 x) (hf : Fits x) :
    Calls Tryz.prog 21 #[.agg v] w fun en w' => SpGr w (trimP x) en w' := by
  have HG0 := hideP h
  have HF := hideP hf
  have HGO := hideP GO
  obtain ⟨y, hy⟩ : ∃ y, grOk x = y := ⟨_, rfl⟩
  have HY := hideP hy
  have CY : Hid (∀ W, Below w.heap.size w W → Calls Tryz.prog 14 #[.agg v] W fun en w' => en = .returned (.bool y) ∧ Below W.heap.size W w') := fun W hW => by rw [← hy]; exact GO W B v (GrKeeps.stays h hW)
  have CC : Hid (∀ W, Below w.heap.size w W → Calls Tryz.prog 13 #[.agg v] W fun en w' => SpGr W x en w') := fun W hW => spec_copy x W B v (GrKeeps.stays h hW) hf
  obtain ⟨X, hX⟩ : ∃ X, trimP x = X := ⟨_, rfl⟩
  have HX := hideP hX
  rw [hX]
  clear hy hX GO hf
  obtain ⟨sizes, p, q, r, blocks⟩ := x
  obtain ⟨us, cs, ub, cb, rfl, _⟩ := h
  simp only at *
  have al := below2 w (.cells #[.slice us sizes.length cs, .int .i64 p, .int .i64 q, .int .i64 r, .slice ub blocks.length cb] 29) (.cells #[.slice none 0 0, .int .i64 0, .int .i64 0, .int .i64 0, .slice none 0 0] 29)
  have AL := hideP al
  have TW := hideP (fun w1 => two (w := w) (w1 := w1) (o1 := .cells #[.slice us sizes.length cs, .int .i64 p, .int .i64 q, .int .i64 r, .slice ub blocks.length cb] 29) (o2 := .cells #[.slice none 0 0, .int .i64 0, .int .i64 0, .int .i64 0, .slice none 0 0] 29))
  have hz2 : ((w.alloc (.cells #[.slice us sizes.length cs, .int .i64 p, .int .i64 q, .int .i64 r, .slice ub blocks.length cb] 29)).alloc (.cells #[.slice none 0 0, .int .i64 0, .int .i64 0, .int .i64 0, .slice none 0 0] 29)).heap.size = w.heap.size + 2 := by simp
  have HZ2 := hideP hz2
  clear al hz2
  go_enter Tryz.func21, Tryz.ntmps21
  go_wp2_with fail
  refine (CC.out _ AL.out).mono ?_
  rintro e1 w1 ⟨v1, rfl, gi, bel1⟩
  obtain ⟨P1, RR, L1, hw⟩ := TW.out w1 bel1
  rw [HZ2.out] at gi
  obtain ⟨us1, cs1, ub1, cb1, rfl, hwf1, hs1, hb1⟩ := id gi
  simp only at gi hs1 hb1 hwf1 ⊢
  have al2 := (Below.refl w1.heap.size w1).alloc (Nat.le_refl _) (.cells #[.slice us1 sizes.length cs1, .int .i64 p, .int .i64 q, .int .i64 r, .slice ub1 blocks.length cb1] 29)
  have HWb := hideP (below_trans hw al2)
  have A2 := hideP al2
  have P2 := hideP ((al2.block _ (hltH P1)).trans P1)
  have R2 := hideP ((al2.block _ (hltH RR)).trans RR)
  have O2 := hideP (blk_newG w1 (.cells #[.slice us1 sizes.length cs1, .int .i64 p, .int .i64 q, .int .i64 r, .slice ub1 blocks.length cb1] 29))
  have SZ2 : Hid ((w1.alloc (.cells #[.slice us1 sizes.length cs1, .int .i64 p, .int .i64 q, .int .i64 r, .slice ub1 blocks.length cb1] 29)).heap.size = w1.heap.size + 1) := by show _ = _; simp
  have HS1 := hideP hs1
  have HB1 := hideP hb1
  have HWF := hideP hwf1
  have HG1 := hideP gi
  clear bel1 P1 RR hw TW AL CC al2 gi hs1 hb1 hwf1 HZ2
  go_upto_region 2 with fail
  obtain ⟨Wb, hWb⟩ : ∃ Wb, w1.alloc (.cells #[.slice us1 sizes.length cs1, .int .i64 p, .int .i64 q, .int .i64 r, .slice ub1 blocks.length cb1] 29) = Wb := ⟨_, rfl⟩
  rw [hWb] at HWb A2 P2 R2 O2 SZ2 ⊢
  clear hWb
  have c0 := (cells_of P2.out).1 0
  have c1 := (cells_of P2.out).1 1
  have c2 := (cells_of P2.out).1 2
  have c3 := (cells_of P2.out).1 3
  have c4 := (cells_of P2.out).1 4
  simp at c0 c1 c2 c3 c4
  go_wp2_with fail
  refine (CY.out _ HWb.out).mono ?_
  rintro e2 w2 ⟨rfl, bel2⟩
  have B2 := hideP bel2
  clear CY c0 c1 c2 c3 c4
  have P3 := hideP ((bel2.block _ (hltH P2.out)).trans P2.out)
  have R3 := hideP ((bel2.block _ (hltH R2.out)).trans R2.out)
  have O3 := hideP ((bel2.block _ (hltH O2.out)).trans O2.out)
  clear bel2
  cases y with
  | false =>
    have E : Hid (X = ⟨sizes, p, q, r, blocks⟩) := by show _ = _; rw [← HX.out]; exact trimP_no (by rw [HY.out]; simp)
    have d0 := (cells_of O3.out).1 0
    have d1 := (cells_of O3.out).1 1
    have d2 := (cells_of O3.out).1 2
    have d3 := (cells_of O3.out).1 3
    have d4 := (cells_of O3.out).1 4
    have z := R3.out
    have r0 := (cells_of z).1 0
    have r1 := (cells_of z).1 1
    have r2 := (cells_of z).1 2
    have r3 := (cells_of z).1 3
    have r4 := (cells_of z).1 4
    have rf := (cells_of z).2
    simp at d0 d1 d2 d3 d4 r0 r1 r2 r3 r4
    have z0 := heap_setCell_same w2 _ 0 _ _ (.slice us1 sizes.length cs1) z
    have z1 := heap_setCell_same _ _ 1 _ _ (.int .i64 p) z0
    have z2 := heap_setCell_same _ _ 2 _ _ (.int .i64 q) z1
    have z3 := heap_setCell_same _ _ 3 _ _ (.int .i64 r) z2
    have z4 : (((((w2.setCell ⟨w.heap.size + 1, 0, none⟩ (.slice us1 sizes.length cs1)).setCell ⟨w.heap.size + 1, 1, none⟩ (.int .i64 p)).setCell ⟨w.heap.size + 1, 2, none⟩ (.int .i64 q)).setCell ⟨w.heap.size + 1, 3, none⟩ (.int .i64 r)).setCell ⟨w.heap.size + 1, 4, none⟩ (.slice ub1 blocks.length cb1)).heap[w.heap.size + 1]? = some (.cells #[.slice us1 sizes.length cs1, .int .i64 p, .int .i64 q, .int .i64 r, .slice ub1 blocks.length cb1] 29 (0, 0)) := heap_setCell_same _ _ 4 _ _ (.slice ub1 blocks.length cb1) z3
    have ZF := hideP z4
    have BU : Hid (But (w.heap.size + 1) w2 (((((w2.setCell ⟨w.heap.size + 1, 0, none⟩ (.slice us1 sizes.length cs1)).setCell ⟨w.heap.size + 1, 1, none⟩ (.int .i64 p)).setCell ⟨w.heap.size + 1, 2, none⟩ (.int .i64 q)).setCell ⟨w.heap.size + 1, 3, none⟩ (.int .i64 r)).setCell ⟨w.heap.size + 1, 4, none⟩ (.slice ub1 blocks.length cb1))) := ((((((But.refl (w.heap.size + 1) w2).set 0 (.slice us1 sizes.length cs1)).set 1 (.int .i64 p)).set 2 (.int .i64 q)).set 3 (.int .i64 r)).set 4 (.slice ub1 blocks.length cb1))
    clear z z0 z1 z2 z3 z4
    go_wp2
    refine bodyPost_ret (results_cell_row rfl _ _ (w.heap.size + 1) 29 #[.slice us1 sizes.length cs1, .int .i64 p, .int .i64 q, .int .i64 r, .slice ub1 blocks.length cb1] (0, 0) _ rfl ZF.out Tryz.underlying29 rfl (by kernel_rfl)) rfl ?_
    rw [E.out]
    have h1 := SZ2.out
    have h2 := B2.out.size
    have h3 := hltH R2.out
    have gw := GrKeeps.stays (GrKeeps.stays HG1.out A2.out) B2.out
    exact ⟨_, rfl, GrKeeps.mono (GrKeeps.but gw (by omega) BU.out) (by omega), (below_trans HWb.out B2.out).trans (BU.out.below (by omega) (by omega))⟩
  | true =>
    have hok : Hid (grOk ⟨sizes, p, q, r, blocks⟩ = true) := HY.out
    have JT := hideP (fun (b : Blk) (hb : b ∈ blocks) => And.intro (jump_to hok.out hb) (And.intro (jump_els hok.out hb) (jump_three hok.out hb)))
    obtain ⟨L, hL⟩ : ∃ L, blocksP ⟨sizes, p, q, r, blocks⟩ = L := ⟨_, rfl⟩
    have E : Hid (X = ⟨sizes, p, q, r, rowB blocks L⟩) := by show _ = _; rw [← HX.out, ← hL]; exact trimP_ok hok.out
    have HIN : Hid (Inn blocks.length L) := by rw [← hL]; exact blocksP_in hok.out
    have hLn : L.length ≤ 300 := by rw [← hL]; exact blocksP_few _
    have hbl : blocks.length ≤ 300 := by have := hok.out; simp only [grOk, Bool.and_eq_true, decide_eq_true_eq] at this; omega
    have CB : Hid (∀ W, Below w.heap.size w W → Calls Tryz.prog 49 #[.agg #[.slice us sizes.length cs, .int .i64 p, .int .i64 q, .int .i64 r, .slice ub blocks.length cb]] W fun en w' => ∃ g2 c2, en = .returned (.slice (some ⟨g2, 0, none⟩) L.length c2) ∧ OwnI w' W.heap.size (.slice (some ⟨g2, 0, none⟩) L.length c2) L ∧ Below W.heap.size W w') := fun W hW => by
      refine (spec_blocks _ W B _ (GrKeeps.stays HG0.out hW) HGO.out).mono ?_
      rintro en w' ⟨v', rfl, o1, b1⟩
      rw [hL] at o1
      obtain ⟨g2, c2, rfl, _⟩ := id o1
      exact ⟨g2, c2, rfl, o1, b1⟩
    clear hL HY HX
    have c0 := (cells_of P3.out).1 0
    have c1 := (cells_of P3.out).1 1
    have c2 := (cells_of P3.out).1 2
    have c3 := (cells_of P3.out).1 3
    have c4 := (cells_of P3.out).1 4
    simp at c0 c1 c2 c3 c4
    go_wp2_with fail
    refine (CB.out _ (below_trans HWb.out B2.out)).mono ?_
    rintro e3 w3 ⟨gL, kL, rfl, o3, bel3⟩
    replace c4 := (cells_of ((bel3.block _ (hltH P3.out)).trans P3.out)).1 4
    simp at c4
    have O4 := hideP o3
    have B3 := hideP (below_trans B2.out bel3)
    clear bel3 o3 c0 c1 c2 c3 CB
    go_wp2_with fail
    refine (zeros_any blocks.length _ (by omega)).mono ?_
    rintro e4 w4 ⟨v4, rfl, o4, bel4⟩
    obtain ⟨gN, kN, rfl, _⟩ := id o4
    rw [List.length_replicate] at o4 ⊢
    have hgN := o4.low gN rfl
    have hgL := O4.out.low gL rfl
    have T0 : Hid (TB Wb gL kL gN L (numF blocks.length L 0) (.slice (some ⟨w4.heap.size, 0, none⟩) 0 0) [] (w4.alloc (.cells #[] 51))) := by
      have al := (Below.refl w4.heap.size w4).alloc (Nat.le_refl _) (.cells #[] 51)
      have hz3 := B3.out.size
      have hz2 := B2.out.size
      have hz4 := bel4.size
      obtain ⟨g', cap', cur, hv, _, hh, hc, _, hcs, hx⟩ := o4.parts
      simp at hv
      obtain ⟨rfl, rfl⟩ := hv
      refine ⟨below_trans (below_trans B3.out bel4) al, ?_, ((O4.out.stays bel4).stays al).mono (by omega), (own_nil BlE_ok w4 w4.heap.size rfl).mono (by omega), by omega, by omega⟩
      exact ⟨cur, (al.block gN (by omega)).trans hh, by rw [numF_len]; simp at hc; omega, fun i hi => by have := hx i (by rw [numF_len] at hi; simpa using hi); simpa [numF] using this⟩
    have hlow1 := SZ2.out
    clear o4 bel4 c4 O4 hgN hgL B2 B3 P3 R3 O3
    go_wp2
    go_loopg [6, 7] L.length (fun gk qv ix wr => ∃ rows : List BRow, gk + rows.length = L.length ∧ ix = .int .i64 (rows.length : Nat) ∧ Hid (TB Wb gL kL gN L (numF blocks.length L rows.length) qv rows wr) ∧ Hid (Rows0 w1 (w.heap.size + 2) blocks L rows))
    case atStart => exact ⟨[], by simp, rfl, T0.out, fun i hi => absurd hi (Nat.not_lt_zero _)⟩
    case round =>
      obtain ⟨rows, hgk, rfl, hT, hR⟩ := hrel
      clear T0
      obtain ⟨gq, cq, rfl, _⟩ := id hT.out.own
      by_cases hlt : rows.length < L.length
      · have hz := HIN.out _ (List.getElem_mem hlt)
        obtain ⟨zt, hzt⟩ : ∃ zt : Nat, L[rows.length] = (zt : Int) := ⟨L[rows.length].toNat, by have := hz.1; omega⟩
        have hzl : zt < blocks.length := by have := hz.1; have := hz.2; omega
        have lc := hT.out.lst.at rows.length hlt
        rw [hzt] at lc
        simp only [Nat.zero_add] at lc
        obtain ⟨nc, nf⟩ := hT.out.num.at (i := zt) (by rw [numF_len]; exact hzl)
        have T1 : Hid (TB Wb gL kL gN L (numF blocks.length L (rows.length + 1)) (.slice (some ⟨gq, 0, none⟩) rows.length cq) rows (wr.setCell ⟨gN, zt, none⟩ (.int .i64 (rows.length : Nat)))) := by
          have := hT.out.set zt (rows.length : Int)
          show TB _ _ _ _ _ _ _ _ _
          rw [show numF blocks.length L (rows.length + 1) = (numF blocks.length L rows.length).set zt (rows.length : Int) by simp only [numF, getElem!_pos L rows.length hlt, hzt]; simp]
          exact this
        have HZT : Hid ((L[rows.length]!).toNat = zt) := by show _ = _; rw [getElem!_pos L rows.length hlt, hzt]; simp
        clear hT hz
        go_upto_region 11 with fail
        obtain ⟨wn, hwn⟩ : ∃ wn, wr.setCell ⟨gN, zt, none⟩ (.int .i64 (rows.length : Nat)) = wn := ⟨_, rfl⟩
        rw [hwn] at T1 ⊢
        clear hwn lc nc nf
        have bel := T1.out.bel
        have belw := below_trans A2.out bel
        obtain ⟨b, oo, code, jump, a, t0, els, ux, kx, rfl, _, hbb, hx, q0, q1, q2, q3, q4, hbX⟩ := Blk_get HB1.out zt hzl
        have lc := T1.out.lst.at rows.length hlt
        rw [hzt] at lc
        simp only [Nat.zero_add] at lc
        have SK : Hid (∀ W', KpB wn (some gq) W' → W'.cell? ⟨w1.heap.size, 4, none⟩ = some (.slice (some ⟨b, oo, none⟩) blocks.length cb1) ∧ W'.cell? ⟨gL, rows.length, none⟩ = some (.int .i64 (zt : Int)) ∧ W'.cell? ⟨b, oo + zt * 5, none⟩ = some (.slice ux code.length kx) ∧ W'.cell? ⟨b, oo + zt * 5 + 1, none⟩ = some (.int .i64 jump) ∧ W'.cell? ⟨b, oo + zt * 5 + 2, none⟩ = some (.int .i64 a) ∧ W'.cell? ⟨b, oo + zt * 5 + 3, none⟩ = some (.int .i64 t0) ∧ W'.cell? ⟨b, oo + zt * 5 + 4, none⟩ = some (.int .i64 els)) := fun W' hk => by
          have lowq := T1.out.own.low gq rfl
          have ob := (hk w1.heap.size (by omega) (by simp; omega)).trans ((bel.block w1.heap.size (by omega)).trans O2.out)
          have hgl := T1.out.lst.low gL rfl
          have hni := own_neI T1.out.own T1.out.lst
          have hbw : ∀ n u, w1.cell? ⟨b, n, none⟩ = some u → W'.cell? ⟨b, n, none⟩ = some u := fun n u hu => (World.cell?_of_block (a := ⟨b, n, none⟩) (hk b (by have := belw.size; omega) (by simp; omega))).trans ((belw.cell (p := ⟨b, n, none⟩) hbb).trans hu)
          exact ⟨(cells_of ob).1 4, (World.cell?_of_block (a := ⟨gL, rows.length, none⟩) (hk gL hgl.2 (fun e => hni (by rw [e]; rfl)))).trans lc, hbw _ _ q0, hbw _ _ q1, hbw _ _ q2, hbw _ _ q3, hbw _ _ q4⟩
        have AD := hideP ((Below.refl wn.heap.size wn).drew.alloc (Nat.le_refl _) (.cells #[.slice ux code.length kx, .int .i64 jump, .int .i64 a, .int .i64 t0, .int .i64 els] 51))
        have OA := hideP (T1.out.own.stays AD.out)
        have CQ : Hid (∀ r, r < BlE.sz → (wn.drew.alloc (.cells #[.slice ux code.length kx, .int .i64 jump, .int .i64 a, .int .i64 t0, .int .i64 els] 51)).cell? ⟨wn.heap.size, 0 + r, none⟩ = (BlE.cs (ux, kx, (⟨code, jump, a, t0, els⟩ : Blk)))[r]?) := fun r _ => by
          have := (cells_of (heap_alloc_new wn.drew (.cells #[.slice ux code.length kx, .int .i64 jump, .int .i64 a, .int .i64 t0, .int .i64 els] 51))).1 r
          rw [Nat.zero_add]
          refine Eq.trans this ?_
          simp [BlE]
        have hsz1 : Hid (Wb.heap.size ≤ (wn.drew.alloc (.cells #[.slice ux code.length kx, .int .i64 jump, .int .i64 a, .int .i64 t0, .int .i64 els] 51)).heap.size) := Nat.le_trans bel.size AD.out.size
        have hbX' := hbX
        obtain ⟨u', c', hv, hwfb, hcode⟩ := hbX'
        simp at hv
        obtain ⟨⟨rfl, rfl⟩, -⟩ := hv
        have R6 : Hid (Rows0 w1 (w.heap.size + 2) blocks L (rows ++ [(ux, kx, (⟨code, jump, a, t0, els⟩ : Blk))])) := hR.out.snoc (by rw [HZT.out, getElem!_pos blocks zt hzl]; exact hx.symm) hwfb hcode
        clear bel belw lc hbX hwfb hcode hx q0 q1 q2 q3 q4 hR
        go_region_held3 (fun W' => W'.cell? ⟨w1.heap.size, 4, none⟩ = some (.slice (some ⟨b, oo, none⟩) blocks.length cb1) ∧ W'.cell? ⟨gL, rows.length, none⟩ = some (.int .i64 (zt : Int)) ∧ W'.cell? ⟨b, oo + zt * 5, none⟩ = some (.slice ux code.length kx) ∧ W'.cell? ⟨b, oo + zt * 5 + 1, none⟩ = some (.int .i64 jump) ∧ W'.cell? ⟨b, oo + zt * 5 + 2, none⟩ = some (.int .i64 a) ∧ W'.cell? ⟨b, oo + zt * 5 + 3, none⟩ = some (.int .i64 t0) ∧ W'.cell? ⟨b, oo + zt * 5 + 4, none⟩ = some (.int .i64 els)) (first | exact SK.out _ (KpB.of (Below.refl _ _).drew) | exact SK.out _ (KpB.of AD.out) | exact SK.out _ K6.out) (first
          | (refine step_appE BlE_ok _ rfl _ _ rfl Wb.heap.size _ rows (ux, kx, (⟨code, jump, a, t0, els⟩ : Blk)) wn.heap.size 0 1 rfl rfl OA.out CQ.out (by omega) hsz1.out ?_; intro v6 w6 o6 grow6 loc6; obtain ⟨g6, c6, rfl, _⟩ := id o6; have T6 := hideP (T1.out.app AD.out o6 grow6); have K6 : Hid (KpB wn (some gq) w6) := KpB.grown AD.out grow6; clear o6 grow6 loc6))
        clear SK AD OA CQ hsz1 K6 T1
        go_wp2
        go_roundg (L.length - (rows.length + 1))
        case rel =>
          refine ⟨rows ++ [(ux, kx, (⟨code, jump, a, t0, els⟩ : Blk))], by simp; omega, by simp only [List.length_append, List.length_singleton]; go_num, ?_, R6.out⟩
          show TB _ _ _ _ _ _ _ _ _
          have := T6.out
          simp only [List.length_append, List.length_singleton] at this ⊢
          exact this
        case measure => omega
      · have hE : rows.length = L.length := by omega
        obtain ⟨N, hN⟩ : ∃ N, numF blocks.length L L.length = N := ⟨_, rfl⟩
        have HNL : Hid (N.length = blocks.length) := by rw [← hN]; exact numF_len _ _ _
        have HNI : Hid (∀ z ∈ N, I64 z) := by rw [← hN]; exact numF_i64 _ _ _ (by omega)
        rw [hE, hN] at hT
        have HN := hideP hN
        have HE := hideP hE
        rw [hE]
        clear hN hE hlt hgk
        go_wp2
        go_loopg [8] L.length (fun hk ix wr2 => ∃ i : Nat, hk + i = L.length ∧ ix = .int .i64 i ∧ Hid (TB Wb gL kL gN L N (.slice (some ⟨gq, 0, none⟩) L.length cq) (reUp N rows i) wr2))
        case atStart => exact ⟨0, by simp, rfl, hT.out⟩
        case round =>
          obtain ⟨i, hi, rfl, hT2⟩ := hrel
          clear hT
          by_cases hlt : i < L.length
          · have hir : i < rows.length := by rw [HE.out]; exact hlt
            obtain ⟨X, hX⟩ : ∃ X, rows[i] = X := ⟨_, rfl⟩
            obtain ⟨ux, kx, code, jump, a, t0, els⟩ := X
            have hi0 : (reUp N rows i)[i]'(by rw [reUp_len]; exact hir) = (ux, kx, (⟨code, jump, a, t0, els⟩ : Blk)) := by rw [reUp_ge N rows i i (Nat.le_refl _) hir]; exact hX
            obtain ⟨b0, b1, b2, b3, b4, bf⟩ := bl_at hT2.out.own i (by rw [reUp_len]; exact hir) hi0
            have hzi := HIN.out _ (List.getElem_mem hlt)
            have hzb : L[i].toNat < blocks.length := by have := hzi.1; have := hzi.2; omega
            have hmem : (⟨code, jump, a, t0, els⟩ : Blk) ∈ blocks := by
              have := (hR.out i hir).1
              rw [hX, getElem!_pos L i hlt, getElem!_pos blocks _ hzb] at this
              simp only at this
              rw [this]; exact List.getElem_mem _
            obtain ⟨j1, j2, j3⟩ := JT.out _ hmem
            simp only at j1 j2 j3
            have HX := hideP hX
            have hil : i < (reUp N rows i).length := by rw [reUp_len]; exact hir
            have HI0 := hideP hi0
            clear hmem hzi hzb hX hi0 b0 b2
            rcases j3 with rfl | rfl | rfl
            · have hjt := j1 (Or.inl rfl)
              obtain ⟨zt, rfl⟩ : ∃ zt : Nat, t0 = (zt : Int) := ⟨t0.toNat, by have := hjt.1; omega⟩
              have hzl : zt < blocks.length := by have := hjt.2; omega
              obtain ⟨nc, nf⟩ := hT2.out.num.at (i := zt) (by rw [HNL.out]; exact hzl)
              have O2' : Hid (OwnE BlE (wr.setCell ⟨gq, i * 5 + 3, none⟩ (.int .i64 (N[zt]!))) Wb.heap.size (.slice (some ⟨gq, 0, none⟩) L.length cq) (reUp N rows (i + 1))) := by
                rw [reUp_zero hir HX.out]
                exact hT2.out.own.setR BlE_ok hil (r := 3) (by decide) (by rw [HI0.out]; rfl)
              have T3 := hideP (hT2.out.own_set rfl O2'.out)
              obtain ⟨y, hy⟩ : ∃ y, N[zt]! = y := ⟨_, rfl⟩
              rw [hy] at nc T3
              clear j1 j2 O2' hT2 hy
              go_wp2
              go_roundg (L.length - (i + 1))
              case rel => exact ⟨i + 1, by omega, by go_num, T3.out⟩
              case measure => omega
            · have hjt := j1 (Or.inr rfl)
              have hje := j2 rfl
              obtain ⟨zt, rfl⟩ : ∃ zt : Nat, t0 = (zt : Int) := ⟨t0.toNat, by have := hjt.1; omega⟩
              obtain ⟨ze, rfl⟩ : ∃ ze : Nat, els = (ze : Int) := ⟨els.toNat, by have := hje.1; omega⟩
              have hzl : zt < blocks.length := by have := hjt.2; omega
              have hel : ze < blocks.length := by have := hje.2; omega
              obtain ⟨nc, nf⟩ := hT2.out.num.at (i := zt) (by rw [HNL.out]; exact hzl)
              have O2' : Hid (OwnE BlE (wr.setCell ⟨gq, i * 5 + 3, none⟩ (.int .i64 (N[zt]!))) Wb.heap.size (.slice (some ⟨gq, 0, none⟩) L.length cq) ((reUp N rows i).set i (ux, kx, (⟨code, 1, a, N[zt]!, (ze : Int)⟩ : Blk)))) := hT2.out.own.setR BlE_ok hil (r := 3) (by decide) (by rw [HI0.out]; rfl)
              have T3 := hideP (hT2.out.own_set rfl O2'.out)
              have RU : Hid (reUp N rows (i + 1) = ((reUp N rows i).set i (ux, kx, (⟨code, 1, a, N[zt]!, (ze : Int)⟩ : Blk))).set i (ux, kx, (⟨code, 1, a, N[zt]!, N[ze]!⟩ : Blk))) := reUp_one hir HX.out
              obtain ⟨y, hy⟩ : ∃ y, N[zt]! = y := ⟨_, rfl⟩
              rw [hy] at nc T3 RU
              clear j1 j2 O2' hT2 hy
              go_upto_region 17 with fail
              obtain ⟨wa, hwa⟩ : ∃ wa, wr.setCell ⟨gq, i * 5 + 3, none⟩ (.int .i64 y) = wa := ⟨_, rfl⟩
              rw [hwa] at T3 ⊢
              clear hwa nc nf b1 b3 b4 bf
              have hil2 : i < ((reUp N rows i).set i (ux, kx, (⟨code, 1, a, y, (ze : Int)⟩ : Blk))).length := by rw [List.length_set]; exact hil
              have hi2 : ((reUp N rows i).set i (ux, kx, (⟨code, 1, a, y, (ze : Int)⟩ : Blk)))[i] = (ux, kx, (⟨code, 1, a, y, (ze : Int)⟩ : Blk)) := List.getElem_set_self _
              obtain ⟨b0, b1, b2, b3, b4, bf⟩ := bl_at T3.out.own i hil2 hi2
              obtain ⟨nc, nf⟩ := T3.out.num.at (i := ze) (by rw [HNL.out]; exact hel)
              have O4' : Hid (OwnE BlE (wa.setCell ⟨gq, i * 5 + 4, none⟩ (.int .i64 (N[ze]!))) Wb.heap.size (.slice (some ⟨gq, 0, none⟩) L.length cq) (reUp N rows (i + 1))) := by
                rw [RU.out]
                exact T3.out.own.setR BlE_ok hil2 (r := 4) (by decide) (by rw [hi2]; rfl)
              have T4 := hideP (T3.out.own_set rfl O4'.out)
              obtain ⟨y2, hy2⟩ : ∃ y2, N[ze]! = y2 := ⟨_, rfl⟩
              rw [hy2] at nc T4
              clear O4' T3 RU hy2 hi2 hil2 b0 b2 b3
              go_wp2
              go_roundg (L.length - (i + 1))
              case rel => exact ⟨i + 1, by omega, by go_num, T4.out⟩
              case measure => omega
            · have RU : Hid (reUp N rows (i + 1) = reUp N rows i) := reUp_two hir HX.out
              go_wp2
              go_roundg (L.length - (i + 1))
              case rel => exact ⟨i + 1, by omega, by go_num, by show TB _ _ _ _ _ _ _ _ _; rw [RU.out]; exact hT2.out⟩
              case measure => omega
          · have hiL : i = L.length := by omega
            subst hiL
            have lowq := hT2.out.own.low gq rfl
            have bel := hT2.out.bel
            have ob := (bel.block w1.heap.size (by omega)).trans O2.out
            have d0 := (cells_of ob).1 4
            have df := (cells_of ob).2
            simp at d0
            have ob2 := heap_setCell_same wr w1.heap.size 4 _ _ (.slice (some ⟨gq, 0, none⟩) L.length cq) ob
            have OB : Hid ((wr.setCell ⟨w1.heap.size, 4, none⟩ (.slice (some ⟨gq, 0, none⟩) L.length cq)).heap[w1.heap.size]? = some (.cells #[.slice us1 sizes.length cs1, .int .i64 p, .int .i64 q, .int .i64 r, .slice (some ⟨gq, 0, none⟩) L.length cq] 29 (0, 0))) := ob2
            have rr := (bel.block _ (hltH R2.out)).trans R2.out
            have hr1 := hltH R2.out
            have RS : Hid ((wr.setCell ⟨w1.heap.size, 4, none⟩ (.slice (some ⟨gq, 0, none⟩) L.length cq)).heap[w.heap.size + 1]? = some (.cells #[.slice none 0 0, .int .i64 0, .int .i64 0, .int .i64 0, .slice none 0 0] 29 (0, 0))) := (Below.heap_setCell wr ⟨w1.heap.size, 4, none⟩ _ _ (by simp only; have := HWb.out.size; have := L1; omega)).trans rr
            have BW1 : Hid (Below w1.heap.size w1 (wr.setCell ⟨w1.heap.size, 4, none⟩ (.slice (some ⟨gq, 0, none⟩) L.length cq))) := (below_trans A2.out bel).setCell (p := ⟨w1.heap.size, 4, none⟩) (Nat.le_refl _) _
            have BWB : Hid (Below w.heap.size w (wr.setCell ⟨w1.heap.size, 4, none⟩ (.slice (some ⟨gq, 0, none⟩) L.length cq))) := (below_trans HWb.out bel).setCell (p := ⟨w1.heap.size, 4, none⟩) (by simp only; have := L1; omega) _
            have OW : OwnE BlE (wr.setCell ⟨w1.heap.size, 4, none⟩ (.slice (some ⟨gq, 0, none⟩) L.length cq)) Wb.heap.size (.slice (some ⟨gq, 0, none⟩) L.length cq) (reUp N rows L.length) := hT2.out.own.blk (fun k hk hkl => Below.heap_setCell wr ⟨w1.heap.size, 4, none⟩ _ k (by have := hT2.out.own.low k hk; simp only; omega))
            have hRr : (rowB blocks L).length = L.length := by simp [rowB]
            have ROK : RowsOk w1 (w.heap.size + 2) blocks L (reUp N rows L.length) := by
              rw [← HN.out]
              exact reUp_ok hR.out HE.out (by rw [HN.out]; exact HNI.out) (fun b hb => ⟨(JT.out b hb).1, (JT.out b hb).2.1⟩) HIN.out
            have GI : Hid (GrIs (wr.setCell ⟨w1.heap.size, 4, none⟩ (.slice (some ⟨gq, 0, none⟩) L.length cq)) (w.heap.size + 2) #[.slice us1 sizes.length cs1, .int .i64 p, .int .i64 q, .int .i64 r, .slice (some ⟨gq, 0, none⟩) L.length cq] ⟨sizes, p, q, r, rowB blocks L⟩) := ⟨us1, cs1, some ⟨gq, 0, none⟩, cq, by simp only [hRr], HWF.out, HS1.out.stays BW1.out, rows_isB OW ROK (by rw [reUp_len]; exact HE.out) hLn BW1.out (Nat.le_refl _) (by have := L1; omega)⟩
            clear lowq bel ob ob2 rr OW ROK hRr hT2 BW1
            go_upto_region 20 with fail
            obtain ⟨wz, hwz⟩ : ∃ wz, wr.setCell ⟨w1.heap.size, 4, none⟩ (.slice (some ⟨gq, 0, none⟩) L.length cq) = wz := ⟨_, rfl⟩
            rw [hwz] at OB RS BWB GI ⊢
            clear hwz d0 df
            have d0 := (cells_of OB.out).1 0
            have d1 := (cells_of OB.out).1 1
            have d2 := (cells_of OB.out).1 2
            have d3 := (cells_of OB.out).1 3
            have d4 := (cells_of OB.out).1 4
            have z := RS.out
            have r0 := (cells_of z).1 0
            have r1 := (cells_of z).1 1
            have r2 := (cells_of z).1 2
            have r3 := (cells_of z).1 3
            have r4 := (cells_of z).1 4
            have rf := (cells_of z).2
            simp at d0 d1 d2 d3 d4 r0 r1 r2 r3 r4
            have z0 := heap_setCell_same wz _ 0 _ _ (.slice us1 sizes.length cs1) z
            have z1 := heap_setCell_same _ _ 1 _ _ (.int .i64 p) z0
            have z2 := heap_setCell_same _ _ 2 _ _ (.int .i64 q) z1
            have z3 := heap_setCell_same _ _ 3 _ _ (.int .i64 r) z2
            have z4 : (((((wz.setCell ⟨w.heap.size + 1, 0, none⟩ (.slice us1 sizes.length cs1)).setCell ⟨w.heap.size + 1, 1, none⟩ (.int .i64 p)).setCell ⟨w.heap.size + 1, 2, none⟩ (.int .i64 q)).setCell ⟨w.heap.size + 1, 3, none⟩ (.int .i64 r)).setCell ⟨w.heap.size + 1, 4, none⟩ (.slice (some ⟨gq, 0, none⟩) L.length cq)).heap[w.heap.size + 1]? = some (.cells #[.slice us1 sizes.length cs1, .int .i64 p, .int .i64 q, .int .i64 r, .slice (some ⟨gq, 0, none⟩) L.length cq] 29 (0, 0)) := heap_setCell_same _ _ 4 _ _ (.slice (some ⟨gq, 0, none⟩) L.length cq) z3
            have ZF := hideP z4
            have BU : Hid (But (w.heap.size + 1) wz (((((wz.setCell ⟨w.heap.size + 1, 0, none⟩ (.slice us1 sizes.length cs1)).setCell ⟨w.heap.size + 1, 1, none⟩ (.int .i64 p)).setCell ⟨w.heap.size + 1, 2, none⟩ (.int .i64 q)).setCell ⟨w.heap.size + 1, 3, none⟩ (.int .i64 r)).setCell ⟨w.heap.size + 1, 4, none⟩ (.slice (some ⟨gq, 0, none⟩) L.length cq))) := ((((((But.refl (w.heap.size + 1) wz).set 0 (.slice us1 sizes.length cs1)).set 1 (.int .i64 p)).set 2 (.int .i64 q)).set 3 (.int .i64 r)).set 4 (.slice (some ⟨gq, 0, none⟩) L.length cq))
            clear z z0 z1 z2 z3 z4
            go_wp2
            refine bodyPost_ret (results_cell_row rfl _ _ (w.heap.size + 1) 29 #[.slice us1 sizes.length cs1, .int .i64 p, .int .i64 q, .int .i64 r, .slice (some ⟨gq, 0, none⟩) L.length cq] (0, 0) _ rfl ZF.out Tryz.underlying29 rfl (by kernel_rfl)) rfl ?_
            rw [E.out]
            have hz9 := hltH RS.out
            exact ⟨_, rfl, GrKeeps.mono (GrKeeps.but GI.out (by omega) BU.out) (by omega), BWB.out.trans (BU.out.below (by omega) (by omega))⟩
theorem spec_trim (x : Gr) (w : World) (B : Nat) (v : Array Value) (h : GrIs w B v x) (GO : OkIs 14 x) (hf : Fits x) :
    Calls Tryz.prog 21 #[.agg v] w fun en w' => ∃ v', en = .returned (.agg v') ∧ GrIs w' w.heap.size v' (trimP x) ∧ Below w.heap.size w w' := spec_trim0 x w B v h GO hf
end Go.Proofs.YtelkpikbjfkpcaaGreat
