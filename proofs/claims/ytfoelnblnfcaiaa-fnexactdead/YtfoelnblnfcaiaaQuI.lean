/- A list of numbers that a call owns and whose head may have been cut off: its append. -/
import Derived.Test.YtfoelnblnfcaiaaOwnIntL
namespace Go.Proofs.Ytfoelnblnfcaiaa
open Go.ChangeShapes Go.WideShapes Go.ChangeAt Go.RowKit
theorem run_append_room_off {P : Program} (w : World) (t ty e : TypeId) (i : TypeInfo) (ht : P.underlying t = some (.slice e)) (hi : P.info? e = some i)
    (g o sLen sCap : Nat) (cur : Array Value) (hg : w.heap[g]? = some (.cells cur e (0, 0)))
    (a : Addr) (m c : Nat) (news : List Value) (hl : news.length = m * i.size) (hnews : ∀ j u, news[j]? = some u → w.cell? (a.add j) = some u) (h1 : ∀ u ∈ news, u.oneCell' = true)
    (hroom : sLen + m ≤ sCap) (hfit : o + sLen * i.size + news.length ≤ cur.size) :
    (Builtin.append_ #[t, t] ty #[.slice (some ⟨g, o, none⟩) sLen sCap, .slice (some a) m c]).run P w =
      .ok (.slice (some ⟨g, o, none⟩) (sLen + m) sCap) (w.setRow g (cur.toList.take (o + sLen * i.size) ++ news ++ cur.toList.drop (o + sLen * i.size + news.length)).toArray) := by
  have hf := run_firstCells_some (P := P) w i.size m a m c news hl hnews
  have hst := run_storeCells_at P g (o + sLen * i.size) e news 0 cur w hg (by simpa using hfit) h1
  simp only [Nat.add_zero] at hst
  simp [Builtin.append_, run_underlying ht, sizeOf, typeInfo, hi, Builtin.lenOf, hroom, hf, Addr.add_lit, hst]
/-- The value is a slice of these numbers within a block of its own from B on. -/
def QuI (w : World) (B : Nat) (v : Value) (l : List Int) : Prop := ∃ (g o cap : Nat) (cur : Array Value), v = .slice (some ⟨g, o, none⟩) l.length cap ∧ B ≤ g ∧ w.heap[g]? = some (.cells cur 3 (0, 0)) ∧ l.length ≤ cap ∧ cap ≤ maxLen ∧ o + cap ≤ cur.size ∧ ∀ j (hj : j < l.length), cur[o + j]? = some (.int .i64 l[j])
theorem QuI.of_own {w : World} {B : Nat} {v : Value} {l : List Int} (h : OwnI w B v l) : QuI w B v l := by
  obtain ⟨g, cap, cur, rfl, hB, hh, hc, hm, hs, hx⟩ := h.parts
  exact ⟨g, 0, cap, cur, rfl, hB, hh, hc, hm, by omega, fun j hj => by rw [Nat.zero_add]; exact hx j hj⟩
theorem QuI.low {w : World} {B : Nat} {v : Value} {l : List Int} (h : QuI w B v l) : ∃ g, v.ownBlock = some g ∧ B ≤ g ∧ g < w.heap.size := by
  obtain ⟨g, o, cap, cur, rfl, hB, hh, _⟩ := h
  exact ⟨g, rfl, hB, (Array.getElem?_eq_some_iff.1 hh).1⟩
theorem QuI.keep {w w' : World} {B : Nat} {v : Value} {l : List Int} (h : QuI w B v l) (hk : ∀ g, v.ownBlock = some g → w'.heap[g]? = w.heap[g]?) : QuI w' B v l := by
  obtain ⟨g, o, cap, cur, rfl, hB, hh, hr⟩ := h
  exact ⟨g, o, cap, cur, rfl, hB, (hk g rfl).trans hh, hr⟩
theorem QuI.stays {w w' : World} {B : Nat} {v : Value} {l : List Int} (h : QuI w B v l) (bel : Below w.heap.size w w') : QuI w' B v l := by
  obtain ⟨b, hb, _, hlt⟩ := h.low
  exact h.keep fun g hg => bel.block g (by rw [hb] at hg; cases hg; exact hlt)
/-- Without its first number. -/
theorem QuI.tail {w : World} {B g o n cap : Nat} {a : Int} {l : List Int} (h : QuI w B (.slice (some ⟨g, o, none⟩) n cap) (a :: l)) : QuI w B (.slice (some ⟨g, o + 1, none⟩) l.length (cap - 1)) l ∧ (cap = 1 → QuI w B (.slice (some ⟨g, o, none⟩) l.length (cap - 1)) l) := by
  obtain ⟨g', o', cap', cur, hv, hB, hh, hc, hm, hs, hx⟩ := h
  cases hv
  simp only [List.length_cons] at hc
  refine ⟨⟨g, o + 1, cap - 1, cur, rfl, hB, hh, by omega, by omega, by omega, fun j hj => ?_⟩, fun h1 => ⟨g, o, cap - 1, cur, rfl, hB, hh, by omega, by omega, by omega, fun j hj => by omega⟩⟩
  have := hx (j + 1) (by simpa using hj)
  rw [show o + 1 + j = o + (j + 1) by omega]
  simpa using this
theorem QuI.at {w : World} {B g o n cap : Nat} {l : List Int} (h : QuI w B (.slice (some ⟨g, o, none⟩) n cap) l) (j : Nat) (hj : j < l.length) : w.cell? ⟨g, o + j, none⟩ = some (.int .i64 l[j]) := by
  obtain ⟨g', o', cap', cur, hv, hB, hh, hc, hm, hs, hx⟩ := h
  cases hv
  rw [(cells_of hh).1]; exact hx j hj
theorem run_appQ {w : World} {B : Nat} {v1 : Value} {l : List Int} {x : Int} {b o2 cap2 : Nat} (ty : TypeId) (h1 : QuI w B v1 l) (h2 : w.cell? ⟨b, o2, none⟩ = some (.int .i64 x)) (hn : l.length ≤ 8000000) (hB : B ≤ w.heap.size) :
    ∃ v' w', (Builtin.append_ #[22, 22] ty #[v1, .slice (some ⟨b, o2, none⟩) 1 cap2]).run Try.prog w = .ok v' w' ∧ QuI w' B v' (l ++ [x]) ∧ w.grownBy w' v1.ownBlock ∧ (v'.ownBlock = v1.ownBlock ∨ v'.ownBlock = some w.heap.size) := by
  obtain ⟨i0, hi, hz0, hz1, hz2⟩ := info_parts infoInt
  obtain ⟨g, o, cap, cur, rfl, hBg, hh, hc, hm, hs, hx⟩ := h1
  have hnews : ∀ (j : Nat) (u : Value), [Value.int .i64 x][j]? = some u → w.cell? ((⟨b, o2, none⟩ : Addr).add j) = some u := fun j u hj => by
    obtain ⟨hj1, hj2⟩ := List.getElem?_eq_some_iff.1 hj
    have : j = 0 := by simpa using hj1
    subst this
    rw [addr_add', ← hj2]; exact h2
  have hcl : cur.toList.length = cur.size := Array.length_toList
  have hone : ∀ u ∈ [Value.int .i64 x], u.oneCell' = true := fun u hu => by rw [List.mem_singleton.1 hu]; rfl
  by_cases hroom : l.length + 1 ≤ cap
  · have hr := run_append_room_off (P := Try.prog) w 22 ty 3 i0 Try.underlying22 hi g o l.length cap cur hh ⟨b, o2, none⟩ 1 cap2 [.int .i64 x] (by simp [hz1]) hnews hone hroom (by rw [hz1]; simp; omega)
    refine ⟨_, _, hr, ⟨g, o, cap, _, by simp, hBg, setRow_heap w g cur _ _ _ hh, by simpa using hroom, hm, ?_, fun j hj => ?_⟩, ⟨rfl, rfl, rfl, by simp, fun k _ hk => setRow_other w g k _ (fun e => hk (by simp [Value.ownBlock, e]))⟩, Or.inl rfl⟩
    · rw [hz1]
      simp only [List.size_toArray, List.length_append, List.length_take, List.length_drop, Array.length_toList, List.length_singleton]
      omega
    · rw [hz1, Nat.mul_one, List.getElem?_toArray]
      have htl : (cur.toList.take (o + l.length)).length = o + l.length := by rw [List.length_take]; have e : cur.toList.length = cur.size := Array.length_toList; omega
      rw [List.length_append, List.length_singleton] at hj
      by_cases hjl : j < l.length
      · rw [List.append_assoc, List.getElem?_append_left (by omega), List.getElem?_take_of_lt (by omega), List.getElem_append_left hjl]
        simpa using hx j hjl
      · have hje : j = l.length := by omega
        subst hje
        rw [List.append_assoc, List.getElem?_append_right (by omega), htl]
        simp
  · have holds : ∀ (j : Nat) (u : Value), (l.map (Value.int .i64))[j]? = some u → w.cell? ((⟨g, o, none⟩ : Addr).add j) = some u := fun j u hj => by
      obtain ⟨hj1, hj2⟩ := List.getElem?_eq_some_iff.1 hj
      rw [List.length_map] at hj1
      rw [addr_add', (cells_of hh).1, hx j hj1, ← hj2]; simp
    have hr := run_append_grow (P := Try.prog) w 22 ty 3 i0 (.int .i64 0) Try.underlying22 hi hz0 ⟨g, o, none⟩ l.length cap (l.map (Value.int .i64)) (by simp [hz1]) holds ⟨b, o2, none⟩ 1 cap2 [.int .i64 x] (by simp [hz1]) hnews (by omega) (by omega) (growslice_fits (by omega) (by rw [hz2]; omega))
    have hge := grownCap_ge w (l.length + 1) cap 3
    refine ⟨_, _, hr, ⟨w.heap.size, 0, _, _, by simp, hB, heap_alloc_new w.drew _, by simpa using hge, grownCap_le_maxLen w (l.length + 1) cap 3 (by unfold maxLen; omega), ?_, fun j hj => ?_⟩, ⟨rfl, rfl, rfl, by simp, fun k hk _ => heap_alloc_old w.drew _ hk⟩, Or.inr rfl⟩
    · simp only [Array.size_append, List.size_toArray, size_zeroCells, List.length_map, List.length_singleton]
      have : (Value.int IntKind.i64 0).cells.size = 1 := rfl
      rw [this]
      omega
    · rw [Nat.zero_add, Array.getElem?_append_left (by simpa using hj)]
      have e : ((l.map (Value.int .i64)).toArray ++ #[Value.int .i64 x])[j]? = ((l ++ [x]).map (Value.int .i64))[j]? := by
        rw [List.map_append]; simp
      rw [show ([Value.int IntKind.i64 x].toArray) = #[Value.int .i64 x] from rfl, e]
      rw [List.getElem?_map, List.getElem?_eq_getElem hj]; rfl
theorem list_appQ {ops : Array Oper} {o : Oper} {a : Act} {Q : Exit → Act → World → Prop} {rest : List Oper} (w : World) (hgd : o.guard = none) (s x : Operand) (ho : o.op = .call { callee := .builtin .append, args := #[s, x], argTypes := #[22, 22] })
    (B : Nat) (v1 : Value) (l : List Int) (y : Int) (b o2 cap2 : Nat) (hs : a.eval s = v1) (hx : a.eval x = .slice (some ⟨b, o2, none⟩) 1 cap2) (h1 : QuI w B v1 l) (h2 : w.cell? ⟨b, o2, none⟩ = some (.int .i64 y)) (hn : l.length ≤ 8000000) (hB : B ≤ w.heap.size)
    (h : ∀ v' w', QuI w' B v' (l ++ [y]) → w.grownBy w' v1.ownBlock → (v'.ownBlock = v1.ownBlock ∨ v'.ownBlock = some w.heap.size) → wpList Try.prog ops Q rest (a.put o.dst v') w') :
    wpList Try.prog ops Q (o :: rest) a w := by
  refine wpList_plain hgd fun K hK => ?_
  obtain ⟨v', w', hr, r1, r2, r3⟩ := run_appQ (cap2 := cap2) o.type h1 h2 hn hB
  unfold Oper.wp execOp
  simp only [ho, resolve, invoke, builtin, Sem.run_bind, Sem.run_pure, Result.andThen_ok, List.map_toArray, List.map_cons, List.map_nil, hs, hx, hr]
  exact hK _ _ (h v' w' r1 r2 r3)
end Go.Proofs.Ytfoelnblnfcaiaa
