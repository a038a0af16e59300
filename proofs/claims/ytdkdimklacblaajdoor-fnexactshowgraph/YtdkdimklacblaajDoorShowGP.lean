/- The text of a graph, as lines; the program's texts of a block's name and of a jump; lists of texts that a call owns. -/
import Derived.Test.YtdkdimklacblaajDoorShowInI
import Derived.Test.YtdkdimklacblaajDoorGrOkP
import Derived.Test.YtdkdimklacblaajDoorShelfJ
import Derived.OwnWalk
namespace Go.Proofs.YtdkdimklacblaajDoor
open Go.ChangeShapes Go.WideShapes Go.ChangeAt Go.RowKit
def bL (n : Int) : List UInt8 := 98 :: Lib.itoa n
def jumpL (b : Blk) : List UInt8 := if b.jump = 0 then [103, 111, 32] ++ bL b.to else if b.jump = 1 then [105, 102, 32] ++ (sL b.a ++ (32 :: (bL b.to ++ (32 :: bL b.els)))) else [114, 101, 116, 32] ++ sL b.a
def headG (i : Nat) : List UInt8 := bL (i : Int) ++ [58, 10]
def lineG (x : Ins) : List UInt8 := stepL x ++ [10]
def blkG (i : Nat) (b : Blk) : List (List UInt8) := [headG i] ++ b.code.map lineG ++ [jumpL b ++ [10]]
def linesUp (bs : List Blk) : Nat → List (List UInt8)
  | 0 => []
  | j + 1 => linesUp bs j ++ match bs[j]? with | some b => blkG j b | none => []
theorem linesUp_at {bs : List Blk} {j : Nat} {b : Blk} (h : j < bs.length) (e : bs[j] = b) : linesUp bs (j + 1) = linesUp bs j ++ blkG j b := by
  show linesUp bs j ++ _ = _
  rw [List.getElem?_eq_getElem h, e]
theorem linesUp_len (bs : List Blk) (j : Nat) (h : j ≤ bs.length) : (linesUp bs j).length = 2 * j + (codeAll (bs.take j)).length := by
  induction j with
  | zero => simp [linesUp, codeAll]
  | succ j ih =>
    rw [linesUp_at (by omega) rfl, List.length_append, ih (by omega), List.take_succ_eq_append_getElem (by omega)]
    have e : codeAll (bs.take j ++ [bs[j]]) = codeAll (bs.take j) ++ bs[j].code := by unfold codeAll; rw [List.flatMap_append, List.flatMap_cons, List.flatMap_nil, List.append_nil]
    have e2 : (blkG j bs[j]).length = 2 + bs[j].code.length := by simp [blkG]; omega
    rw [e, e2, List.length_append]
    omega
theorem codeAll_le (bs : List Blk) (j : Nat) : (codeAll (bs.take j)).length ≤ (codeAll bs).length := by
  have e : codeAll bs = codeAll (bs.take j) ++ codeAll (bs.drop j) := by
    unfold codeAll
    conv => lhs; rw [← List.take_append_drop j bs, List.flatMap_append]
  rw [e, List.length_append]; omega
theorem grOk_few {g : Gr} (h : grOk g = true) : (codeAll g.blocks).length ≤ 1000 ∧ 1 ≤ g.blocks.length ∧ g.blocks.length ≤ 300 := by
  simp only [grOk, frOk, Bool.and_eq_true, decide_eq_true_eq] at h
  omega
theorem lines_few {g : Gr} (h : grOk g = true) (j : Nat) (hj : j ≤ g.blocks.length) : (linesUp g.blocks j).length ≤ 1600 := by
  have := grOk_few h
  have := codeAll_le g.blocks j
  rw [linesUp_len _ _ hj]; omega
theorem grOk_step {g : Gr} (h : grOk g = true) {b : Blk} (hb : b ∈ g.blocks) {x : Ins} (hx : x ∈ b.code) : insOk (g.sizes.length : Nat) g.slots x = true := by
  simp only [grOk, Bool.and_eq_true, List.all_eq_true] at h
  exact h.1.2 x (List.mem_flatMap.2 ⟨b, hb, hx⟩)
def showGL (g : Gr) : List UInt8 := if grOk g = true then (linesUp g.blocks g.blocks.length).flatten else []
theorem bL_len {n : Int} (h : I64 n) : (bL n).length ≤ 22 := by have := itoa_len h.1 h.2; simp [bL]; omega
theorem jumpL_len {b : Blk} (h : b.wf) : (jumpL b).length ≤ 100 := by
  have h1 := sL_len h.2.1
  have h2 := bL_len h.2.2.1
  have h3 := bL_len h.2.2.2
  unfold jumpL
  split
  · simp; omega
  · split <;> simp <;> omega
theorem stepL_len {x : Ins} (h : x.wf) (h2 : x.op = 2 → x.t.size ≤ 2) : (stepL x).length ≤ 150 := by
  obtain ⟨_, kd, ka, kb, kc, kn⟩ := h
  have l1 := sL_len kd
  have l2 := sL_len ka
  have l3 := sL_len kb
  have l4 := sL_len kc
  have l5 := itoa_len kn.1 kn.2
  have l6 := cellL_len kn ka kb
  have l7 : x.op = 2 → x.t.data.toList.length ≤ 2 := fun e => by simpa using h2 e
  unfold stepL
  repeat' split
  all_goals simp only [List.length_append, List.length_cons, List.length_nil] at *
  all_goals first | omega | (have := l7 (by assumption); omega)
theorem join_empty (xs : List (List UInt8)) : Lib.join xs [] = xs.flatten := by
  cases xs with
  | nil => rfl
  | cons x r => rw [Lib.join_cons]; simp [Lib.joinTail]
theorem flat_len (ps : List ByteArray) (h : ∀ p ∈ ps, p.size ≤ 200) : (ps.map (fun b : ByteArray => b.data.toList)).flatten.length ≤ 200 * ps.length := by
  induction ps with
  | nil => simp
  | cons p ps ih =>
    have h1 := h p List.mem_cons_self
    have h2 := ih (fun q hq => h q (List.mem_cons_of_mem _ hq))
    have h3 : p.data.toList.length ≤ 200 := by simpa using h1
    rw [List.map_cons, List.flatten_cons, List.length_append, List.length_cons]
    omega
theorem blockText_any (n : Int) (hn : I64 n) (w : World) (ht : Tab w) :
    Calls Tryd.prog 17 #[.int .i64 n] w fun e w' => e = .returned (.string ⟨(bL n).toArray⟩) ∧ Below w.heap.size w w' := by
  have l1 := itoa_len hn.1 hn.2
  go_enter Tryd.func17, Tryd.ntmps17
  go_wp2_with fail
  refine (impl_dec n _ hn.1 hn.2 ht).mono ?_
  rintro e1 w1 ⟨rfl, bel⟩
  go_wp2
  go_ret
  exact ⟨ret_str (mk_of (by simp [bL])), bel⟩
/-- The value is a slice of these texts, in a block of its own from B on. -/
def OwnS (w : World) (B : Nat) (v : Value) (ps : List ByteArray) : Prop := w.ownsRow B 9 1 v ps.length (ps.map Value.string)
theorem OwnS.stays {w w' : World} {B : Nat} {v : Value} {ps : List ByteArray} (h : OwnS w B v ps) (bel : Below w.heap.size w w') : OwnS w' B v ps := by
  obtain ⟨hl, h0 | ⟨g, cap, cur, hv, hB, hh, hr⟩⟩ := h
  · exact ⟨hl, Or.inl h0⟩
  · exact ⟨hl, Or.inr ⟨g, cap, cur, hv, hB, (bel.block g (Array.getElem?_eq_some_iff.1 hh).1).trans hh, hr⟩⟩
theorem OwnS.low {w : World} {B : Nat} {v : Value} {ps : List ByteArray} (h : OwnS w B v ps) : ∀ b, v.ownBlock = some b → B ≤ b ∧ b < w.heap.size := fun b hb => World.ownsRow.lt h b hb
theorem OwnS.box {w w' : World} {B bx : Nat} {v : Value} {ps : List ByteArray} {cs : Array Value} {T : TypeId} (h : OwnS w B v ps) (hT : T ≠ 9) (hx : w.heap[bx]? = some (.cells cs T (0, 0))) (gr : w.grownBy w' v.ownBlock) : w'.heap[bx]? = some (.cells cs T (0, 0)) := by
  refine (gr.block bx (Array.getElem?_eq_some_iff.1 hx).1 (fun e => ?_)).trans hx
  obtain ⟨_, ⟨h0, _⟩ | ⟨g, cap, cur, hv, _, hh, _⟩⟩ := h
  · rw [h0] at e; simp [Value.ownBlock] at e
  · rw [hv] at e
    have e2 : g = bx := by simpa [Value.ownBlock] using e.symm
    subst e2
    rw [hx] at hh
    simp at hh
    exact hT hh.2
theorem infoStr : (Tryd.prog.info? 9).map (fun i => (i.zero, i.size, i.bytes)) = some (some (.string ⟨#[]⟩), 1, 16) := by kernel_rfl
theorem OwnS.at {w : World} {B : Nat} {v : Value} {ps : List ByteArray} (h : OwnS w B v ps) (hne : 0 < ps.length) :
    ∃ g cap, v = .slice (some ⟨g, 0, none⟩) ps.length cap ∧ ps.length ≤ cap ∧ g < w.heap.size ∧ ∀ (j : Nat) x, ps[j]? = some x → w.cell? ⟨g, 0 + j, none⟩ = some (.string x) := by
  obtain ⟨_, ⟨_, h0⟩ | ⟨g, cap, cur, rfl, hB, hh, hn, _, hs, ht⟩⟩ := h
  · omega
  · refine ⟨g, cap, rfl, hn, (Array.getElem?_eq_some_iff.1 hh).1, fun i x hi => ?_⟩
    obtain ⟨hi', hx⟩ := List.getElem?_eq_some_iff.1 hi
    have h1 : (cur.toList.take (ps.length * 1))[i]? = (ps.map Value.string)[i]? := by rw [ht]
    rw [List.getElem?_take_of_lt (by omega), List.getElem?_map, hi, Array.getElem?_toList] at h1
    simp only [World.cell?, hh, Nat.zero_add]
    exact h1
/-- append of one text, in a region that goes in its order. -/
theorem list_appS {ops : Array Oper} {o : Oper} {a : Act} {Q : Exit → Act → World → Prop} {rest : List Oper} (w : World) (hgd : o.guard = none) (s x : Operand) (ho : o.op = .call { callee := .builtin .append, args := #[s, x], argTypes := #[46, 46] })
    (B : Nat) (v1 : Value) (ps : List ByteArray) (t : ByteArray) (b : Nat) (hs : a.eval s = v1) (hx : a.eval x = .slice (some ⟨b, 0, none⟩) 1 1) (h1 : OwnS w B v1 ps) (h2 : w.cell? ⟨b, 0, none⟩ = some (.string t)) (hn : ps.length ≤ 100000) (hB : B ≤ w.heap.size)
    (h : ∀ v' w', OwnS w' B v' (ps ++ [t]) → w.grownBy w' v1.ownBlock → wpList Tryd.prog ops Q rest (a.put o.dst v') w') :
    wpList Tryd.prog ops Q (o :: rest) a w := by
  obtain ⟨i0, hi, hz0, hz1, hz2⟩ := info_parts infoStr
  refine wpList_append_own w hgd s x 46 ho B 9 i0 (.string ⟨#[]⟩) 1 16 Tryd.underlying46 hi hz0 hz1 hz2 rfl (by decide) v1 ps.length (ps.map Value.string) hs h1 ⟨b, 0, none⟩ 1 1 [.string t] hx rfl ?c1 ?c2 ?c3 ?c4 hB ?_
  case c1 =>
    intro j u hj
    match j, hj with
    | 0, hj => simp at hj; subst hj; simpa [Addr.add] using h2
  case c2 => intro u hu; simp at hu; subst hu; rfl
  case c3 => unfold maxLen; omega
  case c4 => omega
  intro v' w' ho' hg' _
  refine h v' w' ?_ hg'
  unfold OwnS
  simpa using ho'
end Go.Proofs.YtdkdimklacblaajDoor
