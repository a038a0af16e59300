/- Rows of steps in a block, written in place. -/
import Derived.Test.YtjmclmbepnbeoaaShD
import Derived.Test.YtjmclmbepnbeoaaOwnA
import Derived.WalkKit
namespace Go.Proofs.Ytjmclmbepnbeoaa
open Go.ChangeShapes Go.WideShapes Go.ChangeAt Go.RowKit
def insV (x : Ins) : Array Value := #[.int .i64 x.op, .int .i64 x.d, .int .i64 x.a, .int .i64 x.b, .int .i64 x.c, .int .i64 x.n, .string x.t]
theorem hltP {w : World} {b : Nat} {o : Obj} (h : w.heap[b]? = some o) : b < w.heap.size := (Array.getElem?_eq_some_iff.1 h).1
/-- w' is w but for blocks a and b and for what is new. -/
structure But2 (a b : Nat) (w w' : World) : Prop where
  os : w'.os = w.os
  tape : w'.tape = w.tape
  output : w'.output = w.output
  size : w.heap.size ≤ w'.heap.size
  block : ∀ k, k < w.heap.size → k ≠ a → k ≠ b → w'.heap[k]? = w.heap[k]?
theorem But2.refl (a b : Nat) (w : World) : But2 a b w w := ⟨rfl, rfl, rfl, Nat.le_refl _, fun _ _ _ _ => rfl⟩
theorem But2.of1 {a b : Nat} {w w' : World} (h : But a w w') : But2 a b w w' := ⟨h.os, h.tape, h.output, h.size, fun k hk h1 _ => h.block k hk h1⟩
theorem But2.ofB {a b : Nat} {w w' : World} (h : Below w.heap.size w w') : But2 a b w w' := ⟨h.os, h.tape, h.output, h.size, fun k hk _ _ => h.block k hk⟩
theorem But2.trans {a b : Nat} {w w1 w2 : World} (h : But2 a b w w1) (k : But2 a b w1 w2) : But2 a b w w2 :=
  ⟨k.os.trans h.os, k.tape.trans h.tape, k.output.trans h.output, Nat.le_trans h.size k.size, fun i hi h1 h2 => (k.block i (Nat.lt_of_lt_of_le hi h.size) h1 h2).trans (h.block i hi h1 h2)⟩
theorem But2.set2 {a b : Nat} {w w1 : World} (h : But2 a b w w1) (i : Nat) (v : Value) : But2 a b w (w1.setCell ⟨b, i, none⟩ v) :=
  ⟨h.os, h.tape, h.output, by simp [World.setCell]; exact h.size, fun k hk h1 h2 => (Below.heap_setCell w1 ⟨b, i, none⟩ v k h2).trans (h.block k hk h1 h2)⟩
theorem But2.below {a b B : Nat} {w w' : World} (h : But2 a b w w') (ha : B ≤ a) (hb : B ≤ b) (hw : B ≤ w.heap.size) : Below B w w' :=
  ⟨h.os, h.tape, h.output, h.size, fun k hk => h.block k (by omega) (by omega) (by omega)⟩
/-- A step's cells, one by one. -/
def insF (y : Ins) : Nat → Value
  | 0 => .int .i64 y.op
  | 1 => .int .i64 y.d
  | 2 => .int .i64 y.a
  | 3 => .int .i64 y.b
  | 4 => .int .i64 y.c
  | 5 => .int .i64 y.n
  | _ => .string y.t
theorem insF_at (y : Ins) : ∀ r, r < 7 → (insV y)[r]? = some (insF y r)
  | 0, _ => rfl
  | 1, _ => rfl
  | 2, _ => rfl
  | 3, _ => rfl
  | 4, _ => rfl
  | 5, _ => rfl
  | 6, _ => rfl
/-- Block g begins with n rows of seven cells. -/
def RowF (w : World) (g o n : Nat) (f : Nat → Nat → Value) : Prop := ∃ cur T, w.heap[g]? = some (.cells cur T (0, 0)) ∧ o + n * 7 ≤ cur.size ∧ ∀ k, k < n → ∀ r, r < 7 → cur[o + k * 7 + r]? = some (f k r)
theorem RowF.lt {w : World} {g o n : Nat} {f : Nat → Nat → Value} (h : RowF w g o n f) : g < w.heap.size := let ⟨_, _, h1, _⟩ := h; hltP h1
theorem RowF.keep {w w' : World} {g o n : Nat} {f : Nat → Nat → Value} (h : RowF w g o n f) (hk : w'.heap[g]? = w.heap[g]?) : RowF w' g o n f := let ⟨c, T, h1, h2⟩ := h; ⟨c, T, hk.trans h1, h2⟩
theorem RowF.congr {w : World} {g o n : Nat} {f f' : Nat → Nat → Value} (h : RowF w g o n f) (e : ∀ k, k < n → ∀ r, r < 7 → f k r = f' k r) : RowF w g o n f' := let ⟨c, T, h1, h2, h3⟩ := h; ⟨c, T, h1, h2, fun k hk r hr => by rw [h3 k hk r hr, e k hk r hr]⟩
theorem RowF.at {w : World} {g o n : Nat} {f : Nat → Nat → Value} (h : RowF w g o n f) {k r : Nat} (hk : k < n) (hr : r < 7) : w.cell? ⟨g, o + k * 7 + r, none⟩ = some (f k r) ∧ ∀ i, w.frozen? ⟨g, i, none⟩ = false := by
  obtain ⟨c, T, h1, h2, h3⟩ := h
  exact ⟨by simp only [World.cell?, h1]; exact h3 k hk r hr, (cells_of h1).2⟩
theorem RowF.seen {w : World} {g o n : Nat} {f : Nat → Nat → Value} (h : RowF w g o n f) {k : Nat} (hk : k < n) : ∃ u0 u1 u2 u3 u4 u5 u6, w.cell? ⟨g, o + k * 7, none⟩ = some u0 ∧ w.cell? ⟨g, o + k * 7 + 1, none⟩ = some u1 ∧ w.cell? ⟨g, o + k * 7 + 2, none⟩ = some u2 ∧ w.cell? ⟨g, o + k * 7 + 3, none⟩ = some u3 ∧ w.cell? ⟨g, o + k * 7 + 4, none⟩ = some u4 ∧ w.cell? ⟨g, o + k * 7 + 5, none⟩ = some u5 ∧ w.cell? ⟨g, o + k * 7 + 6, none⟩ = some u6 ∧ ∀ i, w.frozen? ⟨g, i, none⟩ = false :=
  ⟨_, _, _, _, _, _, _, (h.at hk (r := 0) (by omega)).1, (h.at hk (r := 1) (by omega)).1, (h.at hk (r := 2) (by omega)).1, (h.at hk (r := 3) (by omega)).1, (h.at hk (r := 4) (by omega)).1, (h.at hk (r := 5) (by omega)).1, (h.at hk (r := 6) (by omega)).1, (h.at hk (r := 0) (by omega)).2⟩
theorem RowF.set {w : World} {g o n : Nat} {f : Nat → Nat → Value} (h : RowF w g o n f) {j r0 : Nat} (hj : j < n) (hr0 : r0 < 7) (u : Value) : RowF (w.setCell ⟨g, o + j * 7 + r0, none⟩ u) g o n (fun k r => if k = j ∧ r = r0 then u else f k r) := by
  obtain ⟨c, T, h1, h2, h3⟩ := h
  refine ⟨c.setIfInBounds (o + j * 7 + r0) u, T, heap_setCell_same w g _ c _ _ h1, by simpa using h2, fun k hk r hr => ?_⟩
  show (c.setIfInBounds (o + j * 7 + r0) u)[o + k * 7 + r]? = some (if k = j ∧ r = r0 then u else f k r)
  rw [Array.getElem?_setIfInBounds]
  by_cases e : k = j ∧ r = r0
  · obtain ⟨rfl, rfl⟩ := e
    rw [if_pos rfl, if_pos (by omega), if_pos ⟨rfl, rfl⟩]
  · rw [if_neg (by omega), if_neg e]
    exact h3 k hk r hr
/-- A whole row is written. -/
theorem RowF.put {w : World} {g o n : Nat} {f : Nat → Nat → Value} (h : RowF w g o n f) {j : Nat} (hj : j < n) (y : Ins) :
    RowF (((((((w.setCell ⟨g, o + j * 7, none⟩ (.int .i64 y.op)).setCell ⟨g, o + j * 7 + 1, none⟩ (.int .i64 y.d)).setCell ⟨g, o + j * 7 + 2, none⟩ (.int .i64 y.a)).setCell ⟨g, o + j * 7 + 3, none⟩ (.int .i64 y.b)).setCell ⟨g, o + j * 7 + 4, none⟩ (.int .i64 y.c)).setCell ⟨g, o + j * 7 + 5, none⟩ (.int .i64 y.n)).setCell ⟨g, o + j * 7 + 6, none⟩ (.string y.t)) g o n (fun k r => if k = j then insF y r else f k r) := by
  have h0 := h.set hj (r0 := 0) (by omega) (.int .i64 y.op)
  have h1 := h0.set hj (r0 := 1) (by omega) (.int .i64 y.d)
  have h2 := h1.set hj (r0 := 2) (by omega) (.int .i64 y.a)
  have h3 := h2.set hj (r0 := 3) (by omega) (.int .i64 y.b)
  have h4 := h3.set hj (r0 := 4) (by omega) (.int .i64 y.c)
  have h5 := h4.set hj (r0 := 5) (by omega) (.int .i64 y.n)
  have h6 := h5.set hj (r0 := 6) (by omega) (.string y.t)
  refine h6.congr (fun k hk r hr => ?_)
  by_cases e : k = j
  · subst e
    simp only [true_and]
    match r, hr with
    | 0, _ => rfl
    | 1, _ => rfl
    | 2, _ => rfl
    | 3, _ => rfl
    | 4, _ => rfl
    | 5, _ => rfl
    | 6, _ => rfl
  · simp [e]
/-- Block g begins with these steps. -/
def CodeF (w : World) (g o : Nat) (l : List Ins) : Prop := RowF w g o l.length (fun k r => insF (l[k]!) r)
theorem set7 (W : World) (g o j : Nat) (v0 v1 v2 v3 v4 v5 v6 : Value) : But g W (((((((W.setCell ⟨g, o + j * 7, none⟩ v0).setCell ⟨g, o + j * 7 + 1, none⟩ v1).setCell ⟨g, o + j * 7 + 2, none⟩ v2).setCell ⟨g, o + j * 7 + 3, none⟩ v3).setCell ⟨g, o + j * 7 + 4, none⟩ v4).setCell ⟨g, o + j * 7 + 5, none⟩ v5).setCell ⟨g, o + j * 7 + 6, none⟩ v6) :=
  ((((((But.refl g W).set _ v0).set _ v1).set _ v2).set _ v3).set _ v4).set _ v5 |>.set _ v6
theorem newI (w : World) (cs : Array Value) : (w.alloc (.cells cs 48)).heap[w.heap.size]? = some (.cells cs 48) := by show (w.heap.push _)[w.heap.size]? = _; exact Array.getElem?_push_size
theorem RowAt.butne {w w' : World} {B g b o : Nat} {n sz : Nat} {vs : Nat → Array Value} (h : RowAt w B (some ⟨b, o, none⟩) n sz vs) (hne : b ≠ g) (hb : But g w w') : RowAt w' B (some ⟨b, o, none⟩) n sz vs := by
  rcases h with h | ⟨b', o', ha, hB, hbl, hp, hc⟩
  · exact Or.inl h
  · cases ha
    have hk := hb.block b hbl hne
    refine Or.inr ⟨b, o, rfl, hB, Nat.lt_of_lt_of_le hbl hb.size, fun h0 => ?_, fun i hi => ⟨(hc i hi).1, fun j hj => ?_⟩⟩
    · obtain ⟨cs, T, h1⟩ := hp h0
      exact ⟨cs, T, hk.trans h1⟩
    · rw [World.cell?_of_block (a := ⟨b, o + i * sz + j, none⟩) hk]
      exact (hc i hi).2 j hj
theorem SlIs.butne {w w' : World} {B g : Nat} {a : Option Addr} {xs : List Ins} (h : SlIs InsIs 7 w B a xs) (hne : 0 < xs.length → ∀ b o, a = some ⟨b, o, none⟩ → b ≠ g) (hb : But g w w') : SlIs InsIs 7 w' B a xs := by
  obtain ⟨hl, vs, hr, hx⟩ := h
  refine ⟨hl, vs, ?_, hx⟩
  by_cases h0 : xs.length = 0
  · exact Or.inl h0
  · rcases id hr with h1 | ⟨b, o, ha, _⟩
    · exact absurd h1 h0
    · subst ha
      exact hr.butne (hne (by omega) b o rfl) hb
theorem IntsIs.butne {w w' : World} {B g : Nat} {a : Option Addr} {zs : List Int} (h : IntsIs w B a zs) (hne : 0 < zs.length → ∀ b o, a = some ⟨b, o, none⟩ → b ≠ g) (hb : But g w w') : IntsIs w' B a zs := by
  obtain ⟨hl, h0 | ⟨b, o, ha, hB, hbl, hp, hc⟩⟩ := h
  · exact ⟨hl, Or.inl h0⟩
  · by_cases hz : zs.length = 0
    · exact ⟨hl, Or.inl hz⟩
    · have hk := hb.block b hbl (hne (by omega) b o ha)
      refine ⟨hl, Or.inr ⟨b, o, ha, hB, Nat.lt_of_lt_of_le hbl hb.size, fun h0 => ?_, fun i hi => ?_⟩⟩
      · obtain ⟨cs, T, h1⟩ := hp h0
        exact ⟨cs, T, hk.trans h1⟩
      · rw [World.cell?_of_block (a := ⟨b, o + i, none⟩) hk]
        exact hc i hi
theorem slice_inj {a b : Option Addr} {n m c d : Nat} (h : Value.slice a n c = Value.slice b m d) : a = b ∧ n = m ∧ c = d := by cases h; exact ⟨rfl, rfl, rfl⟩
theorem five_inj {a0 a1 a2 a3 a4 b0 b1 b2 b3 b4 : Value} (h : #[a0, a1, a2, a3, a4] = #[b0, b1, b2, b3, b4]) : a0 = b0 ∧ a4 = b4 := by simp at h; exact ⟨h.1, h.2.2.2.2⟩
/-- The code that stands in a block anew is that code. -/
theorem CodeF.is {w : World} {g o B : Nat} {l : List Ins} (h : CodeF w g o l) (hB : B ≤ g) (hl : l.length ≤ maxLen) (hw : ∀ z ∈ l, z.wf ∧ z.t.size ≤ maxLen) : SlIs InsIs 7 w B (some ⟨g, o, none⟩) l := by
  obtain ⟨cur, T, h1, h2, h3⟩ := h
  refine ⟨hl, fun i => insV (l[i]!), Or.inr ⟨g, o, rfl, hB, hltP h1, fun _ => ⟨cur, T, h1⟩, fun i hi => ⟨rfl, fun j hj => ?_⟩⟩, fun i hi => ?_⟩
  · simp only [World.cell?, h1]
    rw [h3 i hi j hj, insF_at _ j hj]
    rfl
  · simp only [getElem!_pos l i hi]
    exact ⟨rfl, hw _ (List.getElem_mem hi)⟩
theorem codeF_of {w : World} {g o B : Nat} {l : List Ins} (h : SlIs InsIs 7 w B (some ⟨g, o, none⟩) l) (hc : ∃ c T, w.heap[g]? = some (.cells c T (0, 0)) ∧ o + l.length * 7 ≤ c.size) : CodeF w g o l := by
  obtain ⟨c, T, h1, h2⟩ := hc
  obtain ⟨_, vs, hr, hx⟩ := h
  refine ⟨c, T, h1, h2, fun k hk r hr7 => ?_⟩
  rcases hr with h0 | ⟨b', o', ha, _, _, _, hcc⟩
  · omega
  · cases ha
    have e1 : c[o + k * 7 + r]? = (vs k)[r]? := by
      have := (hcc k hk).2 r hr7
      simp only [World.cell?, h1] at this
      exact this
    rw [e1, (hx k hk).1]
    show _ = some (insF (l[k]!) r)
    rw [getElem!_pos l k hk]
    exact insF_at _ r hr7
end Go.Proofs.Ytjmclmbepnbeoaa

/- Boxes of steps: two at once; seven cells written. -/
namespace Go.Proofs.Ytjmclmbepnbeoaa
open Go.ChangeShapes Go.WideShapes Go.ChangeAt Go.RowKit
theorem bxx2 (w : World) (o1 o2 : Obj) : ((w.alloc o1).alloc o2).heap[w.heap.size]? = some o1 ∧ ((w.alloc o1).alloc o2).heap[w.heap.size + 1]? = some o2 ∧ ((w.alloc o1).alloc o2).heap.size = w.heap.size + 2 := by
  have al := (Below.refl (w.alloc o1).heap.size (w.alloc o1)).alloc (Nat.le_refl _) o2
  have e : (w.alloc o1).heap.size = w.heap.size + 1 := by simp
  have n1 : (w.alloc o1).heap[w.heap.size]? = some o1 := by show (w.heap.push _)[w.heap.size]? = _; exact Array.getElem?_push_size
  have n2 : ((w.alloc o1).alloc o2).heap[(w.alloc o1).heap.size]? = some o2 := by show ((w.alloc o1).heap.push _)[(w.alloc o1).heap.size]? = _; exact Array.getElem?_push_size
  rw [e] at n2
  exact ⟨(al.block _ (by omega)).trans n1, n2, by simp⟩
theorem twQ {g : Nat} {w w1 w2 : World} (h : But g w w1) (k : But g w1 w2) : But g w w2 := ⟨k.os.trans h.os, k.tape.trans h.tape, k.output.trans h.output, Nat.le_trans h.size k.size, fun i hi hne => (k.block i (Nat.lt_of_lt_of_le hi h.size) hne).trans (h.block i hi hne)⟩
theorem keepQ {W W' : World} {g b : Nat} {o : Obj} (h : But g W W') (hb : W.heap[b]? = some o) (hne : b ≠ g) : W'.heap[b]? = some o := (h.block b (Array.getElem?_eq_some_iff.1 hb).1 hne).trans hb
theorem arr7 (c : Array Value) (hc : c.size = 7) (v0 v1 v2 v3 v4 v5 v6 : Value) : ((((((c.setIfInBounds 0 v0).setIfInBounds 1 v1).setIfInBounds 2 v2).setIfInBounds 3 v3).setIfInBounds 4 v4).setIfInBounds 5 v5).setIfInBounds 6 v6 = #[v0, v1, v2, v3, v4, v5, v6] := by
  match c, hc with
  | ⟨[_, _, _, _, _, _, _]⟩, _ => rfl
theorem put7n {W : World} {b : Nat} {c : Array Value} {T : TypeId} (h : W.heap[b]? = some (.cells c T (0, 0))) (hc : c.size = 7) (v0 v1 v2 v3 v4 v5 v6 : Value) : (((((((W.setCell ⟨b, 0, none⟩ v0).setCell ⟨b, 1, none⟩ v1).setCell ⟨b, 2, none⟩ v2).setCell ⟨b, 3, none⟩ v3).setCell ⟨b, 4, none⟩ v4).setCell ⟨b, 5, none⟩ v5).setCell ⟨b, 6, none⟩ v6).heap[b]? = some (.cells #[v0, v1, v2, v3, v4, v5, v6] T (0, 0)) ∧ But b W (((((((W.setCell ⟨b, 0, none⟩ v0).setCell ⟨b, 1, none⟩ v1).setCell ⟨b, 2, none⟩ v2).setCell ⟨b, 3, none⟩ v3).setCell ⟨b, 4, none⟩ v4).setCell ⟨b, 5, none⟩ v5).setCell ⟨b, 6, none⟩ v6) := by
  have z0 := heap_setCell_same W b 0 c T v0 h
  have z1 := heap_setCell_same _ b 1 _ T v1 z0
  have z2 := heap_setCell_same _ b 2 _ T v2 z1
  have z3 := heap_setCell_same _ b 3 _ T v3 z2
  have z4 := heap_setCell_same _ b 4 _ T v4 z3
  have z5 := heap_setCell_same _ b 5 _ T v5 z4
  have z6 := heap_setCell_same _ b 6 _ T v6 z5
  refine ⟨z6.trans ?_, (((((((But.refl b W).set 0 v0).set 1 v1).set 2 v2).set 3 v3).set 4 v4).set 5 v5).set 6 v6⟩
  rw [arr7 c hc]
theorem put7 {W W' : World} {b : Nat} {c : Array Value} {T : TypeId} (h : W.heap[b]? = some (.cells c T (0, 0))) (hc : c.size = 7) (v0 v1 v2 v3 v4 v5 v6 : Value) (e : (((((((W.setCell ⟨b, 0, none⟩ v0).setCell ⟨b, 1, none⟩ v1).setCell ⟨b, 2, none⟩ v2).setCell ⟨b, 3, none⟩ v3).setCell ⟨b, 4, none⟩ v4).setCell ⟨b, 5, none⟩ v5).setCell ⟨b, 6, none⟩ v6).drew = W') : W'.heap[b]? = some (.cells #[v0, v1, v2, v3, v4, v5, v6] T (0, 0)) ∧ But b W W' := by
  obtain ⟨h1, h2⟩ := put7n h hc v0 v1 v2 v3 v4 v5 v6
  generalize (((((((W.setCell ⟨b, 0, none⟩ v0).setCell ⟨b, 1, none⟩ v1).setCell ⟨b, 2, none⟩ v2).setCell ⟨b, 3, none⟩ v3).setCell ⟨b, 4, none⟩ v4).setCell ⟨b, 5, none⟩ v5).setCell ⟨b, 6, none⟩ v6) = X at *
  subst e
  exact ⟨h1, twQ h2 ⟨(Below.refl X.heap.size X).drew.os, (Below.refl X.heap.size X).drew.tape, (Below.refl X.heap.size X).drew.output, Nat.le_refl _, fun _ _ _ => rfl⟩⟩
end Go.Proofs.Ytjmclmbepnbeoaa
