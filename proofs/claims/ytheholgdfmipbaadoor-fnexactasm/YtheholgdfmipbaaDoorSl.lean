/- Slices of structs in general: each element is so many cells; how such a slice stays, is read, is copied into a new block. -/
import Derived.Test.YtheholgdfmipbaaDoorInts
namespace Go.Proofs.YtheholgdfmipbaaDoor
open Go.ChangeShapes Go.WideShapes Go.ChangeAt Go.RowKit

def I64 (n : Int) : Prop := -9223372036854775808 ≤ n ∧ n ≤ 9223372036854775807
theorem i64_of {n : Int} (h : (Lit.int .i64 n).wf = true) : I64 n := by
  have e1 : IntKind.i64.min = -9223372036854775808 := rfl
  have e2 : IntKind.i64.max = 9223372036854775807 := rfl
  simp only [Lit.wf, e1, e2] at h
  simpa [I64] using h
/-- The slice holds these things, each of sz cells. -/
def SlIs {α : Type} (Is : World → Nat → Array Value → α → Prop) (sz : Nat) (w : World) (B : Nat) (a : Option Addr) (xs : List α) : Prop :=
  xs.length ≤ maxLen ∧ ∃ vs, RowAt w B a xs.length sz vs ∧ ∀ (i : Nat) (h : i < xs.length), Is w B (vs i) xs[i]
/-- What is said of a thing's cells stays when memory grows, when a block below is written, and at a lower bound. -/
structure Keeps {α : Type} (Is : World → Nat → Array Value → α → Prop) : Prop where
  stays : ∀ {w w' : World} {B : Nat} {v : Array Value} {x : α}, Is w B v x → Below w.heap.size w w' → Is w' B v x
  but : ∀ {w w' : World} {B g : Nat} {v : Array Value} {x : α}, Is w B v x → g < B → But g w w' → Is w' B v x
  mono : ∀ {w : World} {B B' : Nat} {v : Array Value} {x : α}, Is w B v x → B' ≤ B → Is w B' v x
section
variable {α : Type} {Is : World → Nat → Array Value → α → Prop} {sz : Nat}
theorem SlIs.stays (K : Keeps Is) {w w' : World} {B : Nat} {a : Option Addr} {xs : List α} (h : SlIs Is sz w B a xs) (bel : Below w.heap.size w w') : SlIs Is sz w' B a xs :=
  let ⟨hl, vs, hr, hx⟩ := h
  ⟨hl, vs, hr.below bel, fun i hi => K.stays (hx i hi) bel⟩
theorem SlIs.but (K : Keeps Is) {w w' : World} {B g : Nat} {a : Option Addr} {xs : List α} (h : SlIs Is sz w B a xs) (hg : g < B) (hb : But g w w') : SlIs Is sz w' B a xs :=
  let ⟨hl, vs, hr, hx⟩ := h
  ⟨hl, vs, hr.but hg hb, fun i hi => K.but (hx i hi) hg hb⟩
theorem SlIs.mono (K : Keeps Is) {w : World} {B B' : Nat} {a : Option Addr} {xs : List α} (h : SlIs Is sz w B a xs) (hB : B' ≤ B) : SlIs Is sz w B' a xs :=
  let ⟨hl, vs, hr, hx⟩ := h
  ⟨hl, vs, hr.mono hB, fun i hi => K.mono (hx i hi) hB⟩
/-- Element i: where it lies, its cells, and that they are it. -/
theorem SlIs.at {w : World} {B : Nat} {a : Option Addr} {xs : List α} (h : SlIs Is sz w B a xs) (i : Nat) (hi : i < xs.length) :
    ∃ b o v, a = some ⟨b, o, none⟩ ∧ B ≤ b ∧ b < w.heap.size ∧ v.size = sz ∧ (∀ j, j < sz → w.cell? ⟨b, o + i * sz + j, none⟩ = v[j]?) ∧ Is w B v xs[i] := by
  obtain ⟨_, vs, hr, hx⟩ := h
  rcases hr with h0 | ⟨b, o, ha, hB, hb, _, hc⟩
  · omega
  · exact ⟨b, o, vs i, ha, hB, hb, (hc i hi).1, (hc i hi).2, hx i hi⟩

/-- How great a list is, as the law counts it. -/
def slSum (f : α → Nat) : List α → Nat
  | [] => 0
  | e :: l => f e + slSum f l
def slSz (f : α → Nat) (l : List α) : Nat := l.length + slSum f l
theorem slSum_append (f : α → Nat) : ∀ (l m : List α), slSum f (l ++ m) = slSum f l + slSum f m
  | [], m => by simp [slSum]
  | e :: l, m => by simp [slSum, slSum_append f l m]; omega
theorem slSum_take (f : α → Nat) (l : List α) (i : Nat) (h : i < l.length) : slSum f (l.take (i + 1)) = slSum f (l.take i) + f l[i] := by
  rw [List.take_succ_eq_append_getElem h, slSum_append]; simp [slSum]
theorem slSum_le (f : α → Nat) (l : List α) (i : Nat) : slSum f (l.take i) ≤ slSum f l := by
  conv => rhs; rw [← List.take_append_drop i l, slSum_append]
  omega
theorem slSum_mem (f : α → Nat) {l : List α} {e : α} (h : e ∈ l) : f e ≤ slSum f l := by
  obtain ⟨a, b, rfl⟩ := List.append_of_mem h
  rw [slSum_append]; simp [slSum]; omega

/-- Values stored one behind another into block g from p on. -/
def sets (g : Nat) : World → Nat → List Value → World
  | w, _, [] => w
  | w, p, v :: l => sets g (w.setCell ⟨g, p, none⟩ v) (p + 1) l
def setsA : Array Value → Nat → List Value → Array Value
  | c, _, [] => c
  | c, p, v :: l => setsA (c.setIfInBounds p v) (p + 1) l
theorem setsA_size : ∀ (l : List Value) (c : Array Value) (p : Nat), (setsA c p l).size = c.size
  | [], _, _ => rfl
  | v :: l, c, p => by rw [setsA, setsA_size l]; simp
theorem setsA_out : ∀ (l : List Value) (c : Array Value) (p i : Nat), (i < p ∨ p + l.length ≤ i) → (setsA c p l)[i]? = c[i]?
  | [], _, _, _, _ => rfl
  | v :: l, c, p, i, h => by
    rw [setsA, setsA_out l _ _ _ (by simp at h; omega), Array.getElem?_setIfInBounds, if_neg (by simp at h; omega)]
theorem setsA_in : ∀ (l : List Value) (c : Array Value) (p r : Nat), p + l.length ≤ c.size → r < l.length → (setsA c p l)[p + r]? = l[r]?
  | [], _, _, _, _, h => absurd h (Nat.not_lt_zero _)
  | v :: l, c, p, 0, h, _ => by
    rw [setsA, setsA_out l _ _ _ (by omega), Nat.add_zero, Array.getElem?_setIfInBounds, if_pos rfl, if_pos (by simp at h; omega)]; rfl
  | v :: l, c, p, r + 1, h, hr => by
    have := setsA_in l (c.setIfInBounds p v) (p + 1) r (by simp at h ⊢; omega) (by simpa using hr)
    rw [setsA, show p + (r + 1) = p + 1 + r by omega, this]; simp
theorem sets_heap {g : Nat} {T : TypeId} : ∀ (l : List Value) (w : World) (p : Nat) (c : Array Value), w.heap[g]? = some (.cells c T (0, 0)) → (sets g w p l).heap[g]? = some (.cells (setsA c p l) T (0, 0))
  | [], _, _, _, h => h
  | v :: l, w, p, c, h => sets_heap l _ _ _ (heap_setCell_same w g p c T v h)
theorem sets_but {g : Nat} {w0 : World} : ∀ (l : List Value) (w : World) (p : Nat), But g w0 w → But g w0 (sets g w p l)
  | [], _, _, h => h
  | v :: l, _, p, h => sets_but l _ (p + 1) (h.set p v)
theorem sets_below {g B : Nat} {w0 : World} (hg : B ≤ g) : ∀ (l : List Value) (w : World) (p : Nat), Below B w0 w → Below B w0 (sets g w p l)
  | [], _, _, h => h
  | v :: l, _, p, h => sets_below hg l _ (p + 1) (h.setCell (p := ⟨g, p, none⟩) hg v)

/-- The first j of the list's elements stand in the new block g. -/
def Built (Is : World → Nat → Array Value → α → Prop) (sz : Nat) (T : TypeId) (wr : World) (g : Nat) (es : List α) (j : Nat) : Prop :=
  ∃ cur, wr.heap[g]? = some (.cells cur T (0, 0)) ∧ cur.size = es.length * sz ∧ ∀ (i : Nat) (h : i < es.length), i < j → ∃ v, v.size = sz ∧ (∀ r, r < sz → cur[i * sz + r]? = v[r]?) ∧ Is wr (g + 1) v es[i]
theorem Built.lt {T : TypeId} {wr : World} {g : Nat} {es : List α} {j : Nat} (h : Built Is sz T wr g es j) : g < wr.heap.size := by
  obtain ⟨cur, h, _⟩ := h; exact (Array.getElem?_eq_some_iff.1 h).1
theorem Built.on (K : Keeps Is) {T : TypeId} {wr w1 : World} {g : Nat} {es : List α} {j : Nat} (h : Built Is sz T wr g es j) (bel : Below wr.heap.size wr w1) : Built Is sz T w1 g es j := by
  have hg := h.lt
  obtain ⟨cur, h1, h2, h3⟩ := h
  exact ⟨cur, (bel.block g hg).trans h1, h2, fun i hi hj => let ⟨v, a, b, c⟩ := h3 i hi hj; ⟨v, a, b, K.stays c bel⟩⟩
/-- The cell and mark facts that a store into block g needs. -/
theorem Built.cells {T : TypeId} {wr : World} {g : Nat} {es : List α} {j : Nat} (h : Built Is sz T wr g es j) :
    (∀ o, o < es.length * sz → ∃ v, wr.cell? ⟨g, o, none⟩ = some v) ∧ ∀ o, wr.frozen? ⟨g, o, none⟩ = false := by
  obtain ⟨cur, h1, h2, _⟩ := h
  exact ⟨fun o ho => ⟨cur[o], by simp [World.cell?, h1, show o < cur.size by omega]⟩, fun o => by simp [World.frozen?, h1]⟩
theorem mul_step (j n sz : Nat) (h : j < n) : j * sz + sz ≤ n * sz := by
  have := Nat.mul_le_mul_right sz (show j + 1 ≤ n from h)
  rw [Nat.succ_mul] at this; exact this
theorem Built.step (K : Keeps Is) {w1 : World} {T : TypeId} {g : Nat} {es : List α} {j : Nat} (hj : j < es.length) (h : Built Is sz T w1 g es j) {l : List Value} (hl : l.length = sz) (hx : Is w1 (g + 1) l.toArray es[j]) :
    Built Is sz T (sets g w1 (j * sz) l) g es (j + 1) := by
  obtain ⟨cur, h1, h2, h3⟩ := h
  have hb : But g w1 (sets g w1 (j * sz) l) := sets_but l _ _ (But.refl g w1)
  have hm := mul_step j es.length sz hj
  refine ⟨_, sets_heap l _ _ _ h1, (setsA_size l _ _).trans h2, fun i hi hij => ?_⟩
  by_cases he : i = j
  · subst he
    exact ⟨_, by simpa using hl, fun r hr => by rw [setsA_in l _ _ _ (by omega) (by omega)]; simp, K.but hx (by omega) hb⟩
  · obtain ⟨v, a, b, c⟩ := h3 i hi (by omega)
    have hm2 := mul_step i j sz (by omega)
    exact ⟨v, a, fun r hr => (setsA_out l _ _ _ (Or.inl (by omega))).trans (b r hr), K.but c (by omega) hb⟩
theorem Built.row {T : TypeId} {wr : World} {g : Nat} {es : List α} (h : Built Is sz T wr g es es.length) :
    ∃ vs, RowAt wr g (some ⟨g, 0, none⟩) es.length sz vs ∧ ∀ (i : Nat) (hi : i < es.length), Is wr (g + 1) (vs i) es[i] := by
  have hg := h.lt
  obtain ⟨cur, h1, h2, h3⟩ := h
  have each : ∀ i, i < es.length → ∃ v : Array Value, (v.size = sz ∧ ∀ r, r < sz → cur[i * sz + r]? = v[r]?) ∧ ∀ hi : i < es.length, Is wr (g + 1) v es[i] := fun i hi => let ⟨v, a, b, c⟩ := h3 i hi hi; ⟨v, ⟨a, b⟩, fun _ => c⟩
  obtain ⟨vs, hvs⟩ := Deep.choose_lt (α := Array Value) each
  refine ⟨vs, Or.inr ⟨g, 0, rfl, Nat.le_refl _, hg, fun _ => ⟨cur, T, h1⟩, fun i hi => ⟨(hvs i hi).1.1, fun r hr => ?_⟩⟩, fun i hi => (hvs i hi).2 hi⟩
  rw [← (hvs i hi).1.2 r hr]
  simp [World.cell?, h1]
theorem Built.is (K : Keeps Is) {T : TypeId} {wr : World} {g B : Nat} {es : List α} (h : Built Is sz T wr g es es.length) (hl : es.length ≤ maxLen) (hB : B ≤ g) : SlIs Is sz wr B (some ⟨g, 0, none⟩) es :=
  let ⟨vs, hr, hx⟩ := h.row
  ⟨hl, vs, hr.mono hB, fun i hi => K.mono (hx i hi) (by omega)⟩
theorem built_start (Is : World → Nat → Array Value → α → Prop) (w : World) (z : Array Value) (sz : Nat) (T : TypeId) (es : List α) : Built Is sz T (w.alloc (.cells (madeCells z (es.length * sz)) T)) w.heap.size es 0 :=
  ⟨_, by show (w.heap.push _)[w.heap.size]? = _; exact Array.getElem?_push_size, size_madeCells _ _, fun _ _ h => absurd h (Nat.not_lt_zero _)⟩
end
end Go.Proofs.YtheholgdfmipbaaDoor
