/- Expressions, statements and programs as they lie in memory: a struct's cells, its lists behind slices. -/
import Derived.Test.YtheholgdfmipbaaDoorMem
import Derived.OpenShut
namespace Go.Proofs.YtheholgdfmipbaaDoor
open Go.RowKit Go.ChangeShapes Go.WideShapes

inductive Ex where
  | mk (k n b : Int) (t : ByteArray) (kids : List Ex)
inductive St where
  | mk (k n b : Int) (exps : List Ex) (xs ys : List St)

instance : Inhabited Ex := ⟨.mk 0 0 0 ByteArray.empty []⟩
instance : Inhabited St := ⟨.mk 0 0 0 [] [] []⟩
theorem Ex.ind {P : Ex → Prop} (h : ∀ k n b t kids, (∀ e ∈ kids, P e) → P (.mk k n b t kids)) (e : Ex) : P e :=
  Ex.rec (motive_1 := P) (motive_2 := fun l => ∀ e ∈ l, P e) (fun k n b t kids ih => h k n b t kids ih) (fun _ hm => nomatch hm)
    (fun _ _ hx hl e he => by rcases List.mem_cons.1 he with rfl | he; exact hx; exact hl e he) e
theorem St.ind {P : St → Prop} (h : ∀ k n b exps xs ys, (∀ e ∈ xs, P e) → (∀ e ∈ ys, P e) → P (.mk k n b exps xs ys)) (e : St) : P e :=
  St.rec (motive_1 := P) (motive_2 := fun l => ∀ e ∈ l, P e) (fun k n b exps xs ys ihx ihy => h k n b exps xs ys ihx ihy) (fun _ hm => nomatch hm)
    (fun _ _ hx hl e he => by rcases List.mem_cons.1 he with rfl | he; exact hx; exact hl e he) e

/-- Element i of a slice of n elements of sz cells has the cells vs i; where B is not 0 the block is one that nobody froze. -/
def RowAt (w : World) (B : Nat) (a : Option Addr) (n sz : Nat) (vs : Nat → Array Value) : Prop :=
  n = 0 ∨ ∃ b o, a = some ⟨b, o, none⟩ ∧ B ≤ b ∧ b < w.heap.size ∧ (0 < B → ∃ cs T, w.heap[b]? = some (.cells cs T (0, 0))) ∧ ∀ i, i < n → (vs i).size = sz ∧ ∀ j, j < sz → w.cell? ⟨b, o + i * sz + j, none⟩ = (vs i)[j]?
theorem RowAt.below {w w' : World} {B : Nat} {a : Option Addr} {n sz : Nat} {vs : Nat → Array Value} (h : RowAt w B a n sz vs) (bel : Below w.heap.size w w') : RowAt w' B a n sz vs := by
  rcases h with h | ⟨b, o, ha, hB, hb, hp, hc⟩
  · exact Or.inl h
  · exact Or.inr ⟨b, o, ha, hB, Nat.lt_of_lt_of_le hb bel.size, fun h0 => let ⟨cs, T, h⟩ := hp h0; ⟨cs, T, (bel.block b hb).trans h⟩, fun i hi => ⟨(hc i hi).1, fun j hj => (bel.cell (p := ⟨b, o + i * sz + j, none⟩) hb).trans ((hc i hi).2 j hj)⟩⟩
theorem RowAt.but {w w' : World} {B g : Nat} {a : Option Addr} {n sz : Nat} {vs : Nat → Array Value} (h : RowAt w B a n sz vs) (hg : g < B) (hbut : But g w w') : RowAt w' B a n sz vs := by
  rcases h with h | ⟨b, o, ha, hB, hb, hp, hc⟩
  · exact Or.inl h
  · exact Or.inr ⟨b, o, ha, hB, Nat.lt_of_lt_of_le hb hbut.size, fun h0 => let ⟨cs, T, h⟩ := hp h0; ⟨cs, T, (hbut.block b hb (by omega)).trans h⟩, fun i hi => ⟨(hc i hi).1, fun j hj => (hbut.cell hb (by omega)).trans ((hc i hi).2 j hj)⟩⟩
theorem RowAt.mono {w : World} {B B' : Nat} {a : Option Addr} {n sz : Nat} {vs : Nat → Array Value} (h : RowAt w B a n sz vs) (hB' : B' ≤ B) : RowAt w B' a n sz vs := by
  rcases h with h | ⟨b, o, ha, hB, hb, hp, hc⟩
  · exact Or.inl h
  · exact Or.inr ⟨b, o, ha, Nat.le_trans hB' hB, hb, fun h0 => hp (by omega), hc⟩

/-- These five cells are the expression. -/
inductive ExIs (w : World) (B : Nat) : Array Value → Ex → Prop
  | mk (k n b : Int) (t : ByteArray) (kids : List Ex) (a : Option Addr) (cap : Nat) (vs : Nat → Array Value) (hl : kids.length ≤ maxLen) (ht : t.size ≤ maxLen)
      (hrow : RowAt w B a kids.length 5 vs) (hx : ∀ (i : Nat) (h : i < kids.length), ExIs w B (vs i) kids[i]) :
      ExIs w B #[.int .i64 k, .int .i64 n, .int .i64 b, .string t, .slice a kids.length cap] (.mk k n b t kids)
/-- The slice holds these expressions. -/
def ExsIs (w : World) (B : Nat) (a : Option Addr) (es : List Ex) : Prop := es.length ≤ maxLen ∧ ∃ vs, RowAt w B a es.length 5 vs ∧ ∀ (i : Nat) (h : i < es.length), ExIs w B (vs i) es[i]
theorem ExIs.stays {w w' : World} {B : Nat} {v : Array Value} {e : Ex} (h : ExIs w B v e) (bel : Below w.heap.size w w') : ExIs w' B v e := by
  induction h with
  | mk k n b t kids a cap vs hl ht hrow _ ih => exact .mk k n b t kids a cap vs hl ht (hrow.below bel) ih
theorem ExsIs.stays {w w' : World} {B : Nat} {a : Option Addr} {es : List Ex} (h : ExsIs w B a es) (bel : Below w.heap.size w w') : ExsIs w' B a es :=
  let ⟨hl, vs, hr, hx⟩ := h
  ⟨hl, vs, hr.below bel, fun i hi => (hx i hi).stays bel⟩
theorem ExIs.but {w w' : World} {B g : Nat} {v : Array Value} {e : Ex} (h : ExIs w B v e) (hg : g < B) (hb : But g w w') : ExIs w' B v e := by
  induction h with
  | mk k n b t kids a cap vs hl ht hrow _ ih => exact .mk k n b t kids a cap vs hl ht (hrow.but hg hb) ih
theorem ExsIs.but {w w' : World} {B g : Nat} {a : Option Addr} {es : List Ex} (h : ExsIs w B a es) (hg : g < B) (hb : But g w w') : ExsIs w' B a es :=
  let ⟨hl, vs, hr, hx⟩ := h
  ⟨hl, vs, hr.but hg hb, fun i hi => (hx i hi).but hg hb⟩
theorem ExIs.mono {w : World} {B B' : Nat} {v : Array Value} {e : Ex} (h : ExIs w B v e) (hB : B' ≤ B) : ExIs w B' v e := by
  induction h with
  | mk k n b t kids a cap vs hl ht hrow _ ih => exact .mk k n b t kids a cap vs hl ht (hrow.mono hB) ih
theorem ExsIs.mono {w : World} {B B' : Nat} {a : Option Addr} {es : List Ex} (h : ExsIs w B a es) (hB : B' ≤ B) : ExsIs w B' a es :=
  let ⟨hl, vs, hr, hx⟩ := h
  ⟨hl, vs, hr.mono hB, fun i hi => (hx i hi).mono hB⟩
theorem ExIs.out {w : World} {B : Nat} {v : Array Value} {k n b : Int} {t : ByteArray} {kids : List Ex} (h : ExIs w B v (.mk k n b t kids)) :
    ∃ a cap, v = #[.int .i64 k, .int .i64 n, .int .i64 b, .string t, .slice a kids.length cap] ∧ t.size ≤ maxLen ∧ ExsIs w B a kids := by
  cases h with
  | mk _ _ _ _ _ a cap vs hl ht hrow hx => exact ⟨a, cap, rfl, ht, hl, vs, hrow, hx⟩
theorem ExIs.of {w : World} {B : Nat} {k n b : Int} {t : ByteArray} {kids : List Ex} {a : Option Addr} {cap : Nat} (ht : t.size ≤ maxLen) (h : ExsIs w B a kids) :
    ExIs w B #[.int .i64 k, .int .i64 n, .int .i64 b, .string t, .slice a kids.length cap] (.mk k n b t kids) :=
  let ⟨hl, vs, hr, hx⟩ := h
  .mk k n b t kids a cap vs hl ht hr hx
/-- Element i of such a slice: where it lies, its five cells, its kids. -/
theorem ExsIs.get {w : World} {B : Nat} {a : Option Addr} {es : List Ex} (h : ExsIs w B a es) (i : Nat) (hi : i < es.length) :
    ∃ b o k n bs t kids ka kc, a = some ⟨b, o, none⟩ ∧ B ≤ b ∧ b < w.heap.size ∧ es[i] = .mk k n bs t kids ∧
      w.cell? ⟨b, o + i * 5, none⟩ = some (.int .i64 k) ∧ w.cell? ⟨b, o + i * 5 + 1, none⟩ = some (.int .i64 n) ∧ w.cell? ⟨b, o + i * 5 + 2, none⟩ = some (.int .i64 bs) ∧
      w.cell? ⟨b, o + i * 5 + 3, none⟩ = some (.string t) ∧ w.cell? ⟨b, o + i * 5 + 4, none⟩ = some (.slice ka kids.length kc) ∧
      ExIs w B #[.int .i64 k, .int .i64 n, .int .i64 bs, .string t, .slice ka kids.length kc] (.mk k n bs t kids) := by
  obtain ⟨hl, vs, hr, hx⟩ := h
  rcases hr with h0 | ⟨b, o, ha, hB, hb, _, hc⟩
  · omega
  · obtain ⟨k, n, bs, t, kids, he⟩ : ∃ k n bs t kids, es[i] = Ex.mk k n bs t kids := by cases he : es[i] with | mk k n bs t kids => exact ⟨k, n, bs, t, kids, rfl⟩
    have h1 := hx i hi
    rw [he] at h1
    obtain ⟨ka, kc, hv, ht, hk⟩ := h1.out
    have h2 := (hc i hi).2
    rw [hv] at h2 h1
    exact ⟨b, o, k, n, bs, t, kids, ka, kc, ha, hB, hb, he, h2 0 (by omega), h2 1 (by omega), h2 2 (by omega), h2 3 (by omega), h2 4 (by omega), h1⟩

/-- These six cells are the statement. -/
inductive StIs (w : World) (B : Nat) : Array Value → St → Prop
  | mk (k n b : Int) (exps : List Ex) (xs ys : List St) (a : Option Addr) (cap : Nat) (ax : Option Addr) (cx : Nat) (ay : Option Addr) (cy : Nat) (vx vy : Nat → Array Value)
      (he : ExsIs w B a exps) (hlx : xs.length ≤ maxLen) (hly : ys.length ≤ maxLen)
      (hrx : RowAt w B ax xs.length 6 vx) (hry : RowAt w B ay ys.length 6 vy) (hx : ∀ (i : Nat) (h : i < xs.length), StIs w B (vx i) xs[i]) (hy : ∀ (i : Nat) (h : i < ys.length), StIs w B (vy i) ys[i]) :
      StIs w B #[.int .i64 k, .int .i64 n, .int .i64 b, .slice a exps.length cap, .slice ax xs.length cx, .slice ay ys.length cy] (.mk k n b exps xs ys)
def StsIs (w : World) (B : Nat) (a : Option Addr) (es : List St) : Prop := es.length ≤ maxLen ∧ ∃ vs, RowAt w B a es.length 6 vs ∧ ∀ (i : Nat) (h : i < es.length), StIs w B (vs i) es[i]
theorem StIs.stays {w w' : World} {B : Nat} {v : Array Value} {e : St} (h : StIs w B v e) (bel : Below w.heap.size w w') : StIs w' B v e := by
  induction h with
  | mk k n b exps xs ys a cap ax cx ay cy vx vy he hlx hly hrx hry _ _ ihx ihy => exact .mk k n b exps xs ys a cap ax cx ay cy vx vy (he.stays bel) hlx hly (hrx.below bel) (hry.below bel) ihx ihy
theorem StsIs.stays {w w' : World} {B : Nat} {a : Option Addr} {es : List St} (h : StsIs w B a es) (bel : Below w.heap.size w w') : StsIs w' B a es :=
  let ⟨hl, vs, hr, hx⟩ := h
  ⟨hl, vs, hr.below bel, fun i hi => (hx i hi).stays bel⟩
theorem StIs.but {w w' : World} {B g : Nat} {v : Array Value} {e : St} (h : StIs w B v e) (hg : g < B) (hb : But g w w') : StIs w' B v e := by
  induction h with
  | mk k n b exps xs ys a cap ax cx ay cy vx vy he hlx hly hrx hry _ _ ihx ihy => exact .mk k n b exps xs ys a cap ax cx ay cy vx vy (he.but hg hb) hlx hly (hrx.but hg hb) (hry.but hg hb) ihx ihy
theorem StsIs.but {w w' : World} {B g : Nat} {a : Option Addr} {es : List St} (h : StsIs w B a es) (hg : g < B) (hb : But g w w') : StsIs w' B a es :=
  let ⟨hl, vs, hr, hx⟩ := h
  ⟨hl, vs, hr.but hg hb, fun i hi => (hx i hi).but hg hb⟩
theorem StIs.mono {w : World} {B B' : Nat} {v : Array Value} {e : St} (h : StIs w B v e) (hB : B' ≤ B) : StIs w B' v e := by
  induction h with
  | mk k n b exps xs ys a cap ax cx ay cy vx vy he hlx hly hrx hry _ _ ihx ihy => exact .mk k n b exps xs ys a cap ax cx ay cy vx vy (he.mono hB) hlx hly (hrx.mono hB) (hry.mono hB) ihx ihy
theorem StsIs.mono {w : World} {B B' : Nat} {a : Option Addr} {es : List St} (h : StsIs w B a es) (hB : B' ≤ B) : StsIs w B' a es :=
  let ⟨hl, vs, hr, hx⟩ := h
  ⟨hl, vs, hr.mono hB, fun i hi => (hx i hi).mono hB⟩
theorem StIs.out {w : World} {B : Nat} {v : Array Value} {k n b : Int} {exps : List Ex} {xs ys : List St} (h : StIs w B v (.mk k n b exps xs ys)) :
    ∃ a cap ax cx ay cy, v = #[.int .i64 k, .int .i64 n, .int .i64 b, .slice a exps.length cap, .slice ax xs.length cx, .slice ay ys.length cy] ∧ ExsIs w B a exps ∧ StsIs w B ax xs ∧ StsIs w B ay ys := by
  cases h with
  | mk _ _ _ _ _ _ a cap ax cx ay cy vx vy he hlx hly hrx hry hx hy => exact ⟨a, cap, ax, cx, ay, cy, rfl, he, ⟨hlx, vx, hrx, hx⟩, ⟨hly, vy, hry, hy⟩⟩
theorem StIs.of {w : World} {B : Nat} {k n b : Int} {exps : List Ex} {xs ys : List St} {a ax ay : Option Addr} {cap cx cy : Nat} (he : ExsIs w B a exps) (hx : StsIs w B ax xs) (hy : StsIs w B ay ys) :
    StIs w B #[.int .i64 k, .int .i64 n, .int .i64 b, .slice a exps.length cap, .slice ax xs.length cx, .slice ay ys.length cy] (.mk k n b exps xs ys) :=
  let ⟨hlx, vx, hrx, hx⟩ := hx
  let ⟨hly, vy, hry, hy⟩ := hy
  .mk k n b exps xs ys a cap ax cx ay cy vx vy he hlx hly hrx hry hx hy
theorem StsIs.get {w : World} {B : Nat} {a : Option Addr} {es : List St} (h : StsIs w B a es) (i : Nat) (hi : i < es.length) :
    ∃ b o k n bs exps xs ys ea ec xa xc ya yc, a = some ⟨b, o, none⟩ ∧ B ≤ b ∧ b < w.heap.size ∧ es[i] = .mk k n bs exps xs ys ∧
      w.cell? ⟨b, o + i * 6, none⟩ = some (.int .i64 k) ∧ w.cell? ⟨b, o + i * 6 + 1, none⟩ = some (.int .i64 n) ∧ w.cell? ⟨b, o + i * 6 + 2, none⟩ = some (.int .i64 bs) ∧
      w.cell? ⟨b, o + i * 6 + 3, none⟩ = some (.slice ea exps.length ec) ∧ w.cell? ⟨b, o + i * 6 + 4, none⟩ = some (.slice xa xs.length xc) ∧ w.cell? ⟨b, o + i * 6 + 5, none⟩ = some (.slice ya ys.length yc) ∧
      StIs w B #[.int .i64 k, .int .i64 n, .int .i64 bs, .slice ea exps.length ec, .slice xa xs.length xc, .slice ya ys.length yc] (.mk k n bs exps xs ys) := by
  obtain ⟨hl, vs, hr, hx⟩ := h
  rcases hr with h0 | ⟨b, o, ha, hB, hb, _, hc⟩
  · omega
  · obtain ⟨k, n, bs, exps, xs, ys, he⟩ : ∃ k n bs exps xs ys, es[i] = St.mk k n bs exps xs ys := by cases he : es[i] with | mk k n bs exps xs ys => exact ⟨k, n, bs, exps, xs, ys, rfl⟩
    have h1 := hx i hi
    rw [he] at h1
    obtain ⟨ea, ec, xa, xc, ya, yc, hv, _⟩ := h1.out
    have h2 := (hc i hi).2
    rw [hv] at h2 h1
    exact ⟨b, o, k, n, bs, exps, xs, ys, ea, ec, xa, xc, ya, yc, ha, hB, hb, he, h2 0 (by omega), h2 1 (by omega), h2 2 (by omega), h2 3 (by omega), h2 4 (by omega), h2 5 (by omega), h1⟩

/-- The slice holds these numbers. -/
def IntsIs (w : World) (B : Nat) (a : Option Addr) (zs : List Int) : Prop := zs.length ≤ maxLen ∧ (zs.length = 0 ∨ ∃ b o, a = some ⟨b, o, none⟩ ∧ B ≤ b ∧ b < w.heap.size ∧ (0 < B → ∃ cs T, w.heap[b]? = some (.cells cs T (0, 0))) ∧ ∀ (i : Nat) (h : i < zs.length), w.cell? ⟨b, o + i, none⟩ = some (.int .i64 zs[i]))
theorem IntsIs.stays {w w' : World} {B : Nat} {a : Option Addr} {zs : List Int} (h : IntsIs w B a zs) (bel : Below w.heap.size w w') : IntsIs w' B a zs := by
  obtain ⟨hl, h⟩ := h
  refine ⟨hl, ?_⟩
  rcases h with h | ⟨b, o, ha, hB, hb, hp, hc⟩
  · exact Or.inl h
  · exact Or.inr ⟨b, o, ha, hB, Nat.lt_of_lt_of_le hb bel.size, fun h0 => let ⟨cs, T, h⟩ := hp h0; ⟨cs, T, (bel.block b hb).trans h⟩, fun i hi => (bel.cell (p := ⟨b, o + i, none⟩) hb).trans (hc i hi)⟩
/-- A program, and its four cells. -/
structure Pr where
  sizes : List Int
  params : Int
  vars : Int
  body : List St
def PrIs (w : World) (B : Nat) (v : Array Value) (p : Pr) : Prop := ∃ a cap ab cb, v = #[.slice a p.sizes.length cap, .int .i64 p.params, .int .i64 p.vars, .slice ab p.body.length cb] ∧ IntsIs w B a p.sizes ∧ StsIs w B ab p.body
theorem PrIs.stays {w w' : World} {B : Nat} {v : Array Value} {p : Pr} (h : PrIs w B v p) (bel : Below w.heap.size w w') : PrIs w' B v p :=
  let ⟨a, cap, ab, cb, e, h1, h2⟩ := h
  ⟨a, cap, ab, cb, e, h1.stays bel, h2.stays bel⟩

/-! How great a thing is, as the law counts it. -/
mutual
def Ex.sz : Ex → Nat
  | .mk _ _ _ t kids => t.size + (kids.length + exsSum kids)
def exsSum : List Ex → Nat
  | [] => 0
  | e :: l => e.sz + exsSum l
end
def exsSz (l : List Ex) : Nat := l.length + exsSum l
mutual
def St.sz : St → Nat
  | .mk _ _ _ exps xs ys => exsSz exps + (xs.length + stsSum xs) + (ys.length + stsSum ys)
def stsSum : List St → Nat
  | [] => 0
  | e :: l => e.sz + stsSum l
end
def stsSz (l : List St) : Nat := l.length + stsSum l
def Pr.sz (p : Pr) : Nat := p.sizes.length + stsSz p.body
theorem Ex.sz_mk (k n b : Int) (t : ByteArray) (kids : List Ex) : (Ex.mk k n b t kids).sz = t.size + exsSz kids := by simp [Ex.sz, exsSz]
theorem St.sz_mk (k n b : Int) (exps : List Ex) (xs ys : List St) : (St.mk k n b exps xs ys).sz = exsSz exps + stsSz xs + stsSz ys := by simp [St.sz, stsSz]
theorem exsSum_append : ∀ (l m : List Ex), exsSum (l ++ m) = exsSum l + exsSum m
  | [], m => by simp [exsSum]
  | e :: l, m => by simp [exsSum, exsSum_append l m]; omega
theorem stsSum_append : ∀ (l m : List St), stsSum (l ++ m) = stsSum l + stsSum m
  | [], m => by simp [stsSum]
  | e :: l, m => by simp [stsSum, stsSum_append l m]; omega
theorem exsSum_take (l : List Ex) (i : Nat) (h : i < l.length) : exsSum (l.take (i + 1)) = exsSum (l.take i) + l[i].sz := by
  rw [List.take_succ_eq_append_getElem h, exsSum_append]; simp [exsSum]
theorem stsSum_take (l : List St) (i : Nat) (h : i < l.length) : stsSum (l.take (i + 1)) = stsSum (l.take i) + l[i].sz := by
  rw [List.take_succ_eq_append_getElem h, stsSum_append]; simp [stsSum]
theorem exsSum_le (l : List Ex) (i : Nat) : exsSum (l.take i) ≤ exsSum l := by
  conv => rhs; rw [← List.take_append_drop i l, exsSum_append]
  omega
theorem stsSum_le (l : List St) (i : Nat) : stsSum (l.take i) ≤ stsSum l := by
  conv => rhs; rw [← List.take_append_drop i l, stsSum_append]
  omega
theorem exsSum_mem {l : List Ex} {e : Ex} (h : e ∈ l) : e.sz ≤ exsSum l := by
  obtain ⟨a, b, rfl⟩ := List.append_of_mem h
  rw [exsSum_append]; simp [exsSum]; omega
theorem stsSum_mem {l : List St} {e : St} (h : e ∈ l) : e.sz ≤ stsSum l := by
  obtain ⟨a, b, rfl⟩ := List.append_of_mem h
  rw [stsSum_append]; simp [stsSum]; omega
end Go.Proofs.YtheholgdfmipbaaDoor
