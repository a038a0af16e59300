/- Out of trees in memory: the trees of their parts, and what stands at each part. -/
import Derived.Test.YtdkdimklacblaahWithin
namespace Go.Proofs.Ytdkdimklacblaah
open Go.ChangeShapes Go.WideShapes Go.ChangeAt Go.RowKit

inductive F2 {α β : Type} (R : α → β → Prop) : List α → List β → Prop
  | nil : F2 R [] []
  | cons {a b l m} (h : R a b) (t : F2 R l m) : F2 R (a :: l) (b :: m)
theorem F2.append {α β : Type} {R : α → β → Prop} {l l' : List α} {m m' : List β} (h : F2 R l m) (h' : F2 R l' m') : F2 R (l ++ l') (m ++ m') := by
  induction h with
  | nil => exact h'
  | cons h _ ih => exact .cons h ih
theorem F2.len {α β : Type} {R : α → β → Prop} {l : List α} {m : List β} (h : F2 R l m) : l.length = m.length := by
  induction h with
  | nil => rfl
  | cons _ _ ih => simp [ih]
theorem F2.mono {α β : Type} {R R' : α → β → Prop} (hR : ∀ a b, R a b → R' a b) {l : List α} {m : List β} (h : F2 R l m) : F2 R' l m := by
  induction h with
  | nil => exact .nil
  | cons h _ ih => exact .cons (hR _ _ h) ih
theorem F2.get {α β : Type} {R : α → β → Prop} {l : List α} {m : List β} (h : F2 R l m) : ∀ (i : Nat) (h1 : i < l.length) (h2 : i < m.length), R l[i] m[i] := by
  induction h with
  | nil => intro i h1; simp at h1
  | cons h _ ih =>
    intro i h1 h2
    cases i with
    | zero => exact h
    | succ i => exact ih i (by simpa using h1) (by simpa using h2)

/-- What a part is without the parts within it, but for how many these are. -/
inductive Lab where
  | ex (k n b : Int) (t : ByteArray) (m : Nat)
  | st (k n b : Int) (e x y : Nat)
def LabAt (w : World) : Pt → Lab → Prop
  | .ex b o, .ex k n bs t m => w.cell? ⟨b, o, none⟩ = some (.int .i64 k) ∧ w.cell? ⟨b, o + 1, none⟩ = some (.int .i64 n) ∧ w.cell? ⟨b, o + 2, none⟩ = some (.int .i64 bs) ∧ w.cell? ⟨b, o + 3, none⟩ = some (.string t) ∧ t.size ≤ maxLen ∧ ∃ a c, w.cell? ⟨b, o + 4, none⟩ = some (.slice a m c)
  | .st b o, .st k n bs e x y => w.cell? ⟨b, o, none⟩ = some (.int .i64 k) ∧ w.cell? ⟨b, o + 1, none⟩ = some (.int .i64 n) ∧ w.cell? ⟨b, o + 2, none⟩ = some (.int .i64 bs) ∧ (∃ a c, w.cell? ⟨b, o + 3, none⟩ = some (.slice a e c)) ∧ (∃ a c, w.cell? ⟨b, o + 4, none⟩ = some (.slice a x c)) ∧ ∃ a c, w.cell? ⟨b, o + 5, none⟩ = some (.slice a y c)
  | _, _ => False
def LabIn (w : World) (K : Nat) (p : Pt) (l : Lab) : Prop := p.block < K ∧ LabAt w p l
theorem LabIn.on {w w' : World} {K : Nat} {p : Pt} {l : Lab} (h : LabIn w K p l) (bel : Below K w w') : LabIn w' K p l := by
  obtain ⟨hb, h⟩ := h
  refine ⟨hb, ?_⟩
  cases p with
  | ex b o =>
    cases l with
    | ex k n bs t m =>
      obtain ⟨h0, h1, h2, h3, ht, a, c, h4⟩ := h
      exact ⟨(bel.cell (p := ⟨b, _, none⟩) hb).trans h0, (bel.cell (p := ⟨b, _, none⟩) hb).trans h1, (bel.cell (p := ⟨b, _, none⟩) hb).trans h2, (bel.cell (p := ⟨b, _, none⟩) hb).trans h3, ht, a, c, (bel.cell (p := ⟨b, _, none⟩) hb).trans h4⟩
    | st k n bs e x y => exact h.elim
  | st b o =>
    cases l with
    | ex k n bs t m => exact h.elim
    | st k n bs e x y =>
      obtain ⟨h0, h1, h2, ⟨a, c, h3⟩, ⟨a', c', h4⟩, a2, c2, h5⟩ := h
      exact ⟨(bel.cell (p := ⟨b, _, none⟩) hb).trans h0, (bel.cell (p := ⟨b, _, none⟩) hb).trans h1, (bel.cell (p := ⟨b, _, none⟩) hb).trans h2, ⟨a, c, (bel.cell (p := ⟨b, _, none⟩) hb).trans h3⟩, ⟨a', c', (bel.cell (p := ⟨b, _, none⟩) hb).trans h4⟩, a2, c2, (bel.cell (p := ⟨b, _, none⟩) hb).trans h5⟩
theorem NodeOk.on {w w' : World} {K : Nat} {inn : Pt → List Pt} {x : Nd} (h : NodeOk w K inn x) (bel : Below K w w') : NodeOk w' K inn x :=
  ⟨plain_of h bel, h.2.1, h.2.2.1, fun W hW => h.2.2.2 W (bel.trans hW)⟩
mutual
def Ex.vis : Ex → List Lab
  | .mk k n b t kids => .ex k n b t kids.length :: exsVis kids
def exsVis : List Ex → List Lab
  | [] => []
  | e :: l => exsVis l ++ e.vis
end
mutual
def St.vis : St → List Lab
  | .mk k n b exps xs ys => .st k n b exps.length xs.length ys.length :: (stsVis ys ++ (stsVis xs ++ exsVis exps))
def stsVis : List St → List Lab
  | [] => []
  | e :: l => stsVis l ++ e.vis
end
theorem ndsVisit_append : ∀ l m : List Nd, ndsVisit (l ++ m) = ndsVisit m ++ ndsVisit l
  | [], m => by simp [ndsVisit]
  | x :: l, m => by simp [ndsVisit, ndsVisit_append l m]

def rdSl (w : World) (b o : Nat) : Option Addr × Nat := match w.cell? ⟨b, o, none⟩ with
  | some (.slice a n _) => (a, n)
  | _ => (none, 0)
/-- The parts that stand in a part, as memory has them. -/
def innOf (w : World) : Pt → List Pt
  | .ex b o => rowPts .ex 5 (rdSl w b (o + 4)).1 (rdSl w b (o + 4)).2
  | .st b o => rowPts .ex 5 (rdSl w b (o + 3)).1 (rdSl w b (o + 3)).2 ++ rowPts .st 6 (rdSl w b (o + 4)).1 (rdSl w b (o + 4)).2 ++ rowPts .st 6 (rdSl w b (o + 5)).1 (rdSl w b (o + 5)).2
theorem rdSl_of {w : World} {b o : Nat} {a : Option Addr} {n c : Nat} (h : w.cell? ⟨b, o, none⟩ = some (.slice a n c)) : rdSl w b o = (a, n) := by unfold rdSl; rw [h]

def GEx (w : World) (K : Nat) (nd : Nd) (e : Ex) : Prop := NdAll (NodeOk w K (innOf w)) nd ∧ F2 (LabIn w K) nd.visit e.vis
def GSt (w : World) (K : Nat) (nd : Nd) (e : St) : Prop := NdAll (NodeOk w K (innOf w)) nd ∧ F2 (LabIn w K) nd.visit e.vis
theorem row_nds {α : Type} (G : Nd → α → Prop) (mk : Nat → Nat → Pt) (b s : Nat) : ∀ (es : List α) (o : Nat), (∀ i (h : i < es.length), ∃ nd, nd.pt = mk b (o + i * s) ∧ G nd es[i]) →
    ∃ nds : List Nd, nds.map Nd.pt = (List.range es.length).map (fun i => mk b (o + i * s)) ∧ F2 G nds es
  | [], _, _ => ⟨[], rfl, .nil⟩
  | e :: es, o, h => by
    obtain ⟨nd, hp, hG⟩ := h 0 (by simp)
    obtain ⟨nds, hps, hGs⟩ := row_nds G mk b s es (o + s) (fun i hi => by
      obtain ⟨nd, h1, h2⟩ := h (i + 1) (by simpa using hi)
      exact ⟨nd, by rw [h1]; congr 1; rw [Nat.add_mul]; omega, by simpa using h2⟩)
    refine ⟨nd :: nds, ?_, .cons (by simpa using hG) hGs⟩
    simp only [List.map_cons, hps, hp, List.length_cons, List.range_succ_eq_map, List.map_map]
    simp
    intro i _
    congr 1; rw [Nat.add_mul]; omega
theorem visEx {w : World} {K : Nat} {nds : List Nd} {es : List Ex} (h : F2 (GEx w K) nds es) : F2 (LabIn w K) (ndsVisit nds) (exsVis es) ∧ ∀ x ∈ nds, NdAll (NodeOk w K (innOf w)) x := by
  induction h with
  | nil => exact ⟨.nil, fun x hx => by simp at hx⟩
  | cons h _ ih => exact ⟨ih.1.append h.2, fun x hx => by rcases List.mem_cons.1 hx with rfl | hx; exact h.1; exact ih.2 x hx⟩
theorem visSt {w : World} {K : Nat} {nds : List Nd} {es : List St} (h : F2 (GSt w K) nds es) : F2 (LabIn w K) (ndsVisit nds) (stsVis es) ∧ ∀ x ∈ nds, NdAll (NodeOk w K (innOf w)) x := by
  induction h with
  | nil => exact ⟨.nil, fun x hx => by simp at hx⟩
  | cons h _ ih => exact ⟨ih.1.append h.2, fun x hx => by rcases List.mem_cons.1 hx with rfl | hx; exact h.1; exact ih.2 x hx⟩

theorem ndEx (w0 w : World) (K : Nat) (bw : Below w0.heap.size w0 w) (hK : w0.heap.size ≤ K) (e : Ex) : ∀ (B : Nat) (v : Array Value) (b o : Nat), ExIs w0 B v e → 0 < B → (∀ j, j < 5 → w.cell? ⟨b, o + j, none⟩ = v[j]?) → (∃ cs T, w.heap[b]? = some (.cells cs T (0, 0))) → b < K → e.sz ≤ 1048576 →
    ∃ nd, nd.pt = .ex b o ∧ GEx w K nd e := by
  induction e using Ex.ind with
  | h k n bs t kids ih =>
    intro B v b o hx hB hc hp hbK hsz
    obtain ⟨a, cap, rfl, ht, hks⟩ := hx.out
    rw [Ex.sz_mk] at hsz
    have c0 := hc 0 (by omega)
    have c1 := hc 1 (by omega)
    have c2 := hc 2 (by omega)
    have c3 := hc 3 (by omega)
    have c4 := hc 4 (by omega)
    simp at c0 c1 c2 c3 c4
    have hb : b < w.heap.size := let ⟨_, _, h⟩ := hp; (Array.getElem?_eq_some_iff.1 h).1
    obtain ⟨hl, vs, hr, hxs⟩ := hks
    have hlen : kids.length ≤ 1048576 := by unfold exsSz at hsz; omega
    have key : (kids.length = 0 ∨ ∃ b o, a = some ⟨b, o, none⟩) ∧ ∃ nds : List Nd, nds.map Nd.pt = rowPts .ex 5 a kids.length ∧ F2 (GEx w K) nds kids := by
      rcases hr with h0 | ⟨g, p, rfl, hBg, hg, hpl, hcell⟩
      · have : kids = [] := List.length_eq_zero_iff.1 h0
        subst this
        exact ⟨Or.inl rfl, [], by cases a <;> simp [rowPts], .nil⟩
      · refine ⟨Or.inr ⟨g, p, rfl⟩, ?_⟩
        exact row_nds (GEx w K) .ex g 5 kids p fun i hi => ih kids[i] (List.getElem_mem hi) B (vs i) g (p + i * 5) (hxs i hi) hB (fun j hj => (bw.cell (p := ⟨g, _, none⟩) hg).trans ((hcell i hi).2 j hj)) (let ⟨cs, T, h⟩ := hpl hB; ⟨cs, T, (bw.block g hg).trans h⟩) (Nat.lt_of_lt_of_le hg hK) (by have := exsSum_mem (List.getElem_mem hi); unfold exsSz at hsz; omega)
    obtain ⟨ha, nds, hpts, hG⟩ := key
    obtain ⟨hv, hall⟩ := visEx hG
    refine ⟨.mk (.ex b o) nds, rfl, .mk _ _ ⟨hp, ?_, hbK, fun W hW => ?_⟩ hall, ?_⟩
    · simp only [Nd.kids, Nd.pt, innOf, rdSl_of c4]; exact hpts
    · have := inner_ex W b o a kids.length cap (Nat.lt_of_lt_of_le hb hW.size) ((hW.cell (p := ⟨b, o + 4, none⟩) hbK).trans c4) hlen ha
      simp only [Nd.kids, Nd.pt]; rw [hpts]; exact this
    · simp only [Nd.visit, Ex.vis]
      exact .cons ⟨hbK, c0, c1, c2, c3, ht, a, cap, c4⟩ hv
/-- The trees of the parts of a list of expressions. -/
theorem ndExs (w0 w : World) (K : Nat) (bw : Below w0.heap.size w0 w) (hK : w0.heap.size ≤ K) (es : List Ex) (B : Nat) (a : Option Addr) (h : ExsIs w0 B a es) (hB : 0 < B) (hsz : exsSz es ≤ 1048576) :
    (es.length = 0 ∨ ∃ b o, a = some ⟨b, o, none⟩) ∧ ∃ nds : List Nd, nds.map Nd.pt = rowPts .ex 5 a es.length ∧ F2 (GEx w K) nds es := by
  obtain ⟨hl, vs, hr, hxs⟩ := h
  rcases hr with h0 | ⟨g, p, rfl, hBg, hg, hpl, hcell⟩
  · have : es = [] := List.length_eq_zero_iff.1 h0
    subst this
    exact ⟨Or.inl rfl, [], by cases a <;> simp [rowPts], .nil⟩
  · refine ⟨Or.inr ⟨g, p, rfl⟩, ?_⟩
    exact row_nds (GEx w K) .ex g 5 es p fun i hi => ndEx w0 w K bw hK es[i] B (vs i) g (p + i * 5) (hxs i hi) hB (fun j hj => (bw.cell (p := ⟨g, _, none⟩) hg).trans ((hcell i hi).2 j hj)) (let ⟨cs, T, h⟩ := hpl hB; ⟨cs, T, (bw.block g hg).trans h⟩) (Nat.lt_of_lt_of_le hg hK) (by have := exsSum_mem (List.getElem_mem hi); unfold exsSz at hsz; omega)
theorem ndSt (w0 w : World) (K : Nat) (bw : Below w0.heap.size w0 w) (hK : w0.heap.size ≤ K) (e : St) : ∀ (B : Nat) (v : Array Value) (b o : Nat), StIs w0 B v e → 0 < B → (∀ j, j < 6 → w.cell? ⟨b, o + j, none⟩ = v[j]?) → (∃ cs T, w.heap[b]? = some (.cells cs T (0, 0))) → b < K → e.sz ≤ 1048576 →
    ∃ nd, nd.pt = .st b o ∧ GSt w K nd e := by
  induction e using St.ind with
  | h k n bs exps xs ys ihx ihy =>
    intro B v b o hx hB hc hp hbK hsz
    obtain ⟨a, cap, ax, cx, ay, cy, rfl, hes, hxs, hys⟩ := hx.out
    rw [St.sz_mk] at hsz
    have c0 := hc 0 (by omega)
    have c1 := hc 1 (by omega)
    have c2 := hc 2 (by omega)
    have c3 := hc 3 (by omega)
    have c4 := hc 4 (by omega)
    have c5 := hc 5 (by omega)
    simp at c0 c1 c2 c3 c4 c5
    have hb : b < w.heap.size := let ⟨_, _, h⟩ := hp; (Array.getElem?_eq_some_iff.1 h).1
    have le1 : exps.length ≤ 1048576 := by unfold exsSz at hsz; omega
    have le2 : xs.length ≤ 1048576 := by unfold stsSz at hsz; omega
    have le3 : ys.length ≤ 1048576 := by unfold stsSz at hsz; omega
    obtain ⟨ha, nds, hpts, hG⟩ := ndExs w0 w K bw hK exps B a hes hB (by omega)
    have row : ∀ (l : List St) (a : Option Addr), StsIs w0 B a l → stsSz l ≤ 1048576 → (∀ e ∈ l, ∀ (B : Nat) (v : Array Value) (b o : Nat), StIs w0 B v e → 0 < B → (∀ j, j < 6 → w.cell? ⟨b, o + j, none⟩ = v[j]?) → (∃ cs T, w.heap[b]? = some (.cells cs T (0, 0))) → b < K → e.sz ≤ 1048576 → ∃ nd, nd.pt = .st b o ∧ GSt w K nd e) →
        (l.length = 0 ∨ ∃ b o, a = some ⟨b, o, none⟩) ∧ ∃ nds : List Nd, nds.map Nd.pt = rowPts .st 6 a l.length ∧ F2 (GSt w K) nds l := by
      intro l a h hs ih
      obtain ⟨hl, vs, hr, hxs⟩ := h
      rcases hr with h0 | ⟨g, p, rfl, hBg, hg, hpl, hcell⟩
      · have : l = [] := List.length_eq_zero_iff.1 h0
        subst this
        exact ⟨Or.inl rfl, [], by cases a <;> simp [rowPts], .nil⟩
      · refine ⟨Or.inr ⟨g, p, rfl⟩, ?_⟩
        exact row_nds (GSt w K) .st g 6 l p fun i hi => ih l[i] (List.getElem_mem hi) B (vs i) g (p + i * 6) (hxs i hi) hB (fun j hj => (bw.cell (p := ⟨g, _, none⟩) hg).trans ((hcell i hi).2 j hj)) (let ⟨cs, T, h⟩ := hpl hB; ⟨cs, T, (bw.block g hg).trans h⟩) (Nat.lt_of_lt_of_le hg hK) (by have := stsSum_mem (List.getElem_mem hi); unfold stsSz at hs; omega)
    obtain ⟨hax, ndx, hptx, hGx⟩ := row xs ax hxs (by omega) ihx
    obtain ⟨hay, ndy, hpty, hGy⟩ := row ys ay hys (by omega) ihy
    obtain ⟨hv, hall⟩ := visEx hG
    obtain ⟨hvx, hallx⟩ := visSt hGx
    obtain ⟨hvy, hally⟩ := visSt hGy
    refine ⟨.mk (.st b o) (nds ++ ndx ++ ndy), rfl, .mk _ _ ⟨hp, ?_, hbK, fun W hW => ?_⟩ ?_, ?_⟩
    · simp only [Nd.kids, Nd.pt, innOf, rdSl_of c3, rdSl_of c4, rdSl_of c5, List.map_append, hpts, hptx, hpty]
    · have := inner_st W b o a ax ay exps.length cap xs.length cx ys.length cy (Nat.lt_of_lt_of_le hb hW.size) ((hW.cell (p := ⟨b, o + 3, none⟩) hbK).trans c3) ((hW.cell (p := ⟨b, o + 4, none⟩) hbK).trans c4) ((hW.cell (p := ⟨b, o + 5, none⟩) hbK).trans c5) le1 le2 le3 ha hax hay
      simp only [Nd.kids, Nd.pt, List.map_append]; rw [hpts, hptx, hpty]; exact this
    · intro x hx
      simp only [List.mem_append] at hx
      rcases hx with (hx | hx) | hx
      · exact hall x hx
      · exact hallx x hx
      · exact hally x hx
    · simp only [Nd.visit, St.vis]
      refine .cons ⟨hbK, c0, c1, c2, ⟨a, cap, c3⟩, ⟨ax, cx, c4⟩, ay, cy, c5⟩ ?_
      rw [ndsVisit_append, ndsVisit_append]
      exact hvy.append (hvx.append hv)
theorem ndSts (w0 w : World) (K : Nat) (bw : Below w0.heap.size w0 w) (hK : w0.heap.size ≤ K) (es : List St) (B : Nat) (a : Option Addr) (h : StsIs w0 B a es) (hB : 0 < B) (hsz : stsSz es ≤ 1048576) :
    (es.length = 0 ∨ ∃ b o, a = some ⟨b, o, none⟩) ∧ ∃ nds : List Nd, nds.map Nd.pt = rowPts .st 6 a es.length ∧ F2 (GSt w K) nds es := by
  obtain ⟨hl, vs, hr, hxs⟩ := h
  rcases hr with h0 | ⟨g, p, rfl, hBg, hg, hpl, hcell⟩
  · have : es = [] := List.length_eq_zero_iff.1 h0
    subst this
    exact ⟨Or.inl rfl, [], by cases a <;> simp [rowPts], .nil⟩
  · refine ⟨Or.inr ⟨g, p, rfl⟩, ?_⟩
    exact row_nds (GSt w K) .st g 6 es p fun i hi => ndSt w0 w K bw hK es[i] B (vs i) g (p + i * 6) (hxs i hi) hB (fun j hj => (bw.cell (p := ⟨g, _, none⟩) hg).trans ((hcell i hi).2 j hj)) (let ⟨cs, T, h⟩ := hpl hB; ⟨cs, T, (bw.block g hg).trans h⟩) (Nat.lt_of_lt_of_le hg hK) (by have := stsSum_mem (List.getElem_mem hi); unfold stsSz at hsz; omega)
/-- How many parts there are at most. -/
theorem vis_le_ex (e : Ex) : e.vis.length ≤ 1 + e.sz := by
  induction e using Ex.ind with
  | h k n b t kids ih =>
    have : ∀ l : List Ex, (∀ e ∈ l, e.vis.length ≤ 1 + e.sz) → (exsVis l).length ≤ exsSz l := by
      intro l
      induction l with
      | nil => intro _; simp [exsVis, exsSz, exsSum]
      | cons x l ihl =>
        intro h
        have h1 := ihl fun e he => h e (by simp [he])
        have h2 := h x (by simp)
        simp [exsVis, exsSz, exsSum] at *; omega
    have := this kids ih
    rw [Ex.sz_mk]
    simp [Ex.vis]; omega
theorem vis_le_exs : ∀ l : List Ex, (exsVis l).length ≤ exsSz l
  | [] => by simp [exsVis, exsSz, exsSum]
  | x :: l => by
    have h1 := vis_le_exs l
    have h2 := vis_le_ex x
    simp [exsVis, exsSz, exsSum] at *; omega
theorem vis_le_st (e : St) : e.vis.length ≤ 1 + e.sz := by
  induction e using St.ind with
  | h k n b exps xs ys ihx ihy =>
    have : ∀ l : List St, (∀ e ∈ l, e.vis.length ≤ 1 + e.sz) → (stsVis l).length ≤ stsSz l := by
      intro l
      induction l with
      | nil => intro _; simp [stsVis, stsSz, stsSum]
      | cons x l ihl =>
        intro h
        have h1 := ihl fun e he => h e (by simp [he])
        have h2 := h x (by simp)
        simp [stsVis, stsSz, stsSum] at *; omega
    have h1 := this xs ihx
    have h2 := this ys ihy
    have h3 := vis_le_exs exps
    rw [St.sz_mk]
    simp [St.vis]; omega
theorem vis_le_sts : ∀ l : List St, (stsVis l).length ≤ stsSz l
  | [] => by simp [stsVis, stsSz, stsSum]
  | x :: l => by
    have h1 := vis_le_sts l
    have h2 := vis_le_st x
    simp [stsVis, stsSz, stsSum] at *; omega
end Go.Proofs.Ytdkdimklacblaah
