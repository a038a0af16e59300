/- Trees of parts, and the stack on which they are gone through: plain, no program. -/
import Derived.Test.YtdkdimklacblaahPtMap
namespace Go.Proofs.Ytdkdimklacblaah

inductive Nd where
  | mk (pt : Pt) (kids : List Nd)
def Nd.pt : Nd → Pt
  | .mk p _ => p
def Nd.kids : Nd → List Nd
  | .mk _ l => l
theorem Nd.ind {P : Nd → Prop} (h : ∀ p kids, (∀ e ∈ kids, P e) → P (.mk p kids)) (e : Nd) : P e :=
  Nd.rec (motive_1 := P) (motive_2 := fun l => ∀ e ∈ l, P e) (fun p kids ih => h p kids ih) (fun _ hm => nomatch hm)
    (fun _ _ hx hl e he => by rcases List.mem_cons.1 he with rfl | he; exact hx; exact hl e he) e
mutual
def Nd.sz : Nd → Nat
  | .mk _ l => 1 + ndsSz l
def ndsSz : List Nd → Nat
  | [] => 0
  | x :: l => x.sz + ndsSz l
end
mutual
/-- The parts in the order in which they are met: the last of a list first. -/
def Nd.visit : Nd → List Pt
  | .mk p l => p :: ndsVisit l
def ndsVisit : List Nd → List Pt
  | [] => []
  | x :: l => ndsVisit l ++ x.visit
end
/-- Of a tree and all within it. -/
inductive NdAll (p : Nd → Prop) : Nd → Prop
  | mk (q : Pt) (kids : List Nd) (h : p (.mk q kids)) (hk : ∀ x ∈ kids, NdAll p x) : NdAll p (.mk q kids)
theorem NdAll.here {p : Nd → Prop} {x : Nd} (h : NdAll p x) : p x := by cases h; assumption
theorem NdAll.kid {p : Nd → Prop} {q : Pt} {kids : List Nd} (h : NdAll p (.mk q kids)) {x : Nd} (hx : x ∈ kids) : NdAll p x := by cases h with | mk _ _ _ hk => exact hk x hx
theorem NdAll.mono {p q : Nd → Prop} (hpq : ∀ x, p x → q x) {x : Nd} (h : NdAll p x) : NdAll q x := by
  induction h with
  | mk a kids h _ ih => exact .mk a kids (hpq _ h) ih
theorem ndsSz_append : ∀ l m : List Nd, ndsSz (l ++ m) = ndsSz l + ndsSz m
  | [], m => by simp [ndsSz]
  | x :: l, m => by simp [ndsSz, ndsSz_append l m]; omega
theorem ndsSz_mem {l : List Nd} {x : Nd} (h : x ∈ l) : x.sz ≤ ndsSz l := by
  obtain ⟨a, b, rfl⟩ := List.append_of_mem h
  rw [ndsSz_append]; simp [ndsSz]; omega
theorem sz_pos (x : Nd) : 0 < x.sz := by cases x; simp [Nd.sz]; omega
theorem visit_len (x : Nd) : x.visit.length = x.sz := by
  induction x using Nd.ind with
  | h p kids ih =>
    have : ∀ l : List Nd, (∀ e ∈ l, e.visit.length = e.sz) → (ndsVisit l).length = ndsSz l := by
      intro l
      induction l with
      | nil => intro _; rfl
      | cons x l ihl => intro h; simp [ndsVisit, ndsSz, ihl fun e he => h e (by simp [he]), h x (by simp)]; omega
    simp [Nd.visit, Nd.sz, this kids ih]; omega
theorem ndsVisit_len : ∀ l : List Nd, (ndsVisit l).length = ndsSz l
  | [] => rfl
  | x :: l => by simp [ndsVisit, ndsSz, ndsVisit_len l, visit_len]; omega
/-- Where what stands in a part hangs on the part alone, two trees of one part are of one size. -/
theorem sz_same {inn : Pt → List Pt} (x : Nd) : ∀ y : Nd, NdAll (fun z => z.kids.map Nd.pt = inn z.pt) x → NdAll (fun z => z.kids.map Nd.pt = inn z.pt) y → x.pt = y.pt → x.sz = y.sz := by
  induction x using Nd.ind with
  | h p kids ih =>
    intro y hx hy e
    obtain ⟨q, kids'⟩ := y
    simp only [Nd.pt] at e
    subst e
    have h1 : kids.map Nd.pt = kids'.map Nd.pt := hx.here.trans hy.here.symm
    have : ∀ l l' : List Nd, (∀ e ∈ l, e ∈ kids) → (∀ e ∈ l', e ∈ kids') → l.map Nd.pt = l'.map Nd.pt → ndsSz l = ndsSz l' := by
      intro l
      induction l with
      | nil => intro l' _ _ h; cases l' with | nil => rfl | cons a b => simp at h
      | cons a l ihl =>
        intro l' ha hb h
        cases l' with
        | nil => simp at h
        | cons b l' =>
          simp only [List.map_cons, List.cons.injEq] at h
          simp [ndsSz, ih a (ha a (by simp)) b (hx.kid (ha a (by simp))) (hy.kid (hb b (by simp))) h.1, ihl l' (fun e he => ha e (by simp [he])) (fun e he => hb e (by simp [he])) h.2]
    simp [Nd.sz, this kids kids' (fun _ h => h) (fun _ h => h) h1]

/-! The stack: its top first; a part is open once what stands in it has been put on. -/
abbrev Stk := List (Bool × Nd)
def outS : Stk → List Pt
  | [] => []
  | (true, _) :: S => outS S
  | (false, x) :: S => x.visit ++ outS S
def muS : Stk → Nat
  | [] => 0
  | (true, _) :: S => 1 + muS S
  | (false, x) :: S => 2 * x.sz + muS S
def wkS : Stk → List Pt
  | [] => []
  | (_, x) :: S => wkS S ++ [x.pt]
def opS : Stk → List (Pt × Nat)
  | [] => []
  | (true, x) :: S => opS S ++ [(x.pt, S.length)]
  | (false, _) :: S => opS S
/-- What is put on: the kids, the last on top. -/
def pushS : List Nd → Stk → Stk
  | [], S => S
  | x :: l, S => pushS l ((false, x) :: S)
def GoodS (ok : Nd → Prop) : Stk → Prop
  | [] => True
  | (_, x) :: S => NdAll ok x ∧ (∀ y, (true, y) ∈ S → x.sz < y.sz) ∧ GoodS ok S
theorem wkS_len : ∀ S : Stk, (wkS S).length = S.length
  | [] => rfl
  | (_, _) :: S => by simp [wkS, wkS_len S]
theorem wkS_push : ∀ (l : List Nd) (S : Stk), wkS (pushS l S) = wkS S ++ l.map Nd.pt
  | [], S => by simp [pushS]
  | x :: l, S => by simp [pushS, wkS_push l, wkS]
theorem opS_push : ∀ (l : List Nd) (S : Stk), opS (pushS l S) = opS S
  | [], S => rfl
  | x :: l, S => by simp [pushS, opS_push l, opS]
theorem outS_push : ∀ (l : List Nd) (S : Stk), outS (pushS l S) = ndsVisit l ++ outS S
  | [], S => by simp [pushS, ndsVisit]
  | x :: l, S => by simp [pushS, outS_push l, outS, ndsVisit]
theorem muS_push : ∀ (l : List Nd) (S : Stk), muS (pushS l S) = 2 * ndsSz l + muS S
  | [], S => by simp [pushS, ndsSz]
  | x :: l, S => by simp [pushS, muS_push l, muS, ndsSz]; omega
theorem open_push : ∀ (l : List Nd) (S : Stk) (y : Nd), (true, y) ∈ pushS l S → (true, y) ∈ S
  | [], _, _, h => h
  | x :: l, S, y, h => by
    have := open_push l _ y h
    simpa using this
theorem good_push {ok : Nd → Prop} : ∀ (l : List Nd) (S : Stk), GoodS ok S → (∀ x ∈ l, NdAll ok x ∧ ∀ y, (true, y) ∈ S → x.sz < y.sz) → GoodS ok (pushS l S)
  | [], _, h, _ => h
  | x :: l, S, h, hl => by
    refine good_push l _ ⟨(hl x (by simp)).1, (hl x (by simp)).2, h⟩ fun z hz => ⟨(hl z (by simp [hz])).1, fun y hy => ?_⟩
    have : (true, y) ∈ S := by simpa using hy
    exact (hl z (by simp [hz])).2 y this
theorem opS_mem : ∀ (S : Stk) (p : Pt × Nat), p ∈ opS S → ∃ y, (true, y) ∈ S ∧ p.1 = y.pt
  | [], p, h => by simp [opS] at h
  | (true, x) :: S, p, h => by
    simp only [opS, List.mem_append, List.mem_singleton] at h
    rcases h with h | rfl
    · obtain ⟨y, h1, h2⟩ := opS_mem S p h; exact ⟨y, by simp [h1], h2⟩
    · exact ⟨x, by simp, rfl⟩
  | (false, x) :: S, p, h => by
    obtain ⟨y, h1, h2⟩ := opS_mem S p h; exact ⟨y, by simp [h1], h2⟩
theorem good_mem {ok : Nd → Prop} : ∀ (S : Stk), GoodS ok S → ∀ b y, (b, y) ∈ S → NdAll ok y
  | [], _, b, y, h => by simp at h
  | (c, x) :: S, h, b, y, hm => by
    rcases List.mem_cons.1 hm with e | hm
    · cases e; exact h.1
    · exact good_mem S h.2.2 b y hm
/-- The part on top is none of the open ones below it. -/
theorem top_new {ok : Nd → Prop} {inn : Pt → List Pt} (hok : ∀ x, ok x → x.kids.map Nd.pt = inn x.pt) {b : Bool} {x : Nd} {S : Stk} (h : GoodS ok ((b, x) :: S)) : ∀ p ∈ opS S, p.1 ≠ x.pt := by
  intro p hp e
  obtain ⟨y, hy, h1⟩ := opS_mem S p hp
  have l := h.2.1 y hy
  have := sz_same x y (h.1.mono hok) ((good_mem S h.2.2 true y hy).mono hok) (e.symm.trans h1)
  omega
end Go.Proofs.Ytdkdimklacblaah
