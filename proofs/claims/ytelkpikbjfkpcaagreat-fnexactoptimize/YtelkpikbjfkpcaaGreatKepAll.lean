/- The contract of slices.Reverse over a list of steps that a call owns. -/
import Derived.Test.YtelkpikbjfkpcaaGreatFwdPQ
import Derived.Test.YtelkpikbjfkpcaaGreatOwnA
import Derived.Deep.LoopGhost
import Derived.Test.YtelkpikbjfkpcaaGreatSetAll
import Derived.Deep.CutRange
import Derived.Deep.RegionHeld3
namespace Go.Proofs.YtelkpikbjfkpcaaGreat
open Go.ChangeShapes Go.WideShapes Go.ChangeAt Go.RowKit
/-- A row of so many steps, told one by one. -/
def RowI (w : World) (g cap : Nat) (n : Nat) (f : Nat → Ins) : Prop := RowF w g 0 n (fun k r => insF (f k) r) ∧ ∃ cur, w.heap[g]? = some (.cells cur 56 (0, 0)) ∧ cur.size = cap * 7
theorem InE_row {w : World} {B g n cap : Nat} {l : List Ins} (h : OwnE InE w B (.slice (some ⟨g, 0, none⟩) n cap) l) : RowI w g cap l.length (fun k => l[k]!) ∧ B ≤ g ∧ l.length ≤ cap ∧ cap ≤ maxLen ∧ n = l.length := by
  obtain ⟨g', cap', cur, hv, hB, hh, hc, hm, hs, hx⟩ := h.parts InOk
  injection hv with e1 e2 e3
  injection e1 with e1
  injection e1 with e1
  subst e1 e3
  refine ⟨⟨⟨cur, _, hh, ?_, fun k hk r hr => ?_⟩, cur, hh, hs⟩, hB, hc, hm, e2⟩
  · have : InE.sz = 7 := rfl
    rw [hs, this]; omega
  · have := hx k hk r hr
    rw [show InE.sz = 7 from rfl] at this
    simp only [getElem!_pos l k hk]
    rw [Nat.zero_add, this]
    match r, hr with
    | 0, _ => rfl
    | 1, _ => rfl
    | 2, _ => rfl
    | 3, _ => rfl
    | 4, _ => rfl
    | 5, _ => rfl
    | 6, _ => rfl
theorem RowI.own {w : World} {B g cap n : Nat} {f : Nat → Ins} (h : RowI w g cap n f) (hB : B ≤ g) (hc : n ≤ cap) (hm : cap ≤ maxLen) {l : List Ins} (hl : l.length = n) (e : ∀ k (hk : k < l.length), f k = l[k]) : OwnE InE w B (.slice (some ⟨g, 0, none⟩) l.length cap) l := by
  obtain ⟨⟨cur, T, h1, h2, h3⟩, cur2, h4, h5⟩ := h
  have e0 : cur = cur2 ∧ T = 56 := by
    rw [h1] at h4
    injection h4 with h4
    injection h4 with a b
    exact ⟨a, b⟩
  obtain ⟨rfl, rfl⟩ := e0
  refine OwnE.of_parts InOk hB h1 (by omega) hm h5 (fun j hj r hr => ?_)
  have := h3 j (by omega) r hr
  simp only [e j hj, Nat.zero_add] at this
  rw [show InE.sz = 7 from rfl, this]
  have hr : r < 7 := hr
  match r, hr with
  | 0, _ => rfl
  | 1, _ => rfl
  | 2, _ => rfl
  | 3, _ => rfl
  | 4, _ => rfl
  | 5, _ => rfl
  | 6, _ => rfl
theorem rowSz_set {w : World} {g N : Nat} {T : TypeId} (h : ∃ cur, w.heap[g]? = some (.cells cur T (0, 0)) ∧ cur.size = N) (i : Nat) (u : Value) : ∃ cur, (w.setCell ⟨g, i, none⟩ u).heap[g]? = some (.cells cur T (0, 0)) ∧ cur.size = N := by
  obtain ⟨cur, h1, h2⟩ := h
  exact ⟨_, heap_setCell_same w g i cur _ u h1, by simpa using h2⟩
theorem RowI.put {w : World} {g cap n : Nat} {f : Nat → Ins} (h : RowI w g cap n f) {j : Nat} (hj : j < n) (y : Ins) :
    RowI (((((((w.setCell ⟨g, j * 7, none⟩ (.int .i64 y.op)).setCell ⟨g, j * 7 + 1, none⟩ (.int .i64 y.d)).setCell ⟨g, j * 7 + 2, none⟩ (.int .i64 y.a)).setCell ⟨g, j * 7 + 3, none⟩ (.int .i64 y.b)).setCell ⟨g, j * 7 + 4, none⟩ (.int .i64 y.c)).setCell ⟨g, j * 7 + 5, none⟩ (.int .i64 y.n)).setCell ⟨g, j * 7 + 6, none⟩ (.string y.t)) g cap n (fun k => if k = j then y else f k) := by
  obtain ⟨h1, h2⟩ := h
  refine ⟨?_, rowSz_set (rowSz_set (rowSz_set (rowSz_set (rowSz_set (rowSz_set (rowSz_set h2 _ _) _ _) _ _) _ _) _ _) _ _) _ _⟩
  have := h1.put hj y
  simp only [Nat.zero_add] at this
  exact this.congr (fun k _ r _ => by by_cases e : k = j <;> simp [e])
/-- The first i and the last i have changed places. -/
def revUp (l : List Ins) (i k : Nat) : Ins := if k < i ∨ l.length ≤ k + i then l[l.length - 1 - k]! else l[k]!
theorem revUp_next {l : List Ins} {i m : Nat} (hm : i + m + 1 = l.length) (hi : i < m) (k : Nat) (hk : k < l.length) : revUp l (i + 1) k = if k = m then l[i]! else if k = i then l[m]! else revUp l i k := by
  unfold revUp
  by_cases e1 : k = m
  · subst e1
    rw [if_pos (by omega), if_pos rfl, show l.length - 1 - k = i by omega]
  · rw [if_neg e1]
    by_cases e2 : k = i
    · subst e2
      rw [if_pos (by omega), if_pos rfl, show l.length - 1 - k = m by omega]
    · rw [if_neg e2]
      by_cases e3 : k < i ∨ l.length ≤ k + i
      · rw [if_pos (by omega), if_pos e3]
      · rw [if_neg (by omega), if_neg e3]
theorem revUp_at {l : List Ins} {i m : Nat} (hm : i + m + 1 = l.length) (hi : i < m) : revUp l i i = l[i]! ∧ revUp l i m = l[m]! := by
  unfold revUp
  exact ⟨by rw [if_neg (by omega)], by rw [if_neg (by omega)]⟩
theorem revUp_end {l : List Ins} {i : Nat} (h1 : 2 * i ≤ l.length) (h2 : l.length ≤ 2 * i + 1) (k : Nat) (hk : k < l.reverse.length) : revUp l i k = l.reverse[k] := by
  have hk' : k < l.length := by simpa using hk
  rw [List.getElem_reverse]
  unfold revUp
  split
  · rw [getElem!_pos l _ (by omega)]
  · have e : l.length - 1 - k = k := by omega
    simp only [e]
    rw [getElem!_pos l k hk']
theorem RowI.congr {w : World} {g cap n : Nat} {f f' : Nat → Ins} (h : RowI w g cap n f) (e : ∀ k, k < n → f k = f' k) : RowI w g cap n f' := ⟨h.1.congr (fun k hk r _ => by rw [e k hk]), h.2⟩
theorem RowI.swap {wr : World} {g cap : Nat} {l : List Ins} {k m : Nat} (h : RowI wr g cap l.length (revUp l k)) (hm : k + m + 1 = l.length) (hk : k < m) {X Y : Ins} (hX : l[k]! = X) (hY : l[m]! = Y) :
    RowI ((((((((((((((wr.setCell ⟨g, k * 7, none⟩ (.int .i64 Y.op)).setCell ⟨g, k * 7 + 1, none⟩ (.int .i64 Y.d)).setCell ⟨g, k * 7 + 2, none⟩ (.int .i64 Y.a)).setCell ⟨g, k * 7 + 3, none⟩ (.int .i64 Y.b)).setCell ⟨g, k * 7 + 4, none⟩ (.int .i64 Y.c)).setCell ⟨g, k * 7 + 5, none⟩ (.int .i64 Y.n)).setCell ⟨g, k * 7 + 6, none⟩ (.string Y.t)).setCell ⟨g, m * 7, none⟩ (.int .i64 X.op)).setCell ⟨g, m * 7 + 1, none⟩ (.int .i64 X.d)).setCell ⟨g, m * 7 + 2, none⟩ (.int .i64 X.a)).setCell ⟨g, m * 7 + 3, none⟩ (.int .i64 X.b)).setCell ⟨g, m * 7 + 4, none⟩ (.int .i64 X.c)).setCell ⟨g, m * 7 + 5, none⟩ (.int .i64 X.n)).setCell ⟨g, m * 7 + 6, none⟩ (.string X.t)) g cap l.length (revUp l (k + 1)) := by
  refine ((h.put (j := k) (by omega) Y).put (j := m) (by omega) X).congr (fun i hi => ?_)
  rw [revUp_next hm hk i hi, hX, hY]
theorem RowI.seen {w : World} {g cap n : Nat} {f : Nat → Ins} (h : RowI w g cap n f) {k : Nat} (hk : k < n) {x : Ins} (hx : f k = x) : w.cell? ⟨g, k * 7, none⟩ = some (.int .i64 x.op) ∧ w.cell? ⟨g, k * 7 + 1, none⟩ = some (.int .i64 x.d) ∧ w.cell? ⟨g, k * 7 + 2, none⟩ = some (.int .i64 x.a) ∧ w.cell? ⟨g, k * 7 + 3, none⟩ = some (.int .i64 x.b) ∧ w.cell? ⟨g, k * 7 + 4, none⟩ = some (.int .i64 x.c) ∧ w.cell? ⟨g, k * 7 + 5, none⟩ = some (.int .i64 x.n) ∧ w.cell? ⟨g, k * 7 + 6, none⟩ = some (.string x.t) ∧ ∀ i, w.frozen? ⟨g, i, none⟩ = false := by
  subst hx
  have a := fun r (hr : r < 7) => (h.1.at hk hr).1
  simp only [Nat.zero_add] at a
  exact ⟨a 0 (by omega), a 1 (by omega), a 2 (by omega), a 3 (by omega), a 4 (by omega), a 5 (by omega), a 6 (by omega), (h.1.at hk (r := 0) (by omega)).2⟩
theorem RowI.drew {w : World} {g cap n : Nat} {f : Nat → Ins} (h : RowI w g cap n f) : RowI w.drew g cap n f := ⟨h.1.keep rfl, h.2⟩
theorem But.onB {b : Nat} {w w1 w2 : World} (h : But b w w1) (k : Below w.heap.size w1 w2) : But b w w2 :=
  ⟨k.os.trans h.os, k.tape.trans h.tape, k.output.trans h.output, Nat.le_trans h.size k.size, fun i hi hne => (k.block i hi).trans (h.block i hi hne)⟩
theorem But.drewR {g : Nat} {w w' : World} (h : But g w w') : But g w w'.drew := h.on (Below.refl _ _).drew
set_option maxRecDepth 100000 in
set_option maxHeartbeats 4000000 in
theorem reverseR_any (l : List Ins) (w : World) (B : Nat) (v : Value) (h : OwnE InE w B v l) (hl : l.length ≤ 1000000) :
    Calls Tryz.prog 131 #[v] w fun e w' => e = .returned (.tuple #[]) ∧ OwnE InE w' B v l.reverse ∧ ∃ g, v.ownBlock = some g ∧ But g w w' := by
  obtain ⟨g, cap, rfl, _⟩ := id h
  obtain ⟨hr, hB, hc, hm, _⟩ := InE_row h
  have FIN : Hid (∀ W i, RowI W g cap l.length (revUp l i) → 2 * i ≤ l.length → l.length ≤ 2 * i + 1 → OwnE InE W B (.slice (some ⟨g, 0, none⟩) l.length cap) l.reverse) := fun W i hW h1 h2 => by
    have := hW.own hB hc hm (l := l.reverse) (by simp) (fun k hk => revUp_end h1 h2 k hk)
    rw [List.length_reverse] at this
    exact this
  have R0 : Hid (RowI w g cap l.length (revUp l 0)) := hr.congr (fun k hk => by unfold revUp; rw [if_neg (by omega)])
  have SW := hideP (fun (wr : World) (k m : Nat) (X Y : Ins) (h : RowI wr g cap l.length (revUp l k)) hm hk hX hY => RowI.swap (X := X) (Y := Y) (m := m) h hm hk hX hY)
  obtain ⟨n, hn⟩ : ∃ n, l.length = n := ⟨_, rfl⟩
  rw [hn] at FIN R0 SW hl ⊢
  have HN := hideP hn
  clear hr hB hc hm h hn
  go_enter Tryz.func131, Tryz.ntmps131
  go_wp2
  go_loopg [2, 3] n (fun gk i j wr => ∃ k : Nat, gk + k = n ∧ 2 * k ≤ n ∧ i = .int .i64 k ∧ j = .int .i64 ((n : Int) - 1 - k) ∧ Hid (RowI wr g cap n (revUp l k)) ∧ Hid (But g w wr))
  case atStart => exact ⟨0, by simp, by omega, rfl, by simp, R0.out, But.refl _ _⟩
  case round =>
    obtain ⟨k, hgk, h2k, rfl, rfl, hR, hB⟩ := hrel
    clear R0
    by_cases hlt : 2 * k + 1 < n
    · obtain ⟨m, hm⟩ : ∃ m : Nat, (n : Int) - 1 - k = m := ⟨n - 1 - k, by omega⟩
      rw [hm]
      obtain ⟨X, hX⟩ : ∃ X, l[k]! = X := ⟨_, rfl⟩
      obtain ⟨Y, hY⟩ : ∃ Y, l[m]! = Y := ⟨_, rfl⟩
      have hml : m < n := by omega
      have hkl : k < n := by omega
      have hkm : k < m := by omega
      have at2 := revUp_at (l := l) (i := k) (m := m) (by rw [HN.out]; omega) hkm
      obtain ⟨x0, x1, x2, x3, x4, x5, x6, xf⟩ := hR.out.seen hkl (at2.1.trans hX)
      obtain ⟨y0, y1, y2, y3, y4, y5, y6, _⟩ := hR.out.seen hml (at2.2.trans hY)
      have N1 := hideP (SW.out wr k m X Y hR.out (by omega) hkm hX hY)
      clear hX hY at2
      obtain ⟨x_op, x_d, x_a, x_b, x_c, x_n, x_t⟩ := X
      obtain ⟨y_op, y_d, y_a, y_b, y_c, y_n, y_t⟩ := Y
      simp only at N1 x0 x1 x2 x3 x4 x5 x6 y0 y1 y2 y3 y4 y5 y6
      clear hR
      have hme : Hid ((n : Int) - 1 - k = m) := hm
      clear hm
      go_wp2
      go_region
      all_goals
        go_wp2
        go_roundg (n - (k + 1))
        case rel => exact ⟨k + 1, by omega, by omega, by go_num, by have := hme.out; go_num, RowI.drew N1.out, But.drewR (hB.out.twice (((((((((((((((But.refl g wr).set _ _).set _ _).set _ _).set _ _).set _ _).set _ _).set _ _).set _ _).set _ _).set _ _).set _ _).set _ _).set _ _).set _ _))⟩
        case measure => omega
    · go_wp2
      first | go_end0 | refine bodyPost_ret (results_none rfl _ _ _) rfl ?_
      exact ⟨rfl, FIN.out _ k hR.out h2k (by omega), g, rfl, hB.out⟩
end Go.Proofs.YtelkpikbjfkpcaaGreat

/- The contract of impl.keptFromLast with the closure of impl.withoutDead (written by wip/mkkept.py). -/
namespace Go.Proofs.YtelkpikbjfkpcaaGreat
open Go.ChangeShapes Go.WideShapes Go.ChangeAt Go.RowKit
/-- Between two rounds. -/
structure KeptD (w : World) (m : Nat) (Inv : World → Prop) (v : Value) (L : List Ins) (W : World) : Prop where
  own : OwnE InE W w.heap.size v L
  inv : Inv W
  but : But m w W
theorem KeptD.call {w W W' : World} {m : Nat} {Inv Inv' : World → Prop} {v : Value} {L : List Ins} (h : KeptD w m Inv v L W) (hm : m < w.heap.size) (i : Inv' W') (hb : But m W W') : KeptD w m Inv' v L W' :=
  ⟨h.own.butG hb (fun e => by have := (h.own.low _ e).1; omega), i, h.but.twice hb⟩
theorem KeptD.app {w W Wa W' : World} {m : Nat} {Inv : World → Prop} {v v' : Value} {L L' : List Ins} (h : KeptD w m Inv v L W) (hk : ∀ W W', Inv W → Below w.heap.size W W' → Inv W') (ha : Below W.heap.size W Wa) (ho : OwnE InE W' w.heap.size v' L') (hg : Wa.grownBy W' v.ownBlock) : KeptD w m Inv v' L' W' := by
  have hs := h.but.size
  have b1 : Below w.heap.size W Wa := ha.mono hs
  have b2 : Below w.heap.size Wa W' := ⟨hg.os, hg.tape, hg.output, hg.size, fun k hk => hg.block k (by have := ha.size; omega) (fun e => by have := (h.own.low _ e.symm).1; omega)⟩
  exact ⟨ho, hk _ _ h.inv (b1.trans b2), h.but.onB (b1.trans b2)⟩
set_option maxRecDepth 100000 in
set_option maxHeartbeats 4000000 in
theorem keptD_any {σ : Type} (f : σ → Nat → σ × Bool) (s0 : σ) (code : List Ins) (uc : Option Addr) (kc B : Nat) (w : World) (m : Nat) (hm : m < w.heap.size) (Inv : Nat → World → Prop) (c1 c2 c3 : Value) (hl : code.length ≤ 1000)
    (h0 : Inv 0 w) (hk : ∀ k W W', Inv k W → Below w.heap.size W W' → Inv k W') (hc : ∀ k W, Inv k W → SlIs InsIs 7 W B uc code)
    (hf : ∀ k i W, k < code.length → i + k + 1 = code.length → Inv k W → w.heap.size ≤ W.heap.size → Calls Tryz.prog 110 #[.int .i64 (i : Nat), c1, c2, c3] W fun e W' => e = .returned (.bool (f (backUp f s0 code k).1 i).2) ∧ Inv (k + 1) W' ∧ But m W W') :
    Calls Tryz.prog 93 #[.slice uc code.length kc, .func (.func 110) #[] #[c1, c2, c3]] w fun e w' => ∃ v, e = .returned v ∧ OwnE InE w' w.heap.size v (backUp f s0 code code.length).2 ∧ Inv code.length w' ∧ But m w w' := by
  have HK := hideP hk
  have HC := hideP hc
  have HF := hideP hf
  have S0 : Hid (KeptD w m (Inv 0) (.slice (some ⟨w.heap.size, 0, none⟩) 0 0) ((backUp f s0 code 0).2.reverse) (w.alloc (.cells #[] 56))) := by
    have al := (Below.refl w.heap.size w).alloc (Nat.le_refl _) (.cells #[] 56)
    exact ⟨own_nil InOk w w.heap.size rfl, hk 0 _ _ h0 al, But.ofBelowP al⟩
  have FEW := hideP (fun k => backUp_few (f := f) (s0 := s0) (code := code) k)
  obtain ⟨n, hn⟩ : ∃ n, code.length = n := ⟨_, rfl⟩
  have HN := hideP hn
  rw [hn] at hl HF ⊢
  clear hk hc hf h0 hn
  go_enter Tryz.func93, Tryz.ntmps93
  go_wp2
  go_loopg [5, 6] n (fun gk v ix wr => ∃ k : Nat, gk + k = n ∧ ix = .int .i64 ((n : Int) - 1 - k) ∧ Hid (KeptD w m (Inv k) v ((backUp f s0 code k).2.reverse) wr))
  case atStart => exact ⟨0, by simp, by simp, S0.out⟩
  case round =>
    obtain ⟨k, hgk, rfl, hS⟩ := hrel
    clear S0
    by_cases hlt : k < n
    · obtain ⟨i, hi⟩ : ∃ i : Nat, (n : Int) - 1 - k = i := ⟨n - 1 - k, by omega⟩
      rw [hi]
      have hin : i < n := by omega
      have hic : i < code.length := by rw [HN.out]; exact hin
      have UP : Hid (backUp f s0 code (k + 1) = ((f (backUp f s0 code k).1 i).1, if (f (backUp f s0 code k).1 i).2 = true then code[i]'hic :: (backUp f s0 code k).2 else (backUp f s0 code k).2)) := backUp_at (by rw [HN.out]; exact hlt) (by rw [HN.out]; omega)
      have hsz := hS.out.but.size
      have CL := hideP (HF.out k i wr hlt (by omega) hS.out.inv hsz)
      have FW := hideP (FEW.out k)
      obtain ⟨kp, hkp⟩ : ∃ kp, (f (backUp f s0 code k).1 i).2 = kp := ⟨_, rfl⟩
      rw [hkp] at CL UP
      obtain ⟨L, hL⟩ : ∃ L, (backUp f s0 code k).2 = L := ⟨_, rfl⟩
      rw [hL] at UP hS FW
      have HI : Hid ((n : Int) - 1 - k = i) := hi
      clear hkp hL hi HF
      go_wp2_with fail
      refine CL.out.mono ?_
      rintro e5 w5 ⟨rfl, i5, b5⟩
      have S5 := hideP (hS.out.call hm i5 b5)
      clear hS CL i5 b5
      cases kp with
      | false =>
        have UP2 : Hid ((backUp f s0 code (k + 1)).2.reverse = L.reverse) := by show _ = _; rw [UP.out]; rfl
        clear UP
        go_wp2
        go_roundg (n - (k + 1))
        case rel => exact ⟨k + 1, by omega, by have := HI.out; go_num, by rw [UP2.out]; exact S5.out⟩
        case measure => omega
      | true =>
        obtain ⟨bb, oo, op, d, a, b0, c0, nn, t, hu, _, hbl, he, q0, q1, q2, q3, q4, q5, q6, _⟩ := Ins_get (HC.out _ _ S5.out.inv) i hic
        subst hu
        have UP2 : Hid ((backUp f s0 code (k + 1)).2.reverse = L.reverse ++ [⟨op, d, a, b0, c0, nn, t⟩]) := by
          show _ = _
          rw [UP.out, he]
          simp
        clear UP
        obtain ⟨V, hV⟩ : ∃ V, L.reverse = V := ⟨_, rfl⟩
        have hVl : V.length ≤ 1000 := by rw [← hV, List.length_reverse]; have := FW.out; omega
        rw [hV] at S5 UP2
        have HVL := hideP hVl
        clear hV hVl he FW
        have al := (Below.refl w5.heap.size w5).alloc (Nat.le_refl _) (.cells #[.int .i64 op, .int .i64 d, .int .i64 a, .int .i64 b0, .int .i64 c0, .int .i64 nn, .string t] 56)
        have OA := hideP (S5.out.own.stays al)
        have AL := hideP al
        have CQ : Hid (∀ r, r < InE.sz → (w5.alloc (.cells #[.int .i64 op, .int .i64 d, .int .i64 a, .int .i64 b0, .int .i64 c0, .int .i64 nn, .string t] 56)).cell? ⟨w5.heap.size, 0 + r, none⟩ = (InE.cs (⟨op, d, a, b0, c0, nn, t⟩ : Ins))[r]?) := fun r _ => by
          have := (cells_of (newI w5 #[.int .i64 op, .int .i64 d, .int .i64 a, .int .i64 b0, .int .i64 c0, .int .i64 nn, .string t])).1 r
          rw [Nat.zero_add, this]; simp [InE]
        have hsz1 : Hid (w.heap.size ≤ (w5.alloc (.cells #[.int .i64 op, .int .i64 d, .int .i64 a, .int .i64 b0, .int .i64 c0, .int .i64 nn, .string t] 56)).heap.size) := Nat.le_trans S5.out.but.size al.size
        clear al
        go_wp2_with (at_builtin; refine list_appE InOk _ rfl _ _ rfl w.heap.size _ V (⟨op, d, a, b0, c0, nn, t⟩ : Ins) w5.heap.size 0 1 rfl rfl OA.out CQ.out (by have := HVL.out; omega) hsz1.out ?_; intro v7 w7 o7 grow7 loc7)
        have S7 := hideP (S5.out.app (HK.out (k + 1)) AL.out o7 grow7)
        clear S5 OA AL CQ hsz1 o7 grow7 loc7 q0 q1 q2 q3 q4 q5 q6
        go_wp2
        go_roundg (n - (k + 1))
        case rel => exact ⟨k + 1, by omega, by have := HI.out; go_num, by rw [UP2.out]; exact S7.out⟩
        case measure => omega
    · have hkn : k = n := by omega
      subst hkn
      obtain ⟨L, hL⟩ : ∃ L, (backUp f s0 code k).2 = L := ⟨_, rfl⟩
      have hLl := FEW.out k
      rw [hL] at hS hLl
      have HL := hideP hL
      have RV : Hid (Calls Tryz.prog 131 #[u5] wr fun e w' => e = .returned (.tuple #[]) ∧ OwnE InE w' w.heap.size u5 L ∧ ∃ g, u5.ownBlock = some g ∧ But g wr w') := by
        have := reverseR_any L.reverse wr w.heap.size u5 hS.out.own (by rw [List.length_reverse]; omega)
        rw [List.reverse_reverse] at this
        exact this
      clear hLl hL FEW HF
      go_wp2_with fail
      refine RV.out.mono ?_
      rintro e8 w8 ⟨rfl, o8, g8, hg8, b8⟩
      have E8 : Hid (Inv k w8 ∧ But m w w8) := by
        have lo := (hS.out.own.low _ hg8).1
        have bb := b8.below lo hS.out.but.size
        exact ⟨HK.out _ _ _ hS.out.inv bb, hS.out.but.onB bb⟩
      have O8 := hideP o8
      clear o8 b8 RV hS
      go_wp2
      go_ret
      exact ⟨_, rfl, by rw [HL.out]; exact O8.out, E8.out⟩
end Go.Proofs.YtelkpikbjfkpcaaGreat

/- The contract of impl.withoutDead. -/
namespace Go.Proofs.YtelkpikbjfkpcaaGreat
open Go.ChangeShapes Go.WideShapes Go.ChangeAt Go.RowKit
/-- The boxes of the steps, of the places and of the set; the set. -/
structure DkAt (w : World) (uc : Option Addr) (cn kc gp pn kp : Nat) (l : List Pla) (n : Nat) (W : World) : Prop where
  bC : W.heap[w.heap.size]? = some (.cells #[.slice uc cn kc] 49 (0, 0))
  bP : W.heap[w.heap.size + 1]? = some (.cells #[.slice (some ⟨gp, 0, none⟩) pn kp] 59 (0, 0))
  bO : W.heap[w.heap.size + 3]? = some (.cells #[.map (some (w.heap.size + 2))] 133 (0, 0))
  set : SetIs PlK W (w.heap.size + 2) n l
  bel : Below w.heap.size w W
theorem DkAt.next {w W W' : World} {uc : Option Addr} {cn kc gp pn kp n n' : Nat} {l l' : List Pla} (h : DkAt w uc cn kc gp pn kp l n W) (hb : But (w.heap.size + 2) W W') (hs : SetIs PlK W' (w.heap.size + 2) n' l') : DkAt w uc cn kc gp pn kp l' n' W' :=
  ⟨hb.keepB h.bC (by omega), hb.keepB h.bP (by omega), hb.keepB h.bO (by omega), hs, h.bel.trans (hb.below (by omega) h.bel.size)⟩
theorem DkAt.keep {w W W' : World} {uc : Option Addr} {cn kc gp pn kp n : Nat} {l : List Pla} (h : DkAt w uc cn kc gp pn kp l n W) (hb : Below (w.heap.size + 4) W W') : DkAt w uc cn kc gp pn kp l n W' :=
  ⟨(hb.block _ (by omega)).trans h.bC, (hb.block _ (by omega)).trans h.bP, (hb.block _ (by omega)).trans h.bO, h.set.blk (hb.block _ (by omega)), h.bel.trans (hb.mono (by omega))⟩
set_option maxRecDepth 100000 in
set_option maxHeartbeats 4000000 in
theorem dead1_any (code : List Ins) (ps : List Pla) (l : List Pla) (w W : World) (B : Nat) (uc : Option Addr) (kc gp kp n i : Nat) (hc : SlIs InsIs 7 w B uc code) (hpl : OwnE PlE w 0 (.slice (some ⟨gp, 0, none⟩) ps.length kp) ps) (h : DkAt w uc code.length kc gp ps.length kp l n W)
    (hi : i < code.length) (hip : i < ps.length) (hp : PlaI ps[i]) (hn : n ≤ 1000000) :
    Calls Tryz.prog 110 #[.int .i64 (i : Nat), .pointer (some ⟨w.heap.size + 3, 0, none⟩), .pointer (some ⟨w.heap.size, 0, none⟩), .pointer (some ⟨w.heap.size + 1, 0, none⟩)] W fun e W' => e = .returned (.bool (dsF code ps l i).2) ∧ DkAt w uc code.length kc gp ps.length kp (dsF code ps l i).1 (n + 1) W' ∧ But (w.heap.size + 2) W W' := by
  have SS := hideP (fun W0 h0 => storeSeen_any l code[i] ps[i] W0 (w.heap.size + 2) n h0 hp hn)
  rw [dsF_at hi hip]
  simp only
  obtain ⟨bb, oo, op, d, a, b0, c0, nn, t, hu, _, hbl, he, q0, q1, q2, q3, q4, q5, q6, _⟩ := Ins_get hc i hi
  subst hu
  have pc := pla_at hpl i hip
  have hgl := (hpl.low gp rfl).2
  rw [he] at SS ⊢
  obtain ⟨P, hP⟩ : ∃ P, ps[i] = P := ⟨_, rfl⟩
  rw [hP] at SS pc ⊢
  obtain ⟨pr, pi, pj, po⟩ := P
  simp only [insV, plV] at SS pc
  have SK : Hid (∀ (W' : World), (∀ k, k < W.heap.size → k ≠ w.heap.size + 2 → W'.heap[k]? = W.heap[k]?) → W'.cell? ⟨w.heap.size + 3, 0, none⟩ = some (.map (some (w.heap.size + 2))) ∧ W'.cell? ⟨w.heap.size, 0, none⟩ = some (.slice (some ⟨bb, oo, none⟩) code.length kc) ∧ W'.cell? ⟨w.heap.size + 1, 0, none⟩ = some (.slice (some ⟨gp, 0, none⟩) ps.length kp) ∧ W'.cell? ⟨bb, oo + i * 7, none⟩ = some (.int .i64 op) ∧ W'.cell? ⟨bb, oo + i * 7 + 1, none⟩ = some (.int .i64 d) ∧ W'.cell? ⟨bb, oo + i * 7 + 2, none⟩ = some (.int .i64 a) ∧ W'.cell? ⟨bb, oo + i * 7 + 3, none⟩ = some (.int .i64 b0) ∧ W'.cell? ⟨bb, oo + i * 7 + 4, none⟩ = some (.int .i64 c0) ∧ W'.cell? ⟨bb, oo + i * 7 + 5, none⟩ = some (.int .i64 nn) ∧ W'.cell? ⟨bb, oo + i * 7 + 6, none⟩ = some (.string t) ∧ W'.cell? ⟨gp, i * 4, none⟩ = some (.int .i64 pr) ∧ W'.cell? ⟨gp, i * 4 + 1, none⟩ = some (.int .i64 pi) ∧ W'.cell? ⟨gp, i * 4 + 2, none⟩ = some (.int .i64 pj) ∧ W'.cell? ⟨gp, i * 4 + 3, none⟩ = some (.int .i64 po)) := fun W' hk => by
    have hsz := h.bel.size
    have g : ∀ (b o : Nat) (u : Value), b < w.heap.size → w.cell? ⟨b, o, none⟩ = some u → W'.cell? ⟨b, o, none⟩ = some u := fun b o u hb hc => (World.cell?_of_block (a := ⟨b, o, none⟩) ((hk b (by omega) (by omega)).trans (h.bel.block b hb))).trans hc
    exact ⟨(cells_of ((hk _ (hltP h.bO) (by omega)).trans h.bO)).1 0, (cells_of ((hk _ (hltP h.bC) (by omega)).trans h.bC)).1 0, (cells_of ((hk _ (hltP h.bP) (by omega)).trans h.bP)).1 0, g _ _ _ hbl q0, g _ _ _ hbl q1, g _ _ _ hbl q2, g _ _ _ hbl q3, g _ _ _ hbl q4, g _ _ _ hbl q5, g _ _ _ hbl q6, g _ _ _ hgl pc.1, g _ _ _ hgl pc.2.1, g _ _ _ hgl pc.2.2.1, g _ _ _ hgl pc.2.2.2⟩
  have HH := hideP h
  have SD : Hid (SetIs PlK W.drew (w.heap.size + 2) n l) := h.set.blk rfl
  have HS := hideP hi
  have HSP := hideP hip
  obtain ⟨N, hN⟩ : ∃ N, code.length = N := ⟨_, rfl⟩
  obtain ⟨M, hM⟩ : ∃ M, ps.length = M := ⟨_, rfl⟩
  rw [hN] at SK HH hi ⊢
  rw [hM] at SK HH hip ⊢
  obtain ⟨kk, hkk⟩ : ∃ kk, dsKeep l ⟨op, d, a, b0, c0, nn, t⟩ ⟨pr, pi, pj, po⟩ = kk := ⟨_, rfl⟩
  obtain ⟨ov, hov⟩ : ∃ ov, dsOver l ⟨op, d, a, b0, c0, nn, t⟩ ⟨pr, pi, pj, po⟩ = ov := ⟨_, rfl⟩
  rw [hkk, hov] at SS ⊢
  clear h hc hpl hp hP he pc q0 q1 q2 q3 q4 q5 q6 hN hM hkk hov
  go_enter Tryz.func110, Tryz.ntmps110
  go_upto_region 1 with fail
  go_region_held3 (fun W' => W'.cell? ⟨w.heap.size + 3, 0, none⟩ = some (.map (some (w.heap.size + 2))) ∧ W'.cell? ⟨w.heap.size, 0, none⟩ = some (.slice (some ⟨bb, oo, none⟩) N kc) ∧ W'.cell? ⟨w.heap.size + 1, 0, none⟩ = some (.slice (some ⟨gp, 0, none⟩) M kp) ∧ W'.cell? ⟨bb, oo + i * 7, none⟩ = some (.int .i64 op) ∧ W'.cell? ⟨bb, oo + i * 7 + 1, none⟩ = some (.int .i64 d) ∧ W'.cell? ⟨bb, oo + i * 7 + 2, none⟩ = some (.int .i64 a) ∧ W'.cell? ⟨bb, oo + i * 7 + 3, none⟩ = some (.int .i64 b0) ∧ W'.cell? ⟨bb, oo + i * 7 + 4, none⟩ = some (.int .i64 c0) ∧ W'.cell? ⟨bb, oo + i * 7 + 5, none⟩ = some (.int .i64 nn) ∧ W'.cell? ⟨bb, oo + i * 7 + 6, none⟩ = some (.string t) ∧ W'.cell? ⟨gp, i * 4, none⟩ = some (.int .i64 pr) ∧ W'.cell? ⟨gp, i * 4 + 1, none⟩ = some (.int .i64 pi) ∧ W'.cell? ⟨gp, i * 4 + 2, none⟩ = some (.int .i64 pj) ∧ W'.cell? ⟨gp, i * 4 + 3, none⟩ = some (.int .i64 po)) (first | with_reducible exact SK.out _ K5.out | with_reducible exact SK.out _ (fun _ _ _ => rfl)) (first
    | (go_at_call 111; refine (SS.out _ SD.out).mono ?_; rintro e5 w5 ⟨rfl, s5, b5⟩; have K5 : Hid (∀ k, k < W.heap.size → k ≠ w.heap.size + 2 → w5.heap[k]? = W.heap[k]?) := b5.block; have S5 := hideP s5; have F5 : Hid (But (w.heap.size + 2) W w5) := ⟨b5.os, b5.tape, b5.output, b5.size, b5.block⟩; clear b5 s5))
  clear SK K5 SS SD
  go_wp2
  go_ret
  exact ⟨rfl, HH.out.next F5.out S5.out, F5.out⟩
theorem newO (w : World) (o : Obj) : (w.alloc o).heap[w.heap.size]? = some o := by show (w.heap.push _)[w.heap.size]? = _; exact Array.getElem?_push_size
theorem four (w : World) (o1 o2 o3 o4 : Obj) : ((((w.alloc o1).alloc o2).alloc o3).alloc o4).heap[w.heap.size]? = some o1 ∧ ((((w.alloc o1).alloc o2).alloc o3).alloc o4).heap[w.heap.size + 1]? = some o2 ∧ ((((w.alloc o1).alloc o2).alloc o3).alloc o4).heap[w.heap.size + 2]? = some o3 ∧ ((((w.alloc o1).alloc o2).alloc o3).alloc o4).heap[w.heap.size + 3]? = some o4 := by
  have t := threeP w o1 o2 o3
  have al := (Below.refl (((w.alloc o1).alloc o2).alloc o3).heap.size (((w.alloc o1).alloc o2).alloc o3)).alloc (Nat.le_refl _) o4
  have e : (((w.alloc o1).alloc o2).alloc o3).heap.size = w.heap.size + 3 := by simp
  refine ⟨(al.block _ (by omega)).trans t.1, (al.block _ (by omega)).trans t.2.1, (al.block _ (by omega)).trans t.2.2, ?_⟩
  have := newO (((w.alloc o1).alloc o2).alloc o3) o4
  rw [e] at this
  exact this
set_option maxRecDepth 100000 in
set_option maxHeartbeats 4000000 in
theorem withoutDead_any (code : List Ins) (ps : List Pla) (w : World) (B : Nat) (uc : Option Addr) (kc gp kp : Nat) (hc : SlIs InsIs 7 w B uc code) (hpl : OwnE PlE w 0 (.slice (some ⟨gp, 0, none⟩) ps.length kp) ps) (hl : code.length ≤ 1000) (hlp : ps.length = code.length) (hp : ∀ p ∈ ps, PlaI p) :
    Calls Tryz.prog 61 #[.slice uc code.length kc, .slice (some ⟨gp, 0, none⟩) ps.length kp] w fun e w' => ∃ v, e = .returned v ∧ OwnE InE w' w.heap.size v (backUp (dsF code ps) [] code code.length).2 ∧ Below w.heap.size w w' := by
  obtain ⟨W4, hW4⟩ : ∃ W4, (((w.alloc (.cells #[.slice uc code.length kc] 49)).alloc (.cells #[.slice (some ⟨gp, 0, none⟩) ps.length kp] 59)).alloc (.map #[] 0)).alloc (.cells #[.map (some (w.heap.size + 2))] 133) = W4 := ⟨_, rfl⟩
  have I0 : DkAt w uc code.length kc gp ps.length kp [] 0 W4 ∧ W4.heap.size = w.heap.size + 4 := by
    rw [← hW4]
    have f := four w (.cells #[.slice uc code.length kc] 49) (.cells #[.slice (some ⟨gp, 0, none⟩) ps.length kp] 59) (.map #[] 0) (.cells #[.map (some (w.heap.size + 2))] 133)
    refine ⟨⟨f.1, f.2.1, f.2.2.2, ?_, (((Below.refl w.heap.size w).alloc (Nat.le_refl _) _).alloc (by simp) _ |>.alloc (by simp; omega) _).alloc (by simp; omega) _⟩, by simp⟩
    obtain ⟨pk, F⟩ := PlK_ok.fn
    exact ⟨by simp, pk, F, _, ⟨#[], 0, f.2.2.1, ⟨by simp, MapKept.stamped_empty 0, by simp⟩, Nat.le_refl _, rfl⟩, readsS_nil⟩
  have KD : Hid (Calls Tryz.prog 93 #[.slice uc code.length kc, .func (.func 110) #[] #[.pointer (some ⟨w.heap.size + 3, 0, none⟩), .pointer (some ⟨w.heap.size, 0, none⟩), .pointer (some ⟨w.heap.size + 1, 0, none⟩)]] W4 fun e w' => ∃ v, e = .returned v ∧ OwnE InE w' W4.heap.size v (backUp (dsF code ps) [] code code.length).2 ∧ DkAt w uc code.length kc gp ps.length kp (backUp (dsF code ps) [] code code.length).1 code.length w' ∧ But (w.heap.size + 2) W4 w') :=
    keptD_any (dsF code ps) [] code uc kc B W4 (w.heap.size + 2) (by rw [I0.2]; omega) (fun k W => DkAt w uc code.length kc gp ps.length kp (backUp (dsF code ps) [] code k).1 k W) _ _ _ hl I0.1 (fun k W W' h hb => h.keep (by rw [I0.2] at hb; exact hb)) (fun k W h => hc.stays InsKeeps h.bel) (fun k i W hk hi h _ => by
      have hx := dead1_any code ps (backUp (dsF code ps) [] code k).1 w W B uc kc gp kp k i hc hpl h (by omega) (by omega) (hp _ (List.getElem_mem _)) (by omega)
      rw [backUp_at hk hi]
      exact hx)
  have hsz := I0.2
  have BEL := hideP I0.1.bel
  obtain ⟨R, hR⟩ : ∃ R, (backUp (dsF code ps) [] code code.length) = R := ⟨_, rfl⟩
  rw [hR] at KD ⊢
  have HW := hideP hW4
  have hmm := @run_makeMap Tryz.prog
  have hmf : ∀ (fn : Fn) (first cap : Array Value) (w : World), (Instr.makeFunc fn first cap).run Tryz.prog w = .ok (.func fn first cap) w := fun _ _ _ _ => rfl
  have c0 : W4.cell? ⟨w.heap.size, 0, none⟩ = some (.slice uc code.length kc) := (cells_of I0.1.bC).1 0
  clear I0 hW4 hR hc hpl hp
  obtain ⟨N, hN⟩ : ∃ N, code.length = N := ⟨_, rfl⟩
  obtain ⟨M, hM⟩ : ∃ M, ps.length = M := ⟨_, rfl⟩
  rw [hN, hM] at KD HW ⊢
  rw [hN] at c0
  clear hN hM hlp hl
  have HSZ := hideP hsz
  clear hsz
  go_enter Tryz.func61, Tryz.ntmps61
  go_upto_region 2 with fail
  have e2 : w.heap.size + 1 + 1 = w.heap.size + 2 := rfl
  have e3 : w.heap.size + 2 + 1 = w.heap.size + 3 := rfl
  rw [e2, e3, HW.out]
  clear e2 e3 hmm HW
  go_wp2_with fail
  refine KD.out.mono ?_
  rintro e5 w5 ⟨v5, rfl, o5, _, b5⟩
  have E5 : Hid (OwnE InE w5 w.heap.size v5 R.2 ∧ Below w.heap.size w w5) := ⟨o5.mono (by rw [HSZ.out]; omega), BEL.out.trans (b5.below (by omega) BEL.out.size)⟩
  clear o5 b5 KD c0 hmf
  go_wp2
  go_ret
  exact ⟨_, rfl, E5.out⟩
end Go.Proofs.YtelkpikbjfkpcaaGreat

/- A new code is laid into one block of a graph of one's own. -/
namespace Go.Proofs.YtelkpikbjfkpcaaGreat
open Go.ChangeShapes Go.WideShapes Go.ChangeAt Go.RowKit
theorem InE_code {w : World} {B g n cap : Nat} {l : List Ins} (h : OwnE InE w B (.slice (some ⟨g, 0, none⟩) n cap) l) : CodeF w g 0 l ∧ (∃ c T, w.heap[g]? = some (.cells c T (0, 0)) ∧ 0 + l.length * 7 ≤ c.size) := by
  obtain ⟨⟨h1, c, h2, h3⟩, _, hc, _⟩ := InE_row h
  exact ⟨h1, c, _, h2, by omega⟩
/-- Where its blocks lie: all between two marks. -/
structure Lies (lo up : Nat) (S : CRow) (gb : Nat) (cs : List CRow) : Prop where
  s : 0 < S.n → lo ≤ S.b ∧ S.b < up
  b : cs ≠ [] → lo ≤ gb ∧ gb < up
  c : ∀ k (h : k < cs.length), 0 < cs[k].n → lo ≤ cs[k].b ∧ cs[k].b < up
theorem Lies.of {lo up : Nat} {S : CRow} {gb : Nat} {cs : List CRow} {W : World} {v : Array Value} (ow : GOwn W v S gb 0 cs) (h : ∀ c ∈ grL S gb 0 cs, lo ≤ c.1 ∧ c.1 < up) : Lies lo up S gb cs := by
  obtain ⟨m1, m2, m3⟩ := ow.mem
  exact ⟨fun hn => h _ (m1 hn), fun hn => let ⟨_, hp⟩ := m2 hn; h _ hp, fun k hk hn => let ⟨_, _, hp⟩ := m3 k hk hn; h _ hp⟩
theorem Lies.all {lo up : Nat} {S : CRow} {gb : Nat} {cs : List CRow} (h : Lies lo up S gb cs) : ∀ c ∈ grL S gb 0 cs, lo ≤ c.1 ∧ c.1 < up := by
  rintro ⟨b', o', t⟩ hc
  rcases List.mem_append.1 hc with hc | hc
  · simp only [intL, List.mem_map, List.mem_range] at hc
    obtain ⟨i, hi, e⟩ := hc
    injection e with e1
    subst e1
    exact h.s (by omega)
  · rcases blksL_mem hc with ⟨i, hi, rfl, hn⟩ | ⟨rfl, i, hi, _⟩
    · exact h.c i hi hn
    · exact h.b (fun e => by rw [e] at hi; simp at hi)
theorem Lies.up {lo up up' : Nat} {S : CRow} {gb : Nat} {cs : List CRow} (h : Lies lo up S gb cs) (hu : up ≤ up') : Lies lo up' S gb cs :=
  ⟨fun hn => ⟨(h.s hn).1, Nat.lt_of_lt_of_le (h.s hn).2 hu⟩, fun hn => ⟨(h.b hn).1, Nat.lt_of_lt_of_le (h.b hn).2 hu⟩, fun k hk hn => ⟨(h.c k hk hn).1, Nat.lt_of_lt_of_le (h.c k hk hn).2 hu⟩⟩
theorem Lies.set {lo up : Nat} {S : CRow} {gb : Nat} {cs : List CRow} (h : Lies lo up S gb cs) {i gn n : Nat} (hn : lo ≤ gn ∧ gn < up) : Lies lo up S gb (cs.set i ⟨gn, 0, n⟩) := by
  refine ⟨h.s, fun hne => h.b (fun e => hne (by rw [e]; rfl)), fun k hk h0 => ?_⟩
  rw [List.length_set] at hk
  by_cases e : i = k
  · subst e
    rw [List.getElem_set_self]
    exact hn
  · rw [List.getElem_set_ne e] at h0 ⊢
    exact h.c k hk h0
theorem cell_put {W : World} {g i j : Nat} {c : Array Value} {T : TypeId} {u : Value} (h : W.heap[g]? = some (.cells c T (0, 0))) : (W.setCell ⟨g, i, none⟩ u).cell? ⟨g, j, none⟩ = if i = j then (if i < c.size then some u else none) else W.cell? ⟨g, j, none⟩ := by
  have h2 := heap_setCell_same W g i c _ u h
  simp only [World.cell?, h2, h]
  exact Array.getElem?_setIfInBounds
theorem GrIs.newcode {W : World} {A : Nat} {v : Array Value} {y : Gr} {S : CRow} {gb : Nat} {cs : List CRow} (h : GrIs W A v y) (ow : GOwn W v S gb 0 cs) (hl : cs.length = y.blocks.length) {i : Nat} (hi : i < y.blocks.length) (hic : i < cs.length)
    {code' : List Ins} {gn kn B0 : Nat} (hA : A ≤ gn) (ho : OwnE InE W B0 (.slice (some ⟨gn, 0, none⟩) code'.length kn) code') (hm : code'.length ≤ maxLen) (hw : ∀ z ∈ code', z.wf ∧ z.t.size ≤ maxLen) {up lo : Nat} (li : Lies lo up S gb cs) (hg : up ≤ gn) :
    GrIs (W.setCell ⟨gb, i * 5, none⟩ (.slice (some ⟨gn, 0, none⟩) code'.length kn)) A v { y with blocks := y.blocks.set i { y.blocks[i] with code := code' } } ∧ GOwn (W.setCell ⟨gb, i * 5, none⟩ (.slice (some ⟨gn, 0, none⟩) code'.length kn)) v S gb 0 (cs.set i ⟨gn, 0, code'.length⟩) := by
  have hne : cs ≠ [] := fun e => by subst e; simp at hic
  obtain ⟨cf, hcs⟩ := InE_code ho
  obtain ⟨cb, Tb, hcb, hcbs⟩ := ow.brow hne
  have hgb := li.b hne
  have hgn : gn ≠ gb := by omega
  obtain ⟨us, kS, ub, kB, vs, rfl, rfl, hus, hs, hr, hlen, ok, hall⟩ := ow.codeAt h hic
  have hb : But gb W (W.setCell ⟨gb, i * 5, none⟩ (.slice (some ⟨gn, 0, none⟩) code'.length kn)) := (But.refl gb W).set _ _
  have hcell : ∀ j, j ≠ i * 5 → (W.setCell ⟨gb, i * 5, none⟩ (.slice (some ⟨gn, 0, none⟩) code'.length kn)).cell? ⟨gb, j, none⟩ = W.cell? ⟨gb, j, none⟩ := fun j hj => by rw [cell_put hcb, if_neg (fun e => hj e.symm)]
  have hcell2 : (W.setCell ⟨gb, i * 5, none⟩ (.slice (some ⟨gn, 0, none⟩) code'.length kn)).cell? ⟨gb, i * 5, none⟩ = some (.slice (some ⟨gn, 0, none⟩) code'.length kn) := by rw [cell_put hcb, if_pos rfl, if_pos (by omega)]
  obtain ⟨uc0, kc0, hv0, hwk0, _, _, _⟩ := hall i hi hic
  refine ⟨⟨us, kS, some ⟨gb, 0, none⟩, kB, by simp only [List.length_set], ok, ?_, ?_⟩, ?_⟩
  · refine hs.butne (fun h0 b o e => ?_) hb
    obtain ⟨e1, hsn⟩ := hus h0
    rw [e1] at e
    cases e
    exact ow.sb hsn hne
  · refine ⟨by simpa using hlen, fun k => if k = i then #[.slice (some ⟨gn, 0, none⟩) code'.length kn, .int .i64 (y.blocks[i]).jump, .int .i64 (y.blocks[i]).a, .int .i64 (y.blocks[i]).to, .int .i64 (y.blocks[i]).els] else vs k, ?_, fun k hk => ?_⟩
    · rcases hr with h0 | ⟨b, o, ha, hB, hbl, hp, hc⟩
      · omega
      · cases ha
        simp only [List.length_set]
        refine Or.inr ⟨gb, 0, rfl, hB, Nat.lt_of_lt_of_le hbl hb.size, fun _ => ⟨_, _, heap_setCell_same W gb (i * 5) cb _ _ hcb⟩, fun k hk => ?_⟩
        by_cases e : k = i
        · subst e
          refine ⟨by simp, fun j hj => ?_⟩
          simp only [if_pos]
          by_cases e0 : j = 0
          · subst e0
            simp only [Nat.zero_add, Nat.add_zero]
            rw [hcell2]; rfl
          · rw [hcell _ (by omega), (hc k hk).2 j hj, hv0]
            match j, hj, e0 with
            | 1, _, _ => rfl
            | 2, _, _ => rfl
            | 3, _, _ => rfl
            | 4, _, _ => rfl
        · simp only [if_neg e]
          exact ⟨(hc k hk).1, fun j hj => by rw [hcell _ (by omega)]; exact (hc k hk).2 j hj⟩
    · simp only [List.length_set] at hk
      by_cases e : i = k
      · subst e
        rw [List.getElem_set_self]
        simp only [if_pos]
        exact ⟨_, _, rfl, hwk0, (cf.is hA hm hw).butne (fun _ b o e2 => by cases e2; exact hgn) hb⟩
      · obtain ⟨uc, kc, hv, hwk, hcode, hnk, huc⟩ := hall k hk (by omega)
        rw [List.getElem_set_ne e]
        simp only [if_neg (fun e2 => e (Eq.symm e2))]
        refine ⟨uc, kc, hv, hwk, hcode.butne (fun h0 b o e2 => ?_) hb⟩
        rw [huc h0] at e2
        cases e2
        exact ow.codes.own k (by omega) (by omega)
  · obtain ⟨ads, caps, p, q, r, adb, capb, hv, hv1, hv2⟩ := ow.val
    exact {
      val := ⟨ads, caps, p, q, r, adb, capb, by rw [List.length_set]; exact hv, hv1, Or.inr (hv2.resolve_left hne)⟩
      srow := fun h0 => by
        obtain ⟨c, T, h1, h2⟩ := ow.srow h0
        exact ⟨c, T, (hb.block _ (hltP h1) (ow.sb h0 hne)).trans h1, h2⟩
      brow := fun _ => ⟨_, _, heap_setCell_same W gb (i * 5) cb _ _ hcb, by simpa using hcbs⟩
      codes := {
        cell := fun k hk => by
          rw [List.length_set] at hk
          by_cases e : i = k
          · subst e
            rw [List.getElem_set_self, Nat.zero_add]
            exact ⟨_, _, hcell2, Or.inr rfl⟩
          · rw [List.getElem_set_ne e, hcell _ (by omega)]
            exact ow.codes.cell k hk
        row := fun k hk h0 => by
          rw [List.length_set] at hk
          by_cases e : i = k
          · subst e
            rw [List.getElem_set_self]
            obtain ⟨c, T, h1, h2⟩ := hcs
            exact ⟨c, T, (hb.block _ (hltP h1) hgn).trans h1, h2⟩
          · rw [List.getElem_set_ne e] at h0 ⊢
            obtain ⟨c, T, h1, h2⟩ := ow.codes.row k hk h0
            exact ⟨c, T, (hb.block _ (hltP h1) (ow.codes.own k hk h0)).trans h1, h2⟩
        own := fun k hk h0 => by
          rw [List.length_set] at hk
          by_cases e : i = k
          · subst e
            rw [List.getElem_set_self]; exact hgn
          · rw [List.getElem_set_ne e] at h0 ⊢
            exact ow.codes.own k hk h0
        dis := fun k m hk hm hkm h0 h1 => by
          rw [List.length_set] at hk hm
          by_cases e : i = k
          · subst e
            rw [List.getElem_set_ne hkm] at h1
            have := (li.c m hm h1).2
            rw [List.getElem_set_self, List.getElem_set_ne hkm]
            simp only
            omega
          · rw [List.getElem_set_ne e] at h0 ⊢
            by_cases e2 : i = m
            · subst e2
              have := (li.c k hk h0).2
              rw [List.getElem_set_self]
              simp only
              omega
            · rw [List.getElem_set_ne e2] at h1 ⊢
              exact ow.codes.dis k m hk hm hkm h0 h1 }
      sb := fun h0 _ => ow.sb h0 hne
      sc := fun h0 k hk h1 => by
        rw [List.length_set] at hk
        by_cases e : i = k
        · subst e
          have := (li.s h0).2
          rw [List.getElem_set_self]
          simp only
          omega
        · rw [List.getElem_set_ne e] at h1 ⊢
          exact ow.sc h0 k hk h1 }
end Go.Proofs.YtelkpikbjfkpcaaGreat
