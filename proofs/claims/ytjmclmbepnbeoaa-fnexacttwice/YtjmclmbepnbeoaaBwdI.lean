/- slices.Backward of steps: its iterator's contract; the contract of impl.reckonedOnce (written by wip/mkbwd.py). -/
import Derived.Test.YtjmclmbepnbeoaaFndS
import Derived.Test.YtjmclmbepnbeoaaRowA
import Derived.Test.YtjmclmbepnbeoaaTwcQ
import Derived.Test.YtjmclmbepnbeoaaGrIAll
import Derived.RangeFuncNested
import Derived.RangeFuncBound
import Derived.RangeFuncCalls
import Derived.RangeFuncLeaves
import Derived.Shelf.Abstract
import Derived.Shelf.RegionOpen
import Derived.WalkKit
import Derived.OwnWalkIn
import Derived.TacticsInMore
import Derived.LoopNIn
import Derived.LoopIn
namespace Go.Proofs.Ytjmclmbepnbeoaa
open Go.ChangeShapes Go.WideShapes Go.ChangeAt Go.RowKit Go.Shelf
attribute [local go_sem] Oper.semAt_some
/-- What has come when k rounds are over. -/
def uptoB {α : Type} (f : Nat → α) (k : Nat) : List α := (List.range k).map f
theorem uptoB_succ {α : Type} (f : Nat → α) (k : Nat) : uptoB f (k + 1) = uptoB f k ++ [f k] := by simp [uptoB, List.range_succ]
theorem uptoB_length {α : Type} (f : Nat → α) (k : Nat) : (uptoB f k).length = k := by simp [uptoB]
/-- From the last step on. -/
def bwF (L : List Ins) (j : Nat) : Int × Ins := (((L.length - 1 - j : Nat) : Int), L[L.length - 1 - j]!)
set_option maxRecDepth 100000 in
set_option maxHeartbeats 2000000 in
theorem back1_in (F : Fence) (n : Nat) (hF : F.fn 136) (hro : F.round = none) (hn : 1 ≤ n) (l Bs n₀ B g cap : Nat) (L : List Ins) (hl : L.length ≤ 1000) (hgn : g < n₀) (hbs : Bs < n₀) (J Jx : List (Int × Ins) → World → Prop)
    (hY : ∀ pre x W, J pre W → pre.length < L.length → YieldAt F (n - 1) Try.prog l #[.int .i64 x.1, .agg (insV x.2)] W fun e W' =>
      (e = .returned (.bool true) ∧ J (pre ++ [x]) W' ∧ Below n₀ W W') ∨ (e = .returned (.bool false) ∧ Jx (pre ++ [x]) W'))
    (W : World) (hBs : W.cell? ⟨Bs, 0, none⟩ = some (.slice (some ⟨g, 0, none⟩) L.length cap)) (hc : OwnE InE W B (.slice (some ⟨g, 0, none⟩) L.length cap) L) (h0 : J [] W) :
    CallsIn F n Try.prog 136 #[.func (.yield l) #[] #[], .pointer (some ⟨Bs, 0, none⟩)] W fun e W' => (∃ v, e = .returned v) ∧
      ((∃ ys, ys = uptoB (bwF L) L.length ∧ J ys W') ∨ (∃ pre, (∃ k, k ≤ L.length ∧ pre = uptoB (bwF L) k) ∧ Jx pre W')) := by
  have HY := hideP hY
  have HC := hideP hc
  obtain ⟨N, hN⟩ : ∃ N, L.length = N := ⟨_, rfl⟩
  have HN := hideP hN
  rw [hN] at hBs hl
  clear hY hc hN
  refine callsIn_of_wp Try.func136 rfl hF ?_ hro
  simp only [Try.ntmps136, List.size_toArray, List.length_cons, List.length_nil, Nat.reduceAdd, Nat.reduceSub, Array.replicate_succ, Array.replicate_zero, List.push_toArray, List.append_toArray, List.nil_append, List.cons_append]
  gi_wp2
  gi_loopw [3] (fun i wr => ∃ (k : Nat) (z : Int), k ≤ N ∧ i = .int .i64 z ∧ z = (N : Int) - 1 - (k : Int) ∧ Hid (J (uptoB (bwF L) k) wr) ∧ Hid (Below n₀ W wr)) (fun i _ => (intOf i + 1).toNat)
  case atStart => exact ⟨0, _, Nat.zero_le _, rfl, by go_num, h0, Below.refl _ _⟩
  case round =>
    obtain ⟨k, z, hk, rfl, hz, hJs, hnx⟩ := hrel
    by_cases hlt : k < N
    · obtain ⟨m, rfl⟩ : ∃ m : Nat, z = (m : Int) := ⟨(N - 1 - k), by omega⟩
      have hm : m = N - 1 - k := by omega
      have hmN : m < N := by omega
      have hmL : m < L.length := by rw [HN.out]; exact hmN
      obtain ⟨i0, i1, i2, i3, i4, i5, i6, he, c0, c1, c2, c3, c4, c5, c6⟩ := own_ins HC.out m hmL
      replace c0 := (hnx.out.cell (p := ⟨g, _, none⟩) hgn).trans c0
      replace c1 := (hnx.out.cell (p := ⟨g, _, none⟩) hgn).trans c1
      replace c2 := (hnx.out.cell (p := ⟨g, _, none⟩) hgn).trans c2
      replace c3 := (hnx.out.cell (p := ⟨g, _, none⟩) hgn).trans c3
      replace c4 := (hnx.out.cell (p := ⟨g, _, none⟩) hgn).trans c4
      replace c5 := (hnx.out.cell (p := ⟨g, _, none⟩) hgn).trans c5
      replace c6 := (hnx.out.cell (p := ⟨g, _, none⟩) hgn).trans c6
      have cb := (hnx.out.cell (p := ⟨Bs, 0, none⟩) hbs).trans hBs
      have EQ : Hid (bwF L k = ((m : Int), ⟨i0, i1, i2, i3, i4, i5, i6⟩)) := by
        show _ = _
        unfold bwF
        rw [HN.out, ← hm, getElem!_pos L m hmL, he]
      obtain ⟨fn, tmps, assign, body, hy, hR⟩ := HY.out _ ((m : Int), ⟨i0, i1, i2, i3, i4, i5, i6⟩) wr hJs.out (by rw [uptoB_length, HN.out]; exact hlt)
      simp only [insV] at hy hR
      have mi0 : (0 : Int) ≤ (m : Int) := by omega
      have mi1 : (m : Int) < (N : Int) := by omega
      have HM := hideP hm
      clear hz he hm
      gi_wp2
      refine hR.mono ?_
      rintro e W3 (⟨rfl, hJ3, hk3⟩ | ⟨rfl, hJx3⟩)
      · clear c0 c1 c2 c3 c4 c5 c6 cb hy hR
        have J4 : Hid (J (uptoB (bwF L) (k + 1)) W3) := by show J _ _; rw [uptoB_succ, EQ.out]; exact hJ3
        have B4 := hideP (hnx.out.trans hk3)
        clear hJ3 hk3
        gi_wp2
        go_roundw
        case rel => exact ⟨k + 1, (m : Int) - 1, by omega, by go_num, by have := HM.out; omega, J4.out, B4.out⟩
        case measure => simp [intOf]
      · clear c0 c1 c2 c3 c4 c5 c6 cb hy hR
        gi_wp2
        refine bodyPost_ret (results_none rfl _ _ _) rfl ?_
        exact ⟨⟨_, rfl⟩, .inr ⟨_, ⟨k + 1, by rw [HN.out]; omega, rfl⟩, by rw [uptoB_succ, EQ.out]; exact hJx3⟩⟩
    · obtain rfl : k = N := by omega
      obtain rfl : z = -1 := by omega
      clear hz
      gi_wp2
      go_end0
      exact ⟨⟨_, rfl⟩, .inl ⟨_, by rw [HN.out], hJs.out⟩⟩
theorem back_stops (F : Fence) (n : Nat) (hF : F.fn 136) (hro : F.round = none) (hn : 1 ≤ n) (Bs n₀ B g cap : Nat) (L : List Ins) (hl : L.length ≤ 1000) (hgn : g < n₀) (hbs : Bs < n₀) (w : World) (hn₀ : n₀ ≤ w.heap.size)
    (hBs : w.cell? ⟨Bs, 0, none⟩ = some (.slice (some ⟨g, 0, none⟩) L.length cap)) (hc : OwnE InE w B (.slice (some ⟨g, 0, none⟩) L.length cap) L) :
    SeqStopsK F n Try.prog 136 #[.pointer (some ⟨Bs, 0, none⟩)] (fun x : Int × Ins => #[Value.int .i64 x.1, Value.agg (insV x.2)]) (Below n₀) (fun ys => ys = uptoB (bwF L) L.length)
      (fun pre => ∃ k, k ≤ L.length ∧ pre = uptoB (bwF L) k) L.length w := fun l J Jx W hW _ _ hY h0 =>
  back1_in F n hF hro hn l Bs n₀ B g cap L hl hgn hbs J Jx hY W ((hW.cell (p := ⟨Bs, 0, none⟩) (Nat.lt_of_lt_of_le hbs hn₀)).trans hBs) (hc.stays hW) h0
set_option maxHeartbeats 1000000 in
theorem back_in (F : Fence) (n : Nat) (hF : F.fn 120) (hro : F.round = none) (a : Option Addr) (len cap : Nat) (w : World) :
    CallsIn F n Try.prog 120 #[.slice a len cap] w fun e w' => e = .returned (.func (.func 136) #[] #[.pointer (some ⟨w.heap.size, 0, none⟩)]) ∧ w' = w.alloc (.cells #[.slice a len cap] 42) := by
  refine callsIn_of_wp Try.func120 rfl hF ?_ hro
  simp only [Try.ntmps120, List.size_toArray, List.length_cons, List.length_nil, Nat.reduceAdd, Nat.reduceSub, Array.replicate_succ, Array.replicate_zero, List.push_toArray, List.append_toArray, List.nil_append, List.cons_append]
  gi_wp2
  go_ret
  exact ⟨rfl, rfl⟩
theorem ownFrom_blk {β : Type} (n b : Nat) (c : Array Value) (T : TypeId) : OwnFrom n (fun (_ : β) W => W.heap[b]? = some (.cells c T (0, 0))) := fun s A B row h hg hr => (hg.block b (hltP h) (fun e => by
  obtain ⟨_, o, ho, hc⟩ := hr b e.symm
  rw [h] at ho
  cases ho
  cases hc)).trans h
/-- The step reckons what the other did. -/
def Mt (x y : Ins) : Prop := x.op = 2 ∧ Alike x y
/-- The answer. -/
def moveOf (x y : Ins) : Ins := ⟨1, x.d, y.d, 0, 0, 0, ⟨#[]⟩⟩
theorem tw_done {L : List Ins} {x : Ins} (h : ∀ p ∈ uptoB (bwF L) L.length, ¬ Mt x p.2) : twX L x = x := by
  unfold twX
  by_cases c : x.op = 2
  · rw [if_pos c, find_none (fun y hy hA => ?_)]
    obtain ⟨i, hi, rfl⟩ := List.getElem_of_mem hy
    refine h (bwF L (L.length - 1 - i)) (List.mem_map.2 ⟨_, List.mem_range.2 (by omega), rfl⟩) ⟨c, ?_⟩
    show Alike x (L[L.length - 1 - (L.length - 1 - i)]!)
    rw [show L.length - 1 - (L.length - 1 - i) = i by omega, getElem!_pos L i hi]
    exact hA
  · rw [if_neg c]
theorem tw_stop {L : List Ins} {x : Ins} {k : Nat} {ini : List (Int × Ins)} {last : Int × Ins} (hk : k ≤ L.length) (e : uptoB (bwF L) k = ini ++ [last]) (h : ∀ p ∈ ini, ¬ Mt x p.2) (hm : Mt x last.2) : twX L x = moveOf x last.2 := by
  obtain ⟨k', rfl⟩ : ∃ k', k = k' + 1 := by
    cases k with
    | zero => simp [uptoB] at e
    | succ k' => exact ⟨k', rfl⟩
  rw [uptoB_succ] at e
  obtain ⟨rfl, e5⟩ := List.append_inj' e rfl
  obtain rfl : bwF L k' = last := by simpa using e5
  have hi : L.length - 1 - k' < L.length := by omega
  have e6 : (bwF L k').2 = L[L.length - 1 - k'] := getElem!_pos L _ hi
  rw [e6] at hm ⊢
  unfold twX
  rw [if_pos hm.1, find_at hi (fun j hj hlt hA => ?_) hm.2]
  · rfl
  · refine h (bwF L (L.length - 1 - j)) (List.mem_map.2 ⟨_, List.mem_range.2 (by omega), rfl⟩) ⟨hm.1, ?_⟩
    show Alike x (L[L.length - 1 - (L.length - 1 - j)]!)
    rw [show L.length - 1 - (L.length - 1 - j) = j by omega, getElem!_pos L j hj]
    exact hA
set_option maxRecDepth 100000 in
set_option maxHeartbeats 8000000 in
theorem once_any (L : List Ins) (x : Ins) (w : World) (B g cap : Nat) (h : OwnE InE w B (.slice (some ⟨g, 0, none⟩) L.length cap) L) (hl : L.length ≤ 1000) :
    Calls Try.prog 90 #[.agg (insV x), .slice (some ⟨g, 0, none⟩) L.length cap] w fun e w' => e = .returned (.agg (insV (twX L x))) ∧ Below w.heap.size w w' := by
  have hgw := (h.low g rfl).2
  have TD := hideP (@tw_done L x)
  have TS : Hid (∀ (k : Nat) (ini : List (Int × Ins)) (last : Int × Ins), k ≤ L.length → uptoB (bwF L) k = ini ++ [last] → (∀ p ∈ ini, ¬ Mt x p.2) → Mt x last.2 → twX L x = moveOf x last.2) := fun _ _ _ a b c e => tw_stop a b c e
  obtain ⟨Y, hY⟩ : ∃ Y, twX L x = Y := ⟨_, rfl⟩
  rw [hY] at TD ⊢
  simp only [hY] at TS
  clear hY
  have H := hideP h
  obtain ⟨op, d, a, b0, c0, nn, t⟩ := x
  simp only [insV]
  clear h
  refine (callsIn_wide (n := 4)).1 ?_
  refine callsIn_of_wp_marks Try.func90 rfl trivial ?_ rfl
  simp only [Try.ntmps90, List.size_toArray, List.length_cons, List.length_nil, Nat.reduceAdd, Nat.reduceSub, Array.replicate_succ, Array.replicate_zero, List.push_toArray, List.append_toArray, List.nil_append, List.cons_append]
  gi_wp2_with (refine ⟨trivial, ?_⟩; gi_at_call 120; refine (back_in _ _ trivial rfl _ _ _ _).mono ?_; rintro e1 w1 ⟨rfl, rfl⟩)
  have k3 := three_at w (.cells #[.int .i64 op, .int .i64 d, .int .i64 a, .int .i64 b0, .int .i64 c0, .int .i64 nn, .string t] 48) (.cells #[.int .i64 0, .int .i64 0, .int .i64 0, .int .i64 0, .int .i64 0, .int .i64 0, .string ⟨#[]⟩] 48) (.cells #[.slice (some ⟨g, 0, none⟩) L.length cap] 42)
  have bel3 := below3 w (.cells #[.int .i64 op, .int .i64 d, .int .i64 a, .int .i64 b0, .int .i64 c0, .int .i64 nn, .string t] 48) (.cells #[.int .i64 0, .int .i64 0, .int .i64 0, .int .i64 0, .int .i64 0, .int .i64 0, .string ⟨#[]⟩] 48) (.cells #[.slice (some ⟨g, 0, none⟩) L.length cap] 42)
  have hz3 : (((w.alloc (.cells #[.int .i64 op, .int .i64 d, .int .i64 a, .int .i64 b0, .int .i64 c0, .int .i64 nn, .string t] 48)).alloc (.cells #[.int .i64 0, .int .i64 0, .int .i64 0, .int .i64 0, .int .i64 0, .int .i64 0, .string ⟨#[]⟩] 48)).alloc (.cells #[.slice (some ⟨g, 0, none⟩) L.length cap] 42)).heap.size = w.heap.size + 3 := by simp
  obtain ⟨W0, hW0⟩ : ∃ W0, ((w.alloc (.cells #[.int .i64 op, .int .i64 d, .int .i64 a, .int .i64 b0, .int .i64 c0, .int .i64 nn, .string t] 48)).alloc (.cells #[.int .i64 0, .int .i64 0, .int .i64 0, .int .i64 0, .int .i64 0, .int .i64 0, .string ⟨#[]⟩] 48)).alloc (.cells #[.slice (some ⟨g, 0, none⟩) L.length cap] 42) = W0 := ⟨_, rfl⟩
  rw [hW0] at k3 bel3 hz3 ⊢
  clear hW0
  obtain ⟨kx, kr, ks⟩ := k3
  have own0 := H.out.stays bel3
  have cb0 := (cells_of ks).1 0
  simp at cb0
  refine wpIn_rangeFunc_ownH rfl (by decide) (gf := 136) (lb := #[.pointer (some ⟨w.heap.size + 1 + 1, 0, none⟩)]) rfl trivial (enters_of Try.func136 (by kernel_rfl) rfl)
    (back_stops _ _ trivial rfl (by decide) (w.heap.size + 1 + 1) (w.heap.size + 3) B g cap L hl (by omega) (by omega) W0 (by omega) cb0 own0) belowK_t (belowK_b (by omega)) (Below.refl _ _) (fun _ => rfl)
    (fun pre W => (W.heap[w.heap.size]? = some (.cells #[.int .i64 op, .int .i64 d, .int .i64 a, .int .i64 b0, .int .i64 c0, .int .i64 nn, .string t] 48 (0, 0)) ∧ W.heap[w.heap.size + 1]? = some (.cells #[.int .i64 0, .int .i64 0, .int .i64 0, .int .i64 0, .int .i64 0, .int .i64 0, .string ⟨#[]⟩] 48 (0, 0))) ∧ (∀ p ∈ pre, ¬ Mt (⟨op, d, a, b0, c0, nn, t⟩ : Ins) p.2) ∧ Below w.heap.size w W ∧ w.heap.size + 3 ≤ W.heap.size)
    (fun c pre W => (c = .ret ∧ ∃ ini last, pre = ini ++ [last] ∧ (∀ p ∈ ini, ¬ Mt (⟨op, d, a, b0, c0, nn, t⟩ : Ins) p.2) ∧ Mt (⟨op, d, a, b0, c0, nn, t⟩ : Ins) last.2 ∧ W.heap[w.heap.size + 1]? = some (.cells (insV (moveOf (⟨op, d, a, b0, c0, nn, t⟩ : Ins) last.2)) 48 (0, 0))) ∧ Below w.heap.size w W)
    (fun s A B row hs hg hr => ⟨⟨ownFrom_blk _ _ _ _ s A B row hs.1.1 hg hr, ownFrom_blk _ _ _ _ s A B row hs.1.2 hg hr⟩, hs.2.1, ownFrom_below (Nat.le_refl _) (by omega) s A B row hs.2.2.1 hg hr, Nat.le_trans hs.2.2.2 hg.size⟩)
    (fun c s A B row hs hg hr => by
      obtain ⟨⟨hc, ini, last, e1, e2, e3, e4⟩, hb⟩ := hs
      exact ⟨⟨hc, ini, last, e1, e2, e3, ownFrom_blk _ _ _ _ s A B row e4 hg hr⟩, ownFrom_below (Nat.le_refl _) (by omega) s A B row hb hg hr⟩)
    ⟨⟨kx, kr⟩, by simp, bel3, by omega⟩
    (fun x a' W => ∃ by', w.heap.size + 3 ≤ by' ∧ W.heap[by']? = some (.cells (insV x.2) 48 (0, 0)) ∧ a' = { tmps := #[.agg #[.int .i64 op, .int .i64 d, .int .i64 a, .int .i64 b0, .int .i64 c0, .int .i64 nn, .string t], .slice (some ⟨g, 0, none⟩) L.length cap, .pointer (some ⟨w.heap.size, 0, none⟩), undef, .pointer (some ⟨w.heap.size + 1, 0, none⟩), undef, .pointer (some ⟨by', 0, none⟩), .slice (some ⟨g, 0, none⟩) L.length cap, .func (.func 136) #[] #[.pointer (some ⟨w.heap.size + 1 + 1, 0, none⟩)], .int .i64 x.1, .agg (insV x.2), undef, undef, undef, undef, undef, undef, undef, undef, undef, undef, undef, undef, undef, undef, undef, undef, undef, undef, undef, undef, undef, undef, undef, undef, undef, undef, undef, undef, undef, undef], defers := [] })
    (fun x a' _ X Y row hs hg hr => by obtain ⟨bq, h1, h2, h3⟩ := hs; exact ⟨bq, h1, ownFrom_blk (β := Unit) _ _ _ _ () X Y row h2 hg hr, h3⟩)
    ?assign ?body ?done ?stop
  case assign =>
    rintro l pre ⟨xi, xo, xd, xa, xb, xc, xn, xt⟩ W K ⟨⟨h1, h2⟩, h3, h4, h5⟩ hK
    simp only [insV] at hK ⊢
    have al := (Below.refl W.heap.size W).alloc (Nat.le_refl _) (.cells #[.int .i64 xo, .int .i64 xd, .int .i64 xa, .int .i64 xb, .int .i64 xc, .int .i64 xn, .string xt] 48)
    have HKK := hideP hK
    clear hK
    gi_wp2
    exact HKK.out _ _ ((KeepsOthers.alloc _ _).from _) (al.mono h5) ⟨⟨(al.block _ (hltP h1)).trans h1, (al.block _ (hltP h2)).trans h2⟩, h3, below_trans h4 al, Nat.le_trans h5 al.size⟩ ⟨W.heap.size, h5, newI W _, rfl⟩
  case body =>
    rintro l pre ⟨xi, xo, xd, xa, xb, xc, xn, xt⟩ a' W hl9 _ ⟨⟨h1, h2⟩, h3, h4, h5⟩ ⟨bq, hbq, hby, rfl⟩ _
    simp only [insV] at hby ⊢
    have H1 := hideP h1
    have H2 := hideP h2
    have H3 := hideP h3
    have H4 := hideP h4
    have hbq2 := hltP hby
    have fc := (cells_of h1).1
    have x0 := fc 0
    have x1 := fc 1
    have x2 := fc 2
    have x3 := fc 3
    have x6 := fc 6
    have fy := (cells_of hby).1
    have y1 := fy 1
    have y2 := fy 2
    have y3 := fy 3
    have y6 := fy 6
    have fr := (cells_of h2).1
    have r0 := fr 0
    have r1 := fr 1
    have r2 := fr 2
    have r3 := fr 3
    have r4 := fr 4
    have r5 := fr 5
    have r6 := fr 6
    have rf := (cells_of h2).2
    simp at x0 x1 x2 x3 x6 y1 y2 y3 y6 r0 r1 r2 r3 r4 r5 r6
    have NO : Hid (¬ Mt (⟨op, d, a, b0, c0, nn, t⟩ : Ins) ⟨xo, xd, xa, xb, xc, xn, xt⟩ → ∀ p ∈ pre ++ [(xi, (⟨xo, xd, xa, xb, xc, xn, xt⟩ : Ins))], ¬ Mt (⟨op, d, a, b0, c0, nn, t⟩ : Ins) p.2) := fun hn p hp => (List.mem_append.1 hp).elim (h3 p) (fun e => by rw [List.mem_singleton.1 e]; exact hn)
    obtain ⟨p7a, p7b⟩ := put7n h2 rfl (.int .i64 1) (.int .i64 d) (.int .i64 xd) (.int .i64 0) (.int .i64 0) (.int .i64 0) (.string ⟨#[]⟩)
    have P7 := hideP p7a
    have P8 := hideP p7b
    clear fc fy fr h1 h2 h3 h4 hby p7a p7b kx kr ks cb0 own0 bel3
    by_cases e0 : op = 2
    · by_cases e1 : t = xt
      · by_cases e2 : a = xa
        · by_cases e3 : b0 = xb
          · subst e0 e1 e2 e3
            have hsb : w.heap.size + 1 < W.heap.size := by omega
            gi_wp2
            refine ⟨⟨P8.out.size, fun k o _ hk ho => (P8.out.block k (hltP hk) (fun e => ?_)).trans hk⟩, ⟨rfl, pre, _, rfl, H3.out, ⟨rfl, rfl, rfl, rfl⟩, P7.out⟩, H4.out.trans (P8.out.below (by omega) H4.out.size)⟩
            subst e
            rw [H2.out] at hk
            cases hk
            cases ho
          · have NN := hideP (NO.out (fun h => e3 h.2.2.2.symm))
            subst e0 e1 e2
            have e3b : (b0 == xb) = false := by simpa using e3
            gi_wp2
            exact ⟨KeepsFrom.refl _ _, Below.refl _ _, ⟨H1.out, H2.out⟩, NN.out, H4.out, h5⟩
        · have NN := hideP (NO.out (fun h => e2 h.2.2.1.symm))
          subst e0 e1
          have e2b : (a == xa) = false := by simpa using e2
          gi_wp2
          exact ⟨KeepsFrom.refl _ _, Below.refl _ _, ⟨H1.out, H2.out⟩, NN.out, H4.out, h5⟩
      · have NN := hideP (NO.out (fun h => e1 h.2.1.symm))
        subst e0
        have e1b := txt_ne e1
        gi_wp2
        exact ⟨KeepsFrom.refl _ _, Below.refl _ _, ⟨H1.out, H2.out⟩, NN.out, H4.out, h5⟩
    · have NN := hideP (NO.out (fun h => e0 h.1))
      have e0b : (op == 2) = false := by simpa using e0
      gi_wp2
      exact ⟨KeepsFrom.refl _ _, Below.refl _ _, ⟨H1.out, H2.out⟩, NN.out, H4.out, h5⟩
  case done =>
    rintro D ys W hD rfl ⟨⟨h1, h2⟩, h3, h4, h5⟩ hK
    have EQ := hideP (TD.out h3)
    have fc := (cells_of h1).1
    have x0 := fc 0
    have x1 := fc 1
    have x2 := fc 2
    have x3 := fc 3
    have x4 := fc 4
    have x5 := fc 5
    have x6 := fc 6
    have fr := (cells_of h2).1
    have r0 := fr 0
    have r1 := fr 1
    have r2 := fr 2
    have r3 := fr 3
    have r4 := fr 4
    have r5 := fr 5
    have r6 := fr 6
    have rf := (cells_of h2).2
    simp at x0 x1 x2 x3 x4 x5 x6 r0 r1 r2 r3 r4 r5 r6
    obtain ⟨p7a, p7b⟩ := put7n h2 rfl (.int .i64 op) (.int .i64 d) (.int .i64 a) (.int .i64 b0) (.int .i64 c0) (.int .i64 nn) (.string t)
    have hDl := hltP hK
    have K2 := hideP ((p7b.block D hDl (by omega)).trans hK)
    have P7 := hideP p7a
    have B7 := hideP (h4.trans (p7b.below (show w.heap.size ≤ w.heap.size + 1 by omega) h4.size))
    clear fc fr h1 h2 h3 p7a p7b hK
    gi_wp2
    refine ⟨by simp, .inl ⟨_, _, rfl, run_takeDeferred K2.out, ?_⟩⟩
    have P9 := (World.putObj_heap_other (o := .deferred none) (show w.heap.size + 1 ≠ D by omega)).trans P7.out
    refine ⟨.agg #[.int .i64 op, .int .i64 d, .int .i64 a, .int .i64 b0, .int .i64 c0, .int .i64 nn, .string t], results_cell_row rfl _ _ (w.heap.size + 1) 48 #[.int .i64 op, .int .i64 d, .int .i64 a, .int .i64 b0, .int .i64 c0, .int .i64 nn, .string t] (0, 0) _ rfl P9 Try.underlying48 rfl (by kernel_rfl), by rw [EQ.out], B7.out.trans (put_below _ (by omega) B7.out.size)⟩
  case stop =>
    rintro D c pre W hD ⟨k, hk, rfl⟩ ⟨⟨rfl, ini, last, e1, e2, e3, e4⟩, hb⟩ hK
    have EQ := hideP (TS.out k ini last hk e1 e2 e3)
    gi_wp2
    refine ⟨by simp, .inl ⟨_, _, rfl, run_takeDeferred hK, ?_⟩⟩
    have P9 := (World.putObj_heap_other (o := .deferred none) (show w.heap.size + 1 ≠ D by omega)).trans e4
    refine ⟨_, results_cell_row rfl _ _ (w.heap.size + 1) 48 _ (0, 0) _ rfl P9 Try.underlying48 rfl (by kernel_rfl), by rw [EQ.out]; rfl, hb.trans (put_below _ (by omega) hb.size)⟩
end Go.Proofs.Ytjmclmbepnbeoaa
