/- Marks that are written one behind another into a list of cells, and are there behind it. -/
import Derived.Test.YtjmclmbepnbeoaaMkAll
import Derived.Test.YtjmclmbepnbeoaaShD
import Derived.Deep.LoopGhost
import Derived.Deep.RegionHeld3
namespace Go.Proofs.Ytjmclmbepnbeoaa
open Go.ChangeShapes Go.WideShapes Go.ChangeAt Go.RowKit
/-- A cell: its block, where it lies there, whether it holds a text. -/
abbrev Cel := Nat × Nat × Bool
def mkV (k : Nat) (t : Bool) : Value := if t then .string (markS k) else .int .i64 (k : Int)
theorem mkV_int (k : Nat) : mkV k false = .int .i64 (k : Int) := rfl
theorem mkV_str (k : Nat) : mkV k true = .string (markS k) := rfl
/-- w' is w but for the cells of L, which hold the marks from k on, and for new blocks. -/
structure Mks (w w' : World) (L : List Cel) (k : Nat) : Prop where
  os : w'.os = w.os
  tape : w'.tape = w.tape
  output : w'.output = w.output
  size : w.heap.size ≤ w'.heap.size
  here : ∀ (i : Nat) (h : i < L.length), w'.cell? ⟨L[i].1, L[i].2.1, none⟩ = some (mkV (k + i) L[i].2.2)
  off : ∀ (b o : Nat), b < w.heap.size → (∀ t, (b, o, t) ∉ L) → w'.cell? ⟨b, o, none⟩ = w.cell? ⟨b, o, none⟩
  fz : ∀ (b o : Nat), b < w.heap.size → w'.frozen? ⟨b, o, none⟩ = w.frozen? ⟨b, o, none⟩
  blk : ∀ (b : Nat), b < w.heap.size → (∀ o t, (b, o, t) ∉ L) → w'.heap[b]? = w.heap[b]?
  plain : ∀ (b : Nat) (c : Array Value) (T : TypeId), w.heap[b]? = some (.cells c T (0, 0)) → ∃ c' : Array Value, w'.heap[b]? = some (.cells c' T (0, 0)) ∧ c'.size = c.size
theorem Mks.nil (w : World) (k : Nat) : Mks w w [] k := ⟨rfl, rfl, rfl, Nat.le_refl _, fun _ h => absurd h (Nat.not_lt_zero _), fun _ _ _ _ => rfl, fun _ _ _ => rfl, fun _ _ _ => rfl, fun _ c _ h => ⟨c, h, rfl⟩⟩
theorem Mks.on {w w1 w2 : World} {L : List Cel} {k : Nat} (h : Mks w w1 L k) (bel : Below w1.heap.size w1 w2) : Mks w w2 L k where
  os := bel.os.trans h.os
  tape := bel.tape.trans h.tape
  output := bel.output.trans h.output
  size := Nat.le_trans h.size bel.size
  here := fun i hi => (bel.cell (p := ⟨L[i].1, L[i].2.1, none⟩) (World.block_lt_of_cell? w1 _ (h.here i hi))).trans (h.here i hi)
  off := fun b o hb hn => (bel.cell (p := ⟨b, o, none⟩) (Nat.lt_of_lt_of_le hb h.size)).trans (h.off b o hb hn)
  fz := fun b o hb => (bel.frozen (p := ⟨b, o, none⟩) (Nat.lt_of_lt_of_le hb h.size)).trans (h.fz b o hb)
  blk := fun b hb hn => (bel.block b (Nat.lt_of_lt_of_le hb h.size)).trans (h.blk b hb hn)
  plain := fun b c T hh => by
    obtain ⟨c', h', hs⟩ := h.plain b c T hh
    exact ⟨c', (bel.block b (Array.getElem?_eq_some_iff.1 h').1).trans h', hs⟩
theorem Mks.append {w w1 w2 : World} {L1 L2 : List Cel} {k : Nat} (h1 : Mks w w1 L1 k) (h2 : Mks w1 w2 L2 (k + L1.length)) (hb : ∀ c ∈ L1, c.1 < w.heap.size) (hd : ∀ b o t t', (b, o, t) ∈ L1 → (b, o, t') ∉ L2) : Mks w w2 (L1 ++ L2) k where
  os := h2.os.trans h1.os
  tape := h2.tape.trans h1.tape
  output := h2.output.trans h1.output
  size := Nat.le_trans h1.size h2.size
  here := fun i hi => by
    rw [List.length_append] at hi
    by_cases hl : i < L1.length
    · rw [List.getElem_append_left hl]
      have hm : L1[i] ∈ L1 := List.getElem_mem hl
      have hlt := hb _ hm
      refine (h2.off _ _ (Nat.lt_of_lt_of_le hlt h1.size) (fun t => hd _ _ L1[i].2.2 t ?_)).trans (h1.here i hl)
      exact hm
    · rw [List.getElem_append_right (by omega)]
      have := h2.here (i - L1.length) (by omega)
      rw [show k + L1.length + (i - L1.length) = k + i by omega] at this
      exact this
  off := fun b o hbl hn => (h2.off b o (Nat.lt_of_lt_of_le hbl h1.size) (fun t ht => hn t (List.mem_append_right _ ht))).trans (h1.off b o hbl (fun t ht => hn t (List.mem_append_left _ ht)))
  fz := fun b o hbl => (h2.fz b o (Nat.lt_of_lt_of_le hbl h1.size)).trans (h1.fz b o hbl)
  blk := fun b hbl hn => (h2.blk b (Nat.lt_of_lt_of_le hbl h1.size) (fun o t ht => hn o t (List.mem_append_right _ ht))).trans (h1.blk b hbl (fun o t ht => hn o t (List.mem_append_left _ ht)))
  plain := fun b c T hh => by
    obtain ⟨c1, g1, s1⟩ := h1.plain b c T hh
    obtain ⟨c2, g2, s2⟩ := h2.plain b c1 T g1
    exact ⟨c2, g2, s2.trans s1⟩
/-- One cell. -/
theorem Mks.one {w : World} {b o k : Nat} {t : Bool} {c : Array Value} {T : TypeId} (hh : w.heap[b]? = some (.cells c T (0, 0))) (ho : o < c.size) : Mks w (w.setCell ⟨b, o, none⟩ (mkV k t)) [(b, o, t)] k where
  os := rfl
  tape := rfl
  output := rfl
  size := by simp [World.setCell]
  here := fun i hi => by
    have : i = 0 := by simpa using hi
    subst this
    have h2 := heap_setCell_same w b o c T (mkV k t) hh
    show World.cell? _ ⟨b, o, none⟩ = _
    rw [(cells_of h2).1, Array.getElem?_setIfInBounds, if_pos rfl, if_pos ho]; rfl
  off := fun b' o' hb hn => by
    by_cases e : b' = b
    · subst e
      have h2 := heap_setCell_same w b' o c T (mkV k t) hh
      have hne : o ≠ o' := fun e => hn t (by subst e; simp)
      rw [(cells_of h2).1, (cells_of hh).1, Array.getElem?_setIfInBounds, if_neg hne]
    · exact World.cell?_of_block (a := ⟨b', o', none⟩) (Below.heap_setCell w ⟨b, o, none⟩ _ b' e)
  fz := fun b' o' hb => by
    by_cases e : b' = b
    · subst e
      have h2 := heap_setCell_same w b' o c T (mkV k t) hh
      rw [(cells_of h2).2, (cells_of hh).2]
    · exact World.frozen?_of_block (a := ⟨b', o', none⟩) (Below.heap_setCell w ⟨b, o, none⟩ _ b' e)
  blk := fun b' hb hn => Below.heap_setCell w ⟨b, o, none⟩ _ b' (fun e => hn o t (by subst e; simp))
  plain := fun b' c' T' h' => by
    by_cases e : b' = b
    · subst e
      rw [hh] at h'
      cases h'
      exact ⟨_, heap_setCell_same w b' o c T (mkV k t) hh, by simp⟩
    · exact ⟨c', (Below.heap_setCell w ⟨b, o, none⟩ _ b' e).trans h', rfl⟩
/-- One cell more, in the same world. -/
theorem Mks.push {w w1 : World} {L : List Cel} {k b o : Nat} {t : Bool} {c : Array Value} {T : TypeId} (h : Mks w w1 L k) (hL : ∀ c ∈ L, c.1 < w.heap.size) (hh : w.heap[b]? = some (.cells c T (0, 0))) (ho : o < c.size) (hn : ∀ t', (b, o, t') ∉ L) : Mks w (w1.setCell ⟨b, o, none⟩ (mkV (k + L.length) t)) (L ++ [(b, o, t)]) k := by
  obtain ⟨c1, h1, s1⟩ := h.plain b c T hh
  refine h.append (Mks.one h1 (by omega)) hL (fun b' o' t1 t2 hm h2 => ?_)
  have e : b' = b ∧ o' = o := by simp at h2; exact ⟨h2.1, h2.2.1⟩
  obtain ⟨rfl, rfl⟩ := e
  exact hn t1 hm
/-- The same, the value as the walk has it. -/
theorem Mks.pushV {w w1 : World} {L : List Cel} {k b o : Nat} {t : Bool} {c : Array Value} {T : TypeId} {v : Value} (h : Mks w w1 L k) (hL : ∀ c ∈ L, c.1 < w.heap.size) (hh : w.heap[b]? = some (.cells c T (0, 0))) (ho : o < c.size) (hn : ∀ t', (b, o, t') ∉ L) (hv : v = mkV (k + L.length) t) : Mks w (w1.setCell ⟨b, o, none⟩ v) (L ++ [(b, o, t)]) k := by
  subst hv; exact h.push hL hh ho hn
theorem Mks.below {w w' : World} {L : List Cel} {k B : Nat} (h : Mks w w' L k) (hL : ∀ c ∈ L, B ≤ c.1) (hB : B ≤ w.heap.size) : Below B w w' :=
  ⟨h.os, h.tape, h.output, h.size, fun b hb => h.blk b (by omega) (fun o t hm => by have := hL _ hm; simp at this; omega)⟩
end Go.Proofs.Ytjmclmbepnbeoaa

/- Marks into cells that stand one behind another. -/
namespace Go.Proofs.Ytjmclmbepnbeoaa
open Go.ChangeShapes Go.WideShapes Go.ChangeAt Go.RowKit
def celL (b : Nat) : Nat → List Bool → List Cel
  | _, [] => []
  | p, t :: ts => (b, p, t) :: celL b (p + 1) ts
theorem celL_mem {b b' o' : Nat} {t' : Bool} : ∀ {p : Nat} {ts : List Bool}, (b', o', t') ∈ celL b p ts → b' = b ∧ p ≤ o' ∧ o' < p + ts.length
  | _, [], h => by simp [celL] at h
  | p, t :: ts, h => by
    rcases List.mem_cons.1 h with h | h
    · simp at h; simp; omega
    · have := celL_mem h; simp; omega
theorem Mks.sets {w : World} {b k : Nat} {c : Array Value} {T : TypeId} (hh : w.heap[b]? = some (.cells c T (0, 0))) : ∀ (ts : List Bool) (vs : List Value) (L : List Cel) (w1 : World) (p : Nat), Mks w w1 L k → (∀ c ∈ L, c.1 < w.heap.size) → ts.length = vs.length → (∀ r (h : r < vs.length) (h' : r < ts.length), vs[r] = mkV (k + L.length + r) ts[r]) → (∀ r t', r < ts.length → (b, p + r, t') ∉ L) → p + ts.length ≤ c.size → Mks w (Go.Proofs.Ytjmclmbepnbeoaa.sets b w1 p vs) (L ++ celL b p ts) k
  | [], [], L, w1, p, h, _, _, _, _, _ => by simpa [Go.Proofs.Ytjmclmbepnbeoaa.sets, celL] using h
  | [], v :: vs, _, _, _, _, _, hl, _, _, _ => by simp at hl
  | t :: ts, [], _, _, _, _, _, hl, _, _, _ => by simp at hl
  | t :: ts, v :: vs, L, w1, p, h, hL, hl, hv, hn, hs => by
    have hb : b < w.heap.size := (Array.getElem?_eq_some_iff.1 hh).1
    have h1 := h.pushV (o := p) (t := t) (v := v) hL hh (by simp at hs; omega) (fun t' => by have := hn 0 t' (by simp); simpa using this) (by have := hv 0 (by simp) (by simp); simpa using this)
    have := Mks.sets hh ts vs (L ++ [(b, p, t)]) _ (p + 1) h1 (fun c hc => by
      rcases List.mem_append.1 hc with hc | hc
      · exact hL c hc
      · rw [List.mem_singleton.1 hc]; exact hb) (by simpa using hl) (fun r hr hr' => by
        have := hv (r + 1) (by simpa using hr) (by simpa using hr')
        rw [List.length_append]
        simp only [List.getElem_cons_succ] at this
        rw [this]
        congr 1
        simp; omega) (fun r t' hr hm => by
        rcases List.mem_append.1 hm with hm | hm
        · exact hn (r + 1) t' (by simpa using hr) (by rw [show p + (r + 1) = p + 1 + r by omega]; exact hm)
        · simp at hm; omega) (by simp at hs; omega)
    rw [List.append_assoc] at this
    exact this
end Go.Proofs.Ytjmclmbepnbeoaa

/- The laws' marks on rows of numbers and of steps that a call owns: what they write, and that they find it again. -/
namespace Go.Proofs.Ytjmclmbepnbeoaa
open Go.ChangeShapes Go.WideShapes Go.ChangeAt Go.RowKit
/-- The cells of a row of n numbers. -/
def intL (b o n : Nat) : List Cel := (List.range n).map fun i => (b, o + i, false)
theorem intL_len (b o n : Nat) : (intL b o n).length = n := by simp [intL]
theorem intL_mem {b o n b' o' : Nat} {t : Bool} (h : (b', o', t) ∈ intL b o n) : b' = b ∧ o ≤ o' ∧ o' < o + n := by
  simp only [intL, List.mem_map, List.mem_range, Prod.mk.injEq] at h
  obtain ⟨i, hi, rfl, rfl, _⟩ := h
  exact ⟨rfl, by omega, by omega⟩
theorem intL_succ (b o n : Nat) : intL b o (n + 1) = intL b o n ++ [(b, o + n, false)] := by simp [intL, List.range_succ]
/-- The cells of a row of n steps. -/
def ins1 (b p : Nat) : List Cel := celL b p [false, false, false, false, false, false] ++ [(b, p + 6, true)]
def insL (b o n : Nat) : List Cel := (List.range n).flatMap fun i => ins1 b (o + i * 7)
theorem insL_succ (b o n : Nat) : insL b o (n + 1) = insL b o n ++ ins1 b (o + n * 7) := by simp [insL, List.range_succ]
theorem insL_len (b o : Nat) : ∀ n, (insL b o n).length = n * 7
  | 0 => rfl
  | n + 1 => by rw [insL_succ, List.length_append, insL_len b o n]; simp [ins1, celL]; omega
theorem insL_mem {b o b' o' : Nat} {t : Bool} : ∀ {n : Nat}, (b', o', t) ∈ insL b o n → b' = b ∧ o ≤ o' ∧ o' < o + n * 7
  | 0, h => by simp [insL] at h
  | n + 1, h => by
    rw [insL_succ] at h
    rcases List.mem_append.1 h with h | h
    · obtain ⟨h1, h2, h3⟩ := insL_mem h
      exact ⟨h1, h2, by omega⟩
    · rcases List.mem_append.1 h with h | h
      · have := celL_mem h; simp at this; omega
      · simp at h; omega
set_option maxHeartbeats 1000000 in
theorem markIntS_mks (n : Nat) (w : World) (k b o cap : Nat) (c : Array Value) (T : TypeId) (hh : w.heap[b]? = some (.cells c T (0, 0))) (hs : o + n ≤ c.size) (hk : k + n ≤ 100000000) :
    Calls Try.prog 36 #[.slice (some ⟨b, o, none⟩) n cap, .int .i64 k] w fun en w' => en = .returned (.int .i64 ((k + n : Nat) : Int)) ∧ Mks w w' (intL b o n) k := by
  have hb : b < w.heap.size := (Array.getElem?_eq_some_iff.1 hh).1
  have HH := hideP hh
  clear hh
  go_enter Try.func36, Try.ntmps36
  go_wp2
  go_loopg [1, 5] n (fun gk q i wr => ∃ j m : Nat, gk + j = n ∧ i = .int .i64 j ∧ q = .int .i64 m ∧ Hid (m = k + j) ∧ Hid (Mks w wr (intL b o j) k))
  case atStart => exact ⟨0, k, by simp, rfl, rfl, rfl, Mks.nil w k⟩
  case round =>
    obtain ⟨j, m, hgk, rfl, rfl, hmk, hm⟩ := hrel
    by_cases hlt : j < n
    · obtain ⟨c1, h1, s1⟩ := hm.out.plain b c T HH.out
      have c0 : wr.cell? ⟨b, o + j, none⟩ = some c1[o + j] := by rw [(cells_of h1).1]; exact Array.getElem?_eq_getElem (by omega)
      have f0 := (cells_of h1).2 (o + j)
      have hmk' := hmk.out
      have hm1 : m + 1 ≤ 100000001 := by omega
      have M1 : Hid (Mks w (wr.setCell ⟨b, o + j, none⟩ (.int .i64 (m : Int))) (intL b o (j + 1)) k) := by
        rw [intL_succ]
        exact hm.out.pushV (fun c hc => by obtain ⟨b', o', t⟩ := c; have := intL_mem hc; simp; omega) HH.out (by omega) (fun t' ht => by have := intL_mem ht; omega) (by rw [mkV_int, intL_len, hmk'])
      clear h1 hmk'
      go_wp2
      go_roundg (n - (j + 1))
      case rel => exact ⟨j + 1, m + 1, by omega, by go_num, by go_num, show _ = _ by rw [hmk.out]; omega, M1⟩
      case measure => omega
    · have hjn : j = n := by omega
      subst hjn
      go_wp2
      go_ret
      exact ⟨ret_int (by rw [hmk.out]), hm.out⟩
set_option maxHeartbeats 1000000 in
theorem heldIntS_mks (n : Nat) (w : World) (k b o cap : Nat) (hc : ∀ i, i < n → w.cell? ⟨b, o + i, none⟩ = some (.int .i64 ((k + i : Nat) : Int))) (hk : k + n ≤ 100000000) :
    Calls Try.prog 38 #[.slice (some ⟨b, o, none⟩) n cap, .int .i64 k] w fun en w' => en = .returned (.int .i64 ((k + n : Nat) : Int)) ∧ w' = w := by
  have HC := hideP hc
  clear hc
  go_enter Try.func38, Try.ntmps38
  go_wp2
  go_loop [1, 5] (fun q i => ∃ j : Nat, j ≤ n ∧ i = .int .i64 j ∧ q = .int .i64 ((k + j : Nat) : Int)) (fun _ i => n - (intOf i).toNat)
  case atStart => exact ⟨0, Nat.zero_le _, rfl, rfl⟩
  case round =>
    obtain ⟨j, hj, rfl, rfl⟩ := hrel
    by_cases hlt : j < n
    · have hu := HC.out j hlt
      go_wp2
      go_round
      case rel => exact ⟨j + 1, by omega, by go_num, by go_num⟩
      case measure => simp [intOf]; omega
    · have hjn : j = n := by omega
      subst hjn
      go_wp2
      go_ret
      exact ⟨rfl, rfl⟩
set_option maxHeartbeats 4000000 in
theorem markInstrS_mks (n : Nat) (w : World) (k b o cap : Nat) (c : Array Value) (T : TypeId) (hh : w.heap[b]? = some (.cells c T (0, 0))) (hs : o + n * 7 ≤ c.size) (hk0 : 0 < k) (hk : k + n * 7 ≤ 100000000) :
    Calls Try.prog 68 #[.slice (some ⟨b, o, none⟩) n cap, .int .i64 k] w fun en w' => en = .returned (.int .i64 ((k + n * 7 : Nat) : Int)) ∧ Mks w w' (insL b o n) k := by
  have hb : b < w.heap.size := (Array.getElem?_eq_some_iff.1 hh).1
  have HH := hideP hh
  clear hh
  go_enter Try.func68, Try.ntmps68
  go_wp2
  go_loopg [1, 5] n (fun gk q i wr => ∃ j m : Nat, gk + j = n ∧ i = .int .i64 j ∧ q = .int .i64 m ∧ Hid (m = k + j * 7) ∧ Hid (Mks w wr (insL b o j) k))
  case atStart => exact ⟨0, k, by simp, rfl, rfl, show _ = _ by simp, Mks.nil w k⟩
  case round =>
    obtain ⟨j, m, hgk, rfl, rfl, hmk, hm⟩ := hrel
    by_cases hlt : j < n
    · obtain ⟨c1, h1, s1⟩ := hm.out.plain b c T HH.out
      have hmk' := hmk.out
      have hm0 : 0 < m := by omega
      have hm1 : m + 7 ≤ 100000000 := by omega
      have hp : o + j * 7 + 7 ≤ c.size := by omega
      have hL0 : ∀ c ∈ insL b o j, c.1 < w.heap.size := fun c hc => by obtain ⟨b', o', t⟩ := c; have := insL_mem hc; simp; omega
      have hn0 : ∀ r t', (b, o + j * 7 + r, t') ∉ insL b o j := fun r t' ht => by have := insL_mem ht; omega
      have cc : ∀ r, r < 7 → ∃ u, wr.cell? ⟨b, o + j * 7 + r, none⟩ = some u := fun r hr => ⟨c1[o + j * 7 + r]'(by omega), by rw [(cells_of h1).1]; exact Array.getElem?_eq_getElem (by omega)⟩
      obtain ⟨u0, e0⟩ := cc 0 (by omega)
      obtain ⟨u1, e1⟩ := cc 1 (by omega)
      obtain ⟨u2, e2⟩ := cc 2 (by omega)
      obtain ⟨u3, e3⟩ := cc 3 (by omega)
      obtain ⟨u4, e4⟩ := cc 4 (by omega)
      obtain ⟨u5, e5⟩ := cc 5 (by omega)
      rw [Nat.add_zero] at e0
      have f0 := (cells_of h1).2
      have hlen := insL_len b o j
      have M6 := hideP (Mks.sets HH.out [false, false, false, false, false, false] [.int .i64 (m : Int), .int .i64 ((m : Int) + 1), .int .i64 ((m : Int) + 1 + 1), .int .i64 ((m : Int) + 1 + 1 + 1), .int .i64 ((m : Int) + 1 + 1 + 1 + 1), .int .i64 ((m : Int) + 1 + 1 + 1 + 1 + 1)] (insL b o j) wr (o + j * 7) hm.out hL0 rfl (fun r h h' => by
        rw [hlen, ← hmk']
        match r, h with
        | 0, _ => rfl
        | 1, _ => rfl
        | 2, _ => rfl
        | 3, _ => rfl
        | 4, _ => rfl
        | 5, _ => rfl) (fun r t' _ => hn0 r t') (by simp; omega))
      clear h1 cc hmk'
      go_wp2_with fail
      have ekj : ((m : Int) + 1 + 1 + 1 + 1 + 1 + 1) = ((m + 6 : Nat) : Int) := by omega
      rw [ekj]
      clear ekj
      refine (markText_any (m + 6) _ (by omega) (by omega)).mono ?_
      rintro y1 w1 ⟨rfl, bel1⟩
      have m6 := M6.out.on bel1
      obtain ⟨c2, h2, s2⟩ := m6.plain b c T HH.out
      have e6 : w1.cell? ⟨b, o + j * 7 + 6, none⟩ = some c2[o + j * 7 + 6] := by rw [(cells_of h2).1]; exact Array.getElem?_eq_getElem (by omega)
      have f6 := (cells_of h2).2 (o + j * 7 + 6)
      have M7 : Hid (Mks w (w1.setCell ⟨b, o + j * 7 + 6, none⟩ (.string (markS (m + 6)))) (insL b o (j + 1)) k) := by
        rw [insL_succ, ins1, ← List.append_assoc]
        refine m6.pushV (t := true) (fun c hc => ?_) HH.out (by omega) (fun t' ht => ?_) (by rw [mkV_str, List.length_append, hlen, show (celL b (o + j * 7) [false, false, false, false, false, false]).length = 6 from rfl, show k + (j * 7 + 6) = m + 6 by have := hmk.out; omega])
        · rcases List.mem_append.1 hc with hc | hc
          · exact hL0 c hc
          · obtain ⟨b', o', t⟩ := c; have := celL_mem hc; simp; omega
        · rcases List.mem_append.1 ht with ht | ht
          · exact hn0 6 t' ht
          · have := celL_mem ht; simp at this
      clear m6 h2 bel1 e0 e1 e2 e3 e4 e5 f0 M6
      go_wp2
      go_roundg (n - (j + 1))
      case rel => exact ⟨j + 1, m + 7, by omega, by go_num, by go_num, show _ = _ by rw [hmk.out]; omega, M7⟩
      case measure => omega
    · have hjn : j = n := by omega
      subst hjn
      go_wp2
      go_ret
      exact ⟨ret_int (by rw [hmk.out]), hm.out⟩
end Go.Proofs.Ytjmclmbepnbeoaa

/- The laws' marks on a row of steps are found again. -/
namespace Go.Proofs.Ytjmclmbepnbeoaa
open Go.ChangeShapes Go.WideShapes Go.ChangeAt Go.RowKit
set_option maxHeartbeats 4000000 in
theorem heldInstrS_mks (n : Nat) (w : World) (k b o cap : Nat) (hb : b < w.heap.size) (hc : ∀ i r, i < n → r < 6 → w.cell? ⟨b, o + i * 7 + r, none⟩ = some (.int .i64 ((k + i * 7 + r : Nat) : Int))) (hd : ∀ i, i < n → w.cell? ⟨b, o + i * 7 + 6, none⟩ = some (.string (markS (k + i * 7 + 6)))) (hk0 : 0 < k) (hk : k + n * 7 ≤ 100000000) :
    Calls Try.prog 69 #[.slice (some ⟨b, o, none⟩) n cap, .int .i64 k] w fun en w' => en = .returned (.int .i64 ((k + n * 7 : Nat) : Int)) ∧ Below w.heap.size w w' := by
  have HC := hideP hc
  have HD := hideP hd
  clear hc hd
  go_enter Try.func69, Try.ntmps69
  go_wp2
  go_loopg [1, 5] n (fun gk q i wr => ∃ j m : Nat, gk + j = n ∧ i = .int .i64 j ∧ q = .int .i64 m ∧ Hid (m = k + j * 7) ∧ Hid (Below w.heap.size w wr))
  case atStart => exact ⟨0, k, by simp, rfl, rfl, show _ = _ by simp, Below.refl _ _⟩
  case round =>
    obtain ⟨j, m, hgk, rfl, rfl, hmk, hbr⟩ := hrel
    by_cases hlt : j < n
    · have hm0 : 0 < m := by have := hmk.out; omega
      have hm1 : m + 7 ≤ 100000000 := by have := hmk.out; omega
      have e0 : wr.cell? ⟨b, o + j * 7, none⟩ = some (.int .i64 (m : Int)) := by rw [(hbr.out.cell (p := ⟨b, _, none⟩) hb).trans (by simpa using HC.out j 0 hlt (by omega))]; congr 2; have := hmk.out; omega
      have e1 : wr.cell? ⟨b, o + j * 7 + 1, none⟩ = some (.int .i64 ((m : Int) + 1)) := by rw [(hbr.out.cell (p := ⟨b, _, none⟩) hb).trans (HC.out j 1 hlt (by omega))]; congr 2; have := hmk.out; omega
      have e2 : wr.cell? ⟨b, o + j * 7 + 2, none⟩ = some (.int .i64 ((m : Int) + 1 + 1)) := by rw [(hbr.out.cell (p := ⟨b, _, none⟩) hb).trans (HC.out j 2 hlt (by omega))]; congr 2; have := hmk.out; omega
      have e3 : wr.cell? ⟨b, o + j * 7 + 3, none⟩ = some (.int .i64 ((m : Int) + 1 + 1 + 1)) := by rw [(hbr.out.cell (p := ⟨b, _, none⟩) hb).trans (HC.out j 3 hlt (by omega))]; congr 2; have := hmk.out; omega
      have e4 : wr.cell? ⟨b, o + j * 7 + 4, none⟩ = some (.int .i64 ((m : Int) + 1 + 1 + 1 + 1)) := by rw [(hbr.out.cell (p := ⟨b, _, none⟩) hb).trans (HC.out j 4 hlt (by omega))]; congr 2; have := hmk.out; omega
      have e5 : wr.cell? ⟨b, o + j * 7 + 5, none⟩ = some (.int .i64 ((m : Int) + 1 + 1 + 1 + 1 + 1)) := by rw [(hbr.out.cell (p := ⟨b, _, none⟩) hb).trans (HC.out j 5 hlt (by omega))]; congr 2; have := hmk.out; omega
      have e6 : wr.cell? ⟨b, o + j * 7 + 6, none⟩ = some (.string (markS (m + 6))) := by rw [(hbr.out.cell (p := ⟨b, _, none⟩) hb).trans (HD.out j hlt), ← hmk.out]
      go_wp2_with fail
      have ekj : ((m : Int) + 1 + 1 + 1 + 1 + 1 + 1) = ((m + 6 : Nat) : Int) := by omega
      rw [ekj]
      clear ekj e0 e1 e2 e3 e4 e5
      have SK : Hid (∀ W', Below w.heap.size wr W' → W'.cell? ⟨b, o + j * 7 + 6, none⟩ = some (.string (markS (m + 6)))) := fun W' h => (h.cell (p := ⟨b, _, none⟩) hb).trans e6
      have hwb := hbr.out.size
      clear e6
      go_region_held3 (fun W' => W'.cell? ⟨b, o + j * 7 + 6, none⟩ = some (.string (markS (m + 6)))) (first | exact SK.out _ (Below.refl _ _).drew | exact SK.out _ H1.out) (first
        | (go_at_call 109; refine (markText_any (m + 6) _ (by omega) (by omega)).mono ?_; rintro e1 w1 ⟨rfl, bel1⟩; have H1 := hideP (((Below.refl wr.heap.size wr).drew.trans (bel1.mono (Nat.le_refl _))).mono hwb); clear bel1))
      all_goals (go_wp2; go_roundg (n - (j + 1)))
      case rel => exact ⟨j + 1, m + 7, by omega, by go_num, by go_num, show _ = _ by rw [hmk.out]; omega, hbr.out.trans H1.out⟩
      case measure => omega
    · have hjn : j = n := by omega
      subst hjn
      go_wp2
      go_ret
      exact ⟨ret_int (by rw [hmk.out]), hbr.out⟩
end Go.Proofs.Ytjmclmbepnbeoaa

/- The laws' marks on a row of blocks that a call owns: which cells, one behind another. -/
namespace Go.Proofs.Ytjmclmbepnbeoaa
open Go.ChangeShapes Go.WideShapes Go.ChangeAt Go.RowKit
/-- Where the code of a block lies: its block, where it begins there, how many steps. -/
structure CRow where
  b : Nat
  o : Nat
  n : Nat
def blk1 (b p : Nat) (c : CRow) : List Cel := insL c.b c.o c.n ++ celL b (p + 1) [false, false, false, false]
def blksL (b : Nat) : Nat → List CRow → List Cel
  | _, [] => []
  | p, c :: cs => blk1 b p c ++ blksL b (p + 5) cs
theorem blksL_snoc (b : Nat) (c : CRow) : ∀ (p : Nat) (cs : List CRow), blksL b p (cs ++ [c]) = blksL b p cs ++ blk1 b (p + cs.length * 5) c
  | p, [] => by simp [blksL]
  | p, d :: cs => by
    show blk1 b p d ++ blksL b (p + 5) (cs ++ [c]) = _
    rw [blksL_snoc b c (p + 5) cs, List.length_cons, show p + (cs.length + 1) * 5 = p + 5 + cs.length * 5 by omega]
    simp [blksL]
theorem blk1_len (b p : Nat) (c : CRow) : (blk1 b p c).length = c.n * 7 + 4 := by rw [blk1, List.length_append, insL_len]; rfl
theorem blk1_mem {b p : Nat} {c : CRow} {b' o' : Nat} {t : Bool} (h : (b', o', t) ∈ blk1 b p c) : (b' = c.b ∧ 0 < c.n) ∨ (b' = b ∧ p < o' ∧ o' < p + 5) := by
  rcases List.mem_append.1 h with h | h
  · left
    have := insL_mem h
    exact ⟨this.1, by omega⟩
  · right
    have := celL_mem h
    simp at this
    omega
theorem blksL_mem {b b' o' : Nat} {t : Bool} : ∀ {p : Nat} {cs : List CRow}, (b', o', t) ∈ blksL b p cs → (∃ i, ∃ h : i < cs.length, b' = cs[i].b ∧ 0 < cs[i].n) ∨ (b' = b ∧ ∃ i, i < cs.length ∧ p + i * 5 < o' ∧ o' < p + i * 5 + 5)
  | _, [], h => by simp [blksL] at h
  | p, c :: cs, h => by
    rcases List.mem_append.1 h with h | h
    · rcases blk1_mem h with h | h
      · exact Or.inl ⟨0, by simp, by simpa using h⟩
      · exact Or.inr ⟨h.1, 0, by simp, by omega, by omega⟩
    · rcases blksL_mem h with ⟨i, hi, h⟩ | ⟨h, i, hi, h2, h3⟩
      · exact Or.inl ⟨i + 1, by simpa using hi, by simpa using h⟩
      · exact Or.inr ⟨h, i + 1, by simpa using hi, by omega, by omega⟩
/-- How the code rows lie: each in a block of its own, which is not the row's of the blocks. -/
structure CodesIs (w : World) (b o : Nat) (cs : List CRow) : Prop where
  cell : ∀ i (h : i < cs.length), ∃ ad cap, w.cell? ⟨b, o + i * 5, none⟩ = some (.slice ad cs[i].n cap) ∧ (cs[i].n = 0 ∨ ad = some ⟨cs[i].b, cs[i].o, none⟩)
  row : ∀ i (h : i < cs.length), 0 < cs[i].n → ∃ c T, w.heap[cs[i].b]? = some (.cells c T (0, 0)) ∧ cs[i].o + cs[i].n * 7 ≤ c.size
  own : ∀ i (h : i < cs.length), 0 < cs[i].n → cs[i].b ≠ b
  dis : ∀ i j (hi : i < cs.length) (hj : j < cs.length), i ≠ j → 0 < cs[i].n → 0 < cs[j].n → cs[i].b ≠ cs[j].b
theorem markInstrS_zero (w : World) (ad : Option Addr) (cap k : Nat) :
    Calls Try.prog 68 #[.slice ad 0 cap, .int .i64 k] w fun en w' => en = .returned (.int .i64 (k : Int)) ∧ w' = w := by
  go_enter Try.func68, Try.ntmps68
  go_wp2
  go_loop [1, 5] (fun q i => i = .int .i64 0 ∧ q = .int .i64 (k : Int)) (fun _ _ => 0)
  case atStart => exact ⟨rfl, rfl⟩
  case round =>
    obtain ⟨rfl, rfl⟩ := hrel
    go_wp2
    go_ret
    exact ⟨rfl, rfl⟩
theorem heldInstrS_zero (w : World) (ad : Option Addr) (cap k : Nat) :
    Calls Try.prog 69 #[.slice ad 0 cap, .int .i64 k] w fun en w' => en = .returned (.int .i64 (k : Int)) ∧ w' = w := by
  go_enter Try.func69, Try.ntmps69
  go_wp2
  go_loop [1, 5] (fun q i => i = .int .i64 0 ∧ q = .int .i64 (k : Int)) (fun _ _ => 0)
  case atStart => exact ⟨rfl, rfl⟩
  case round =>
    obtain ⟨rfl, rfl⟩ := hrel
    go_wp2
    go_ret
    exact ⟨rfl, rfl⟩
/-- The marks on one code, whatever its slice is. -/
theorem markCode (w : World) (b o i k : Nat) (cs : List CRow) (h : CodesIs w b o cs) (hi : i < cs.length) (hk0 : 0 < k) (hk : k + cs[i].n * 7 ≤ 100000000) {w1 : World} {L : List Cel} {k0 : Nat} (hm : Mks w w1 L k0) {ad : Option Addr} {cap : Nat} (had : cs[i].n = 0 ∨ ad = some ⟨cs[i].b, cs[i].o, none⟩) :
    Calls Try.prog 68 #[.slice ad cs[i].n cap, .int .i64 k] w1 fun en w' => en = .returned (.int .i64 ((k + cs[i].n * 7 : Nat) : Int)) ∧ Mks w1 w' (insL cs[i].b cs[i].o cs[i].n) k := by
  by_cases hn : cs[i].n = 0
  · rw [hn]
    refine (markInstrS_zero w1 ad cap k).mono ?_
    rintro e w' ⟨rfl, rfl⟩
    exact ⟨by simp, by simpa [insL] using Mks.nil _ k⟩
  · have e := had.resolve_left hn
    subst e
    obtain ⟨c, T, hh, hs⟩ := h.row i hi (by omega)
    obtain ⟨c1, h1, s1⟩ := hm.plain _ c T hh
    exact markInstrS_mks cs[i].n w1 k cs[i].b cs[i].o cap c1 T h1 (by omega) hk0 hk
end Go.Proofs.Ytjmclmbepnbeoaa

/- The laws' marks on a row of blocks that a call owns: what markBlockS writes. -/
namespace Go.Proofs.Ytjmclmbepnbeoaa
open Go.ChangeShapes Go.WideShapes Go.ChangeAt Go.RowKit
theorem blksL_length (b : Nat) : ∀ (p : Nat) (cs : List CRow), (blksL b p cs).length = (cs.map fun c => c.n * 7 + 4).sum
  | _, [] => rfl
  | p, c :: cs => by rw [blksL, List.length_append, blk1_len, blksL_length b (p + 5) cs]; simp
theorem blksL_take_le (b p : Nat) (cs : List CRow) (j : Nat) : (blksL b p (cs.take j)).length ≤ (blksL b p cs).length := by
  rw [blksL_length, blksL_length]
  conv => rhs; rw [← List.take_append_drop j cs, List.map_append, List.sum_append]
  omega
theorem blksL_ge (b : Nat) : ∀ (p : Nat) (cs : List CRow), cs.length ≤ (blksL b p cs).length
  | _, [] => Nat.zero_le _
  | p, c :: cs => by have := blksL_ge b (p + 5) cs; rw [blksL, List.length_append, blk1_len, List.length_cons]; omega
theorem blksL_take {b o j : Nat} {cs : List CRow} (h : j < cs.length) : blksL b o (cs.take (j + 1)) = blksL b o (cs.take j) ++ insL cs[j].b cs[j].o cs[j].n ++ celL b (o + j * 5 + 1) [false, false, false, false] := by
  rw [List.take_succ_eq_append_getElem h, blksL_snoc, blk1, List.length_take, Nat.min_eq_left (Nat.le_of_lt h), List.append_assoc]
theorem codes_mem {b o j b' o' : Nat} {t : Bool} {cs : List CRow} (h : (b', o', t) ∈ blksL b o (cs.take j)) : (∃ i, ∃ hi : i < cs.length, i < j ∧ b' = cs[i].b ∧ 0 < cs[i].n) ∨ (b' = b ∧ ∃ i, i < j ∧ o + i * 5 < o' ∧ o' < o + i * 5 + 5) := by
  rcases blksL_mem h with ⟨i, hi, h1, h2⟩ | ⟨h1, i, hi, h2, h3⟩
  · rw [List.length_take] at hi
    rw [List.getElem_take] at h1 h2
    exact Or.inl ⟨i, by omega, by omega, h1, h2⟩
  · rw [List.length_take] at hi
    exact Or.inr ⟨h1, i, by omega, h2, h3⟩
set_option maxHeartbeats 4000000 in
theorem markBlockS_mks (cs : List CRow) (w : World) (k b o cap : Nat) (c : Array Value) (T : TypeId) (hh : w.heap[b]? = some (.cells c T (0, 0))) (hs : o + cs.length * 5 ≤ c.size) (h : CodesIs w b o cs) (hk0 : 0 < k) (hk : k + (blksL b o cs).length ≤ 100000000) :
    Calls Try.prog 37 #[.slice (some ⟨b, o, none⟩) cs.length cap, .int .i64 k] w fun en w' => en = .returned (.int .i64 ((k + (blksL b o cs).length : Nat) : Int)) ∧ Mks w w' (blksL b o cs) k := by
  have hb : b < w.heap.size := (Array.getElem?_eq_some_iff.1 hh).1
  have HH := hideP hh
  have HC := hideP h
  clear hh h
  obtain ⟨N, hN⟩ : ∃ N, cs.length = N := ⟨_, rfl⟩
  rw [hN] at hs ⊢
  have hNb : N ≤ 100000000 := by have := blksL_ge b o cs; omega
  have HN := hideP hN
  have HK := hideP hk
  clear hN hk
  go_enter Try.func37, Try.ntmps37
  go_wp2
  go_loopg [1, 5] N (fun gk q i wr => ∃ j m : Nat, gk + j = N ∧ i = .int .i64 j ∧ q = .int .i64 m ∧ Hid (m = k + (blksL b o (cs.take j)).length) ∧ Hid (Mks w wr (blksL b o (cs.take j)) k))
  case atStart => exact ⟨0, k, by simp, rfl, rfl, show _ = _ by simp [blksL], by show Mks _ _ _ _; simpa [blksL] using Mks.nil w k⟩
  case round =>
    obtain ⟨j, m, hgk, rfl, rfl, hmk, hm⟩ := hrel
    by_cases hlt : j < N
    · have hjc : j < cs.length := by rw [HN.out]; exact hlt
      obtain ⟨ad, cp, hc, had⟩ := HC.out.cell j hjc
      have hnot : ∀ t, (b, o + j * 5, t) ∉ blksL b o (cs.take j) := fun t ht => by
        rcases codes_mem ht with ⟨i, hi, _, h1, h2⟩ | ⟨_, i, hi, h2, h3⟩
        · exact HC.out.own i hi h2 h1.symm
        · omega
      have e0 := (hm.out.off b (o + j * 5) hb hnot).trans hc
      have hle := blksL_take_le b o cs (j + 1)
      rw [blksL_take hjc, List.length_append, List.length_append, insL_len] at hle
      have hle2 : (celL b (o + j * 5 + 1) [false, false, false, false]).length = 4 := rfl
      have hkk := HK.out
      have hmk' := hmk.out
      have MC := hideP (markCode w b o j m cs HC.out hjc (by omega) (by omega) hm.out (cap := cp) had)
      obtain ⟨m2, hm2⟩ : ∃ m2, m + cs[j].n * 7 = m2 := ⟨_, rfl⟩
      have hm2b : m2 + 4 ≤ 100000000 := by omega
      obtain ⟨nj, hnj⟩ : ∃ nj, cs[j].n = nj := ⟨_, rfl⟩
      rw [hm2] at MC
      have LU := hideP (blksL_take (b := b) (o := o) hjc)
      have HM2 := hideP hm2
      clear hle hle2 hkk hmk' hm2 hc hnot
      have HNJ := hideP hnj
      rw [hnj] at LU HM2
      simp only [hnj] at e0 MC
      clear hnj
      go_wp2_with fail
      refine MC.out.mono ?_
      rintro y1 w1 ⟨rfl, mk1⟩
      have hL0 : ∀ c ∈ blksL b o (cs.take j) ++ insL cs[j].b cs[j].o nj, c.1 < w.heap.size := fun c hc => by
        obtain ⟨b', o', t⟩ := c
        rcases List.mem_append.1 hc with hc | hc
        · rcases codes_mem hc with ⟨i, hi, _, h1, h2⟩ | ⟨h1, _⟩
          · obtain ⟨c, T, hr, _⟩ := HC.out.row i hi h2
            simp only [h1]; exact (Array.getElem?_eq_some_iff.1 hr).1
          · simp only [h1]; exact hb
        · have h1 := insL_mem hc
          obtain ⟨c, T, hr, _⟩ := HC.out.row j hjc (by rw [HNJ.out]; omega)
          simp only [h1.1]; exact (Array.getElem?_eq_some_iff.1 hr).1
      have M1 : Mks w w1 (blksL b o (cs.take j) ++ insL cs[j].b cs[j].o nj) k := hm.out.append (by rw [← hmk.out]; exact mk1) (fun c hc => hL0 c (List.mem_append_left _ hc)) (fun b' o' t t' h1 h2 => by
        have h3 := insL_mem h2
        have hpos : 0 < cs[j].n := by rw [HNJ.out]; omega
        rcases codes_mem h1 with ⟨i, hi, hij, h4, h5⟩ | ⟨h4, _⟩
        · exact HC.out.dis i j hi hjc (by omega) h5 hpos (h4.symm.trans h3.1)
        · exact HC.out.own j hjc hpos (h3.1.symm.trans h4))
      have hn0 : ∀ r t', r < 4 → (b, o + j * 5 + 1 + r, t') ∉ blksL b o (cs.take j) ++ insL cs[j].b cs[j].o nj := fun r t' hr ht => by
        rcases List.mem_append.1 ht with ht | ht
        · rcases codes_mem ht with ⟨i, hi, _, h1, h2⟩ | ⟨_, i, hi, h2, h3⟩
          · exact HC.out.own i hi h2 h1.symm
          · omega
        · have h1 := insL_mem ht
          exact HC.out.own j hjc (by rw [HNJ.out]; omega) h1.1.symm
      have hlen : (blksL b o (cs.take j) ++ insL cs[j].b cs[j].o nj).length + k = m2 := by
        have h1 := hmk.out
        have h2 := HM2.out
        rw [List.length_append, insL_len]; omega
      obtain ⟨c1, h1, s1⟩ := M1.plain b c T HH.out
      have cc : ∀ r, r < 4 → ∃ u, w1.cell? ⟨b, o + j * 5 + (r + 1), none⟩ = some u := fun r hr => ⟨c1[o + j * 5 + (r + 1)]'(by omega), by rw [(cells_of h1).1]; exact Array.getElem?_eq_getElem (by omega)⟩
      obtain ⟨u1, e1⟩ := cc 0 (by omega)
      obtain ⟨u2, e2⟩ := cc 1 (by omega)
      obtain ⟨u3, e3⟩ := cc 2 (by omega)
      obtain ⟨u4, e4⟩ := cc 3 (by omega)
      have f0 := (cells_of h1).2
      have M5 := hideP (Mks.sets HH.out [false, false, false, false] [.int .i64 (m2 : Int), .int .i64 ((m2 : Int) + 1), .int .i64 ((m2 : Int) + 1 + 1), .int .i64 ((m2 : Int) + 1 + 1 + 1)] _ w1 (o + j * 5 + 1) M1 hL0 rfl (fun r h h' => by
        rw [show ∀ x, k + (blksL b o (cs.take j) ++ insL cs[j].b cs[j].o nj).length + x = m2 + x from fun x => by omega]
        match r, h with
        | 0, _ => rfl
        | 1, _ => rfl
        | 2, _ => rfl
        | 3, _ => rfl) (fun r t' hr => hn0 r t' hr) (by simp; omega))
      rw [← LU.out] at M5
      have HM3 : Hid (m2 + 4 = k + (blksL b o (cs.take (j + 1))).length) := by
        show _ = _
        rw [LU.out, List.length_append, show (celL b (o + j * 5 + 1) [false, false, false, false]).length = 4 from rfl]; omega
      clear h1 cc M1 mk1 hlen hn0 hL0 e0
      go_wp2
      go_roundg (N - (j + 1))
      case rel => exact ⟨j + 1, m2 + 4, by omega, by go_num, by go_num, HM3.out, M5⟩
      case measure => omega
    · have hjn : j = N := by omega
      subst hjn
      go_wp2
      go_ret
      have e1 : cs.take j = cs := by rw [← HN.out]; exact List.take_length
      exact ⟨ret_int (by rw [hmk.out, e1]), by have := hm.out; rwa [e1] at this⟩
end Go.Proofs.Ytjmclmbepnbeoaa

/- The laws' marks on a row of blocks are found again. -/
namespace Go.Proofs.Ytjmclmbepnbeoaa
open Go.ChangeShapes Go.WideShapes Go.ChangeAt Go.RowKit
/-- The cells of L hold the marks from k on. -/
def HereIs (w : World) (L : List Cel) (k : Nat) : Prop := ∀ i (h : i < L.length), w.cell? ⟨L[i].1, L[i].2.1, none⟩ = some (mkV (k + i) L[i].2.2)
theorem HereIs.left {w : World} {A B : List Cel} {k : Nat} (h : HereIs w (A ++ B) k) : HereIs w A k := fun i hi => by
  have := h i (by rw [List.length_append]; omega)
  rwa [List.getElem_append_left hi] at this
theorem HereIs.right {w : World} {A B : List Cel} {k : Nat} (h : HereIs w (A ++ B) k) : HereIs w B (k + A.length) := fun i hi => by
  have := h (A.length + i) (by rw [List.length_append]; omega)
  rw [List.getElem_append_right (by omega)] at this
  simp only [Nat.add_sub_cancel_left] at this
  rw [Nat.add_assoc]; exact this
theorem HereIs.stays {w w' : World} {L : List Cel} {k : Nat} (h : HereIs w L k) (bel : Below w.heap.size w w') : HereIs w' L k := fun i hi =>
  (bel.cell (p := ⟨L[i].1, L[i].2.1, none⟩) (World.block_lt_of_cell? w _ (h i hi))).trans (h i hi)
theorem celL_len (b : Nat) : ∀ (p : Nat) (ts : List Bool), (celL b p ts).length = ts.length
  | _, [] => rfl
  | p, _ :: ts => by rw [celL, List.length_cons, celL_len b (p + 1) ts, List.length_cons]
theorem celL_get (b : Nat) : ∀ (p : Nat) (ts : List Bool) (r : Nat) (h : r < ts.length) (h' : r < (celL b p ts).length), (celL b p ts)[r] = (b, p + r, ts[r])
  | p, t :: ts, 0, _, _ => rfl
  | p, t :: ts, r + 1, h, h' => by
    have := celL_get b (p + 1) ts r (by simpa using h) (by simpa [celL] using h')
    show (celL b (p + 1) ts)[r]'(by simpa [celL] using h') = _
    rw [this]
    simp; omega
theorem HereIs.cel {w : World} {b p k : Nat} {ts : List Bool} (h : HereIs w (celL b p ts) k) (r : Nat) (hr : r < ts.length) : w.cell? ⟨b, p + r, none⟩ = some (mkV (k + r) ts[r]) := by
  have hl : r < (celL b p ts).length := by rw [celL_len]; exact hr
  have := h r hl
  rw [celL_get b p ts r hr hl] at this
  exact this
theorem HereIs.ins {w : World} {b o k : Nat} : ∀ {n : Nat}, HereIs w (insL b o n) k → ∀ i, i < n → HereIs w (ins1 b (o + i * 7)) (k + i * 7)
  | 0, _, i, hi => absurd hi (Nat.not_lt_zero _)
  | n + 1, h, i, hi => by
    rw [insL_succ] at h
    by_cases e : i = n
    · subst e
      have := h.right
      rwa [insL_len] at this
    · exact HereIs.ins h.left i (by omega)
theorem heldInstrS_here (n : Nat) (w : World) (k b o cap : Nat) (hb : b < w.heap.size) (h : HereIs w (insL b o n) k) (hk0 : 0 < k) (hk : k + n * 7 ≤ 100000000) :
    Calls Try.prog 69 #[.slice (some ⟨b, o, none⟩) n cap, .int .i64 k] w fun en w' => en = .returned (.int .i64 ((k + n * 7 : Nat) : Int)) ∧ Below w.heap.size w w' := by
  refine heldInstrS_mks n w k b o cap hb (fun i r hi hr => ?_) (fun i hi => ?_) hk0 hk
  · have h1 := (h.ins i hi).left.cel r (by simpa using hr)
    rw [h1]
    have : ∀ (ts : List Bool), (∀ t ∈ ts, t = false) → ∀ (hr' : r < ts.length), ts[r] = false := fun ts ht hr' => ht _ (List.getElem_mem hr')
    rw [this _ (by simp), mkV_int]
  · have h1 := (h.ins i hi).right 0 (by simp)
    rw [celL_len] at h1
    exact h1
theorem heldCode (w : World) (b o i k : Nat) (cs : List CRow) (h : CodesIs w b o cs) (hi : i < cs.length) (hk0 : 0 < k) (hk : k + cs[i].n * 7 ≤ 100000000) {w1 : World} (bel : Below w.heap.size w w1) (hm : HereIs w1 (insL cs[i].b cs[i].o cs[i].n) k) {ad : Option Addr} {cap : Nat} (had : cs[i].n = 0 ∨ ad = some ⟨cs[i].b, cs[i].o, none⟩) :
    Calls Try.prog 69 #[.slice ad cs[i].n cap, .int .i64 k] w1 fun en w' => en = .returned (.int .i64 ((k + cs[i].n * 7 : Nat) : Int)) ∧ Below w1.heap.size w1 w' := by
  by_cases hn : cs[i].n = 0
  · rw [hn]
    refine (heldInstrS_zero w1 ad cap k).mono ?_
    rintro e w' ⟨rfl, rfl⟩
    exact ⟨by simp, Below.refl _ _⟩
  · have e := had.resolve_left hn
    subst e
    obtain ⟨c, T, hh, hs⟩ := h.row i hi (by omega)
    have := (Array.getElem?_eq_some_iff.1 hh).1
    exact heldInstrS_here cs[i].n w1 k cs[i].b cs[i].o cap (by have := bel.size; omega) hm hk0 hk
theorem HereIs.blk {w : World} {b o k : Nat} {cs : List CRow} (h : HereIs w (blksL b o cs) k) (j : Nat) (hj : j < cs.length) : HereIs w (insL cs[j].b cs[j].o cs[j].n) (k + (blksL b o (cs.take j)).length) ∧ HereIs w (celL b (o + j * 5 + 1) [false, false, false, false]) (k + (blksL b o (cs.take j)).length + cs[j].n * 7) := by
  have hpre : ∃ R, blksL b o cs = blksL b o (cs.take (j + 1)) ++ R := by
    have : ∀ (p : Nat) (A B : List CRow), ∃ R, blksL b p (A ++ B) = blksL b p A ++ R := fun p A B => by
      induction A generalizing p with
      | nil => exact ⟨blksL b p B, rfl⟩
      | cons a A ih =>
        obtain ⟨R, hR⟩ := ih (p + 5)
        exact ⟨R, by rw [List.cons_append, blksL, hR, blksL, List.append_assoc]⟩
    obtain ⟨R, hR⟩ := this o (cs.take (j + 1)) (cs.drop (j + 1))
    rw [List.take_append_drop] at hR
    exact ⟨R, hR⟩
  obtain ⟨R, hR⟩ := hpre
  rw [hR] at h
  have h1 := h.left
  rw [blksL_take hj] at h1
  refine ⟨h1.left.right, ?_⟩
  have h2 := h1.right
  rw [List.length_append, insL_len, ← Nat.add_assoc] at h2
  exact h2
set_option maxHeartbeats 4000000 in
theorem heldBlockS_mks (cs : List CRow) (w : World) (k b o cap : Nat) (hb : b < w.heap.size) (h : CodesIs w b o cs) (here : HereIs w (blksL b o cs) k) (hk0 : 0 < k) (hk : k + (blksL b o cs).length ≤ 100000000) :
    Calls Try.prog 39 #[.slice (some ⟨b, o, none⟩) cs.length cap, .int .i64 k] w fun en w' => en = .returned (.int .i64 ((k + (blksL b o cs).length : Nat) : Int)) ∧ Below w.heap.size w w' := by
  have HC := hideP h
  have HE := hideP here
  clear h here
  obtain ⟨N, hN⟩ : ∃ N, cs.length = N := ⟨_, rfl⟩
  rw [hN]
  have hNb : N ≤ 100000000 := by have := blksL_ge b o cs; omega
  have HN := hideP hN
  have HK := hideP hk
  clear hN hk
  go_enter Try.func39, Try.ntmps39
  go_wp2
  go_loopg [1, 5] N (fun gk q i wr => ∃ j m : Nat, gk + j = N ∧ i = .int .i64 j ∧ q = .int .i64 m ∧ Hid (m = k + (blksL b o (cs.take j)).length) ∧ Hid (Below w.heap.size w wr))
  case atStart => exact ⟨0, k, by simp, rfl, rfl, show _ = _ by simp [blksL], Below.refl _ _⟩
  case round =>
    obtain ⟨j, m, hgk, rfl, rfl, hmk, hbr⟩ := hrel
    by_cases hlt : j < N
    · have hjc : j < cs.length := by rw [HN.out]; exact hlt
      obtain ⟨ad, cp, hc, had⟩ := HC.out.cell j hjc
      have e0 := (hbr.out.cell (p := ⟨b, _, none⟩) hb).trans hc
      obtain ⟨hi1, hi2⟩ := HE.out.blk j hjc
      have hle := blksL_take_le b o cs (j + 1)
      rw [blksL_take hjc, List.length_append, List.length_append, insL_len] at hle
      have hle2 : (celL b (o + j * 5 + 1) [false, false, false, false]).length = 4 := rfl
      have hkk := HK.out
      have hmk' := hmk.out
      rw [← hmk'] at hi1 hi2
      have MC := hideP (heldCode w b o j m cs HC.out hjc (by omega) (by omega) hbr.out (hi1.stays hbr.out) (cap := cp) had)
      obtain ⟨m2, hm2⟩ : ∃ m2, m + cs[j].n * 7 = m2 := ⟨_, rfl⟩
      have hm2b : m2 + 4 ≤ 100000000 := by omega
      have HM3 : Hid (m2 + 4 = k + (blksL b o (cs.take (j + 1))).length) := by
        show _ = _
        rw [blksL_take hjc, List.length_append, List.length_append, insL_len, hle2]; omega
      rw [hm2] at MC hi2
      have d1 := hi2.cel 0 (by simp)
      have d2 := hi2.cel 1 (by simp)
      have d3 := hi2.cel 2 (by simp)
      have d4 := hi2.cel 3 (by simp)
      obtain ⟨nj, hnj⟩ : ∃ nj, cs[j].n = nj := ⟨_, rfl⟩
      simp only [hnj] at e0 MC
      clear hle hle2 hkk hmk' hm2 hc hi1 hi2 hnj
      go_wp2_with fail
      refine MC.out.mono ?_
      rintro y1 w1 ⟨rfl, bel1⟩
      have B1 := hideP (below_trans hbr.out bel1)
      replace d1 := (B1.out.cell (p := ⟨b, _, none⟩) hb).trans d1
      replace d2 := (B1.out.cell (p := ⟨b, _, none⟩) hb).trans d2
      replace d3 := (B1.out.cell (p := ⟨b, _, none⟩) hb).trans d3
      replace d4 := (B1.out.cell (p := ⟨b, _, none⟩) hb).trans d4
      have g1 : w1.cell? ⟨b, o + j * 5 + 1, none⟩ = some (.int .i64 (m2 : Int)) := by simpa [mkV] using d1
      have g2 : w1.cell? ⟨b, o + j * 5 + 2, none⟩ = some (.int .i64 ((m2 : Int) + 1)) := by simpa [mkV, Nat.add_assoc] using d2
      have g3 : w1.cell? ⟨b, o + j * 5 + 3, none⟩ = some (.int .i64 ((m2 : Int) + 1 + 1)) := by have := d3; simp [mkV, Nat.add_assoc] at this; rw [← Nat.add_assoc] at this; rw [this]; congr 2
      have g4 : w1.cell? ⟨b, o + j * 5 + 4, none⟩ = some (.int .i64 ((m2 : Int) + 1 + 1 + 1)) := by have := d4; simp [mkV, Nat.add_assoc] at this; rw [← Nat.add_assoc] at this; rw [this]; congr 2
      clear d1 d2 d3 d4 bel1 e0
      go_wp2
      go_roundg (N - (j + 1))
      case rel => exact ⟨j + 1, m2 + 4, by omega, by go_num, by go_num, HM3.out, B1.out⟩
      case measure => omega
    · have hjn : j = N := by omega
      subst hjn
      go_wp2
      go_ret
      have e1 : cs.take j = cs := by rw [← HN.out]; exact List.take_length
      exact ⟨ret_int (by rw [hmk.out, e1]), hbr.out⟩
end Go.Proofs.Ytjmclmbepnbeoaa

/- The laws' marks on a graph that a call owns: what markGraph writes, and that heldGraph finds it again. -/
namespace Go.Proofs.Ytjmclmbepnbeoaa
open Go.ChangeShapes Go.WideShapes Go.ChangeAt Go.RowKit
/-- How a graph of one's own lies: its sizes, its blocks and the code of each in blocks of their own. -/
structure GOwn (w : World) (v : Array Value) (S : CRow) (b o : Nat) (cs : List CRow) : Prop where
  val : ∃ ads caps p q r adb capb, v = #[.slice ads S.n caps, .int .i64 p, .int .i64 q, .int .i64 r, .slice adb cs.length capb] ∧ (S.n = 0 ∨ ads = some ⟨S.b, S.o, none⟩) ∧ (cs = [] ∨ adb = some ⟨b, o, none⟩)
  srow : 0 < S.n → ∃ c T, w.heap[S.b]? = some (.cells c T (0, 0)) ∧ S.o + S.n ≤ c.size
  brow : cs ≠ [] → ∃ c T, w.heap[b]? = some (.cells c T (0, 0)) ∧ o + cs.length * 5 ≤ c.size
  codes : CodesIs w b o cs
  sb : 0 < S.n → cs ≠ [] → S.b ≠ b
  sc : 0 < S.n → ∀ i (h : i < cs.length), 0 < cs[i].n → S.b ≠ cs[i].b
/-- Its cells that are marked. -/
def grL (S : CRow) (b o : Nat) (cs : List CRow) : List Cel := intL S.b S.o S.n ++ blksL b o cs
theorem markIntS_zero (w : World) (ad : Option Addr) (cap k : Nat) :
    Calls Try.prog 36 #[.slice ad 0 cap, .int .i64 k] w fun en w' => en = .returned (.int .i64 (k : Int)) ∧ w' = w := by
  go_enter Try.func36, Try.ntmps36
  go_wp2
  go_loop [1, 5] (fun q i => i = .int .i64 0 ∧ q = .int .i64 (k : Int)) (fun _ _ => 0)
  case atStart => exact ⟨rfl, rfl⟩
  case round =>
    obtain ⟨rfl, rfl⟩ := hrel
    go_wp2
    go_ret
    exact ⟨rfl, rfl⟩
theorem heldIntS_zero (w : World) (ad : Option Addr) (cap k : Nat) :
    Calls Try.prog 38 #[.slice ad 0 cap, .int .i64 k] w fun en w' => en = .returned (.int .i64 (k : Int)) ∧ w' = w := by
  go_enter Try.func38, Try.ntmps38
  go_wp2
  go_loop [1, 5] (fun q i => i = .int .i64 0 ∧ q = .int .i64 (k : Int)) (fun _ _ => 0)
  case atStart => exact ⟨rfl, rfl⟩
  case round =>
    obtain ⟨rfl, rfl⟩ := hrel
    go_wp2
    go_ret
    exact ⟨rfl, rfl⟩
theorem markBlockS_zero (w : World) (ad : Option Addr) (cap k : Nat) :
    Calls Try.prog 37 #[.slice ad 0 cap, .int .i64 k] w fun en w' => en = .returned (.int .i64 (k : Int)) ∧ w' = w := by
  go_enter Try.func37, Try.ntmps37
  go_wp2
  go_loop [1, 5] (fun q i => i = .int .i64 0 ∧ q = .int .i64 (k : Int)) (fun _ _ => 0)
  case atStart => exact ⟨rfl, rfl⟩
  case round =>
    obtain ⟨rfl, rfl⟩ := hrel
    go_wp2
    go_ret
    exact ⟨rfl, rfl⟩
theorem heldBlockS_zero (w : World) (ad : Option Addr) (cap k : Nat) :
    Calls Try.prog 39 #[.slice ad 0 cap, .int .i64 k] w fun en w' => en = .returned (.int .i64 (k : Int)) ∧ w' = w := by
  go_enter Try.func39, Try.ntmps39
  go_wp2
  go_loop [1, 5] (fun q i => i = .int .i64 0 ∧ q = .int .i64 (k : Int)) (fun _ _ => 0)
  case atStart => exact ⟨rfl, rfl⟩
  case round =>
    obtain ⟨rfl, rfl⟩ := hrel
    go_wp2
    go_ret
    exact ⟨rfl, rfl⟩
theorem CodesIs.keep {w w' : World} {b o : Nat} {cs : List CRow} (h : CodesIs w b o cs) (hc : ∀ i, i < cs.length → w'.cell? ⟨b, o + i * 5, none⟩ = w.cell? ⟨b, o + i * 5, none⟩) (hp : ∀ (b : Nat) (c : Array Value) (T : TypeId), w.heap[b]? = some (.cells c T (0, 0)) → ∃ c' : Array Value, w'.heap[b]? = some (.cells c' T (0, 0)) ∧ c'.size = c.size) : CodesIs w' b o cs where
  cell := fun i hi => by obtain ⟨ad, cap, h1, h2⟩ := h.cell i hi; exact ⟨ad, cap, (hc i hi).trans h1, h2⟩
  row := fun i hi hn => by
    obtain ⟨c, T, h1, h2⟩ := h.row i hi hn
    obtain ⟨c', h3, h4⟩ := hp _ c T h1
    exact ⟨c', T, h3, by omega⟩
  own := h.own
  dis := h.dis
theorem CodesIs.blk_lt {w : World} {b o : Nat} {cs : List CRow} (h : CodesIs w b o cs) (hne : cs ≠ []) : b < w.heap.size := by
  have hl : 0 < cs.length := List.length_pos_iff.2 hne
  obtain ⟨ad, cap, h1, _⟩ := h.cell 0 hl
  exact World.block_lt_of_cell? w _ h1
set_option maxHeartbeats 4000000 in
theorem markGraph_mks (w : World) (k : Nat) (v : Array Value) (S : CRow) (b o : Nat) (cs : List CRow) (h : GOwn w v S b o cs) (hk0 : 0 < k) (hk : k + (grL S b o cs).length ≤ 100000000) :
    Calls Try.prog 12 #[.agg v, .int .i64 k] w fun en w' => en = .returned (.int .i64 ((k + (grL S b o cs).length : Nat) : Int)) ∧ Mks w w' (grL S b o cs) k := by
  obtain ⟨⟨ads, caps, p, q, r, adb, capb, rfl, hs, hb⟩, srow, brow, codes, hsb, hsc⟩ := h
  rw [grL, List.length_append, intL_len] at hk
  have hlen : (grL S b o cs).length = S.n + (blksL b o cs).length := by rw [grL, List.length_append, intL_len]
  have MS : Hid (∀ W, Below w.heap.size w W → Calls Try.prog 36 #[.slice ads S.n caps, .int .i64 k] W fun en w' => en = .returned (.int .i64 ((k + S.n : Nat) : Int)) ∧ Mks W w' (intL S.b S.o S.n) k) := fun W hW => by
    by_cases hn : S.n = 0
    · rw [hn]
      refine (markIntS_zero W ads caps k).mono ?_
      rintro e w' ⟨rfl, rfl⟩
      exact ⟨by simp, by simpa [intL] using Mks.nil _ k⟩
    · have e := hs.resolve_left hn
      subst e
      obtain ⟨c, T, hh, hz⟩ := srow (by omega)
      exact markIntS_mks S.n W k S.b S.o caps c T ((hW.block _ (Array.getElem?_eq_some_iff.1 hh).1).trans hh) (by omega) (by omega)
  have hLs : ∀ c ∈ intL S.b S.o S.n, c.1 < w.heap.size := fun c hc => by
    obtain ⟨b', o', t⟩ := c
    have h1 := intL_mem hc
    obtain ⟨c, T, hh, _⟩ := srow (by omega)
    simp only [h1.1]; exact (Array.getElem?_eq_some_iff.1 hh).1
  have MB : Hid (∀ W, Mks w W (intL S.b S.o S.n) k → Calls Try.prog 37 #[.slice adb cs.length capb, .int .i64 ((k + S.n : Nat) : Int)] W fun en w' => en = .returned (.int .i64 ((k + S.n + (blksL b o cs).length : Nat) : Int)) ∧ Mks W w' (blksL b o cs) (k + S.n)) := fun W hW => by
    by_cases hn : cs = []
    · subst hn
      refine (markBlockS_zero W adb capb (k + S.n)).mono ?_
      rintro e w' ⟨rfl, rfl⟩
      exact ⟨by simp [blksL], by simpa [blksL] using Mks.nil _ _⟩
    · have e := hb.resolve_left hn
      subst e
      obtain ⟨c, T, hh, hz⟩ := brow hn
      obtain ⟨c1, h1, s1⟩ := hW.plain b c T hh
      refine markBlockS_mks cs W (k + S.n) b o capb c1 T h1 (by omega) (codes.keep (fun i hi => hW.off b _ (Array.getElem?_eq_some_iff.1 hh).1 (fun t ht => ?_)) hW.plain) (by omega) (by omega)
      have h2 := intL_mem ht
      exact hsb (by omega) hn h2.1.symm
  have DIS : Hid (∀ b' o' t t', (b', o', t) ∈ intL S.b S.o S.n → (b', o', t') ∉ blksL b o cs) := fun b' o' t t' h1 h2 => by
    have h3 := intL_mem h1
    rcases blksL_mem h2 with ⟨i, hi, h4, h5⟩ | ⟨h4, i, hi, _⟩
    · exact hsc (by omega) i hi h5 (h3.1.symm.trans h4)
    · exact hsb (by omega) (fun e => by rw [e] at hi; simp at hi) (h3.1.symm.trans h4)
  have HLS := hideP hLs
  have HLN := hideP hlen
  obtain ⟨m1, hm1⟩ : ∃ m1, k + S.n = m1 := ⟨_, rfl⟩
  obtain ⟨m2, hm2⟩ : ∃ m2, m1 + (blksL b o cs).length = m2 := ⟨_, rfl⟩
  rw [hm1] at MS MB
  rw [hm2] at MB
  have FIN : Hid (k + (grL S b o cs).length = m2) := by show _ = _; rw [hlen]; omega
  have HM1 := hideP hm1
  obtain ⟨N, hN⟩ : ∃ N, cs.length = N := ⟨_, rfl⟩
  obtain ⟨sn, hsn⟩ : ∃ sn, S.n = sn := ⟨_, rfl⟩
  rw [hN] at MB ⊢
  rw [FIN.out]
  simp only [hsn] at MS ⊢
  clear hlen hLs hs hb srow brow codes hsb hsc hm1 hm2 hk hN
  go_enter Try.func12, Try.ntmps12
  go_wp2_with fail
  refine (MS.out _ ((Below.refl _ _).alloc (Nat.le_refl _) _)).mono ?_
  rintro y1 w1 ⟨rfl, mk1⟩
  have al := (Below.refl w.heap.size w).alloc (Nat.le_refl _) (.cells #[.slice ads sn caps, .int .i64 p, .int .i64 q, .int .i64 r, .slice adb N capb] 29)
  have M1 := ((Mks.nil w k).on al).append mk1 (by simp) (by simp)
  rw [List.nil_append] at M1
  have nb : (w.alloc (.cells #[.slice ads sn caps, .int .i64 p, .int .i64 q, .int .i64 r, .slice adb N capb] 29)).heap[w.heap.size]? = some (.cells #[.slice ads sn caps, .int .i64 p, .int .i64 q, .int .i64 r, .slice adb N capb] 29) := by show (w.heap.push _)[w.heap.size]? = _; exact Array.getElem?_push_size
  have hz : w.heap.size < (w.alloc (.cells #[.slice ads sn caps, .int .i64 p, .int .i64 q, .int .i64 r, .slice adb N capb] 29)).heap.size := by simp
  have p4 : w1.cell? ⟨w.heap.size, 4, none⟩ = some (.slice adb N capb) := by
    rw [mk1.off w.heap.size 4 hz (fun t ht => by
      have h1 := HLS.out (w.heap.size, 4, t) (by rw [hsn]; exact ht)
      exact Nat.lt_irrefl _ h1), (cells_of nb).1]
    rfl
  have HM := hideP M1
  clear mk1 M1 nb hz al
  rw [hsn] at HLS
  go_wp2_with fail
  refine (MB.out _ (by rw [hsn]; exact HM.out)).mono ?_
  rintro y2 w2 ⟨rfl, mk2⟩
  have M2 := hideP (HM.out.append (by rw [intL_len, ← hsn, HM1.out]; exact mk2) HLS.out (by have := DIS.out; rwa [hsn] at this))
  clear mk2 p4
  go_wp2
  go_ret
  exact ⟨rfl, by rw [grL, hsn]; exact M2.out⟩
end Go.Proofs.Ytjmclmbepnbeoaa

/- heldGraph finds again what markGraph has written. -/
namespace Go.Proofs.Ytjmclmbepnbeoaa
open Go.ChangeShapes Go.WideShapes Go.ChangeAt Go.RowKit
theorem GOwn.marked {w w' : World} {v : Array Value} {S : CRow} {b o k : Nat} {cs : List CRow} (h : GOwn w v S b o cs) (hm : Mks w w' (grL S b o cs) k) : GOwn w' v S b o cs where
  val := h.val
  srow := fun hn => by
    obtain ⟨c, T, h1, h2⟩ := h.srow hn
    obtain ⟨c', h3, h4⟩ := hm.plain _ c T h1
    exact ⟨c', T, h3, by omega⟩
  brow := fun hn => by
    obtain ⟨c, T, h1, h2⟩ := h.brow hn
    obtain ⟨c', h3, h4⟩ := hm.plain _ c T h1
    exact ⟨c', T, h3, by omega⟩
  codes := h.codes.keep (fun i hi => hm.off b _ (h.codes.blk_lt (fun e => by rw [e] at hi; simp at hi)) (fun t ht => by
    have hne : cs ≠ [] := fun e => by rw [e] at hi; simp at hi
    rcases List.mem_append.1 ht with ht | ht
    · have h1 := intL_mem ht
      exact h.sb (by omega) hne h1.1.symm
    · rcases blksL_mem ht with ⟨j, hj, h1, h2⟩ | ⟨_, j, hj, h2, h3⟩
      · exact h.codes.own j hj h2 h1.symm
      · omega)) hm.plain
  sb := h.sb
  sc := h.sc
theorem GOwn.stays {w w' : World} {v : Array Value} {S : CRow} {b o : Nat} {cs : List CRow} (h : GOwn w v S b o cs) (bel : Below w.heap.size w w') : GOwn w' v S b o cs where
  val := h.val
  srow := fun hn => by
    obtain ⟨c, T, h1, h2⟩ := h.srow hn
    exact ⟨c, T, (bel.block _ (Array.getElem?_eq_some_iff.1 h1).1).trans h1, h2⟩
  brow := fun hn => by
    obtain ⟨c, T, h1, h2⟩ := h.brow hn
    exact ⟨c, T, (bel.block _ (Array.getElem?_eq_some_iff.1 h1).1).trans h1, h2⟩
  codes := h.codes.keep (fun i hi => bel.cell (p := ⟨b, _, none⟩) (h.codes.blk_lt (fun e => by rw [e] at hi; simp at hi))) (fun b' c T hh => ⟨c, (bel.block _ (Array.getElem?_eq_some_iff.1 hh).1).trans hh, rfl⟩)
  sb := h.sb
  sc := h.sc
theorem HereIs.int {w : World} {b o n k : Nat} (h : HereIs w (intL b o n) k) (i : Nat) (hi : i < n) : w.cell? ⟨b, o + i, none⟩ = some (.int .i64 ((k + i : Nat) : Int)) := by
  have hl : i < (intL b o n).length := by rw [intL_len]; exact hi
  have h1 := h i hl
  have e : (intL b o n)[i] = (b, o + i, false) := by simp [intL]
  rw [e] at h1
  exact h1
set_option maxHeartbeats 4000000 in
theorem heldGraph_mks (w : World) (k : Nat) (v : Array Value) (S : CRow) (b o : Nat) (cs : List CRow) (h : GOwn w v S b o cs) (here : HereIs w (grL S b o cs) k) (hk0 : 0 < k) (hk : k + (grL S b o cs).length ≤ 100000000) :
    Calls Try.prog 13 #[.agg v, .int .i64 k] w fun en w' => en = .returned (.int .i64 ((k + (grL S b o cs).length : Nat) : Int)) ∧ Below w.heap.size w w' := by
  have hown := h
  obtain ⟨⟨ads, caps, p, q, r, adb, capb, rfl, hs, hb⟩, srow, brow, codes, hsb, hsc⟩ := h
  rw [grL, List.length_append, intL_len] at hk
  have hlen : (grL S b o cs).length = S.n + (blksL b o cs).length := by rw [grL, List.length_append, intL_len]
  have he1 : HereIs w (intL S.b S.o S.n) k := HereIs.left here
  have he2 : HereIs w (blksL b o cs) (k + S.n) := by have := HereIs.right here; rwa [intL_len] at this
  have MS : Hid (∀ W, Below w.heap.size w W → Calls Try.prog 38 #[.slice ads S.n caps, .int .i64 k] W fun en w' => en = .returned (.int .i64 ((k + S.n : Nat) : Int)) ∧ w' = W) := fun W hW => by
    by_cases hn : S.n = 0
    · rw [hn]
      refine (heldIntS_zero W ads caps k).mono ?_
      rintro e w' ⟨rfl, rfl⟩
      exact ⟨by simp, rfl⟩
    · have e := hs.resolve_left hn
      subst e
      exact heldIntS_mks S.n W k S.b S.o caps (fun i hi => (he1.stays hW).int i hi) (by omega)
  have MB : Hid (∀ W, Below w.heap.size w W → Calls Try.prog 39 #[.slice adb cs.length capb, .int .i64 ((k + S.n : Nat) : Int)] W fun en w' => en = .returned (.int .i64 ((k + S.n + (blksL b o cs).length : Nat) : Int)) ∧ Below W.heap.size W w') := fun W hW => by
    by_cases hn : cs = []
    · subst hn
      refine (heldBlockS_zero W adb capb (k + S.n)).mono ?_
      rintro e w' ⟨rfl, rfl⟩
      exact ⟨by simp [blksL], Below.refl _ _⟩
    · have e := hb.resolve_left hn
      subst e
      exact heldBlockS_mks cs W (k + S.n) b o capb (Nat.lt_of_lt_of_le (codes.blk_lt hn) hW.size) (hown.stays hW).codes (he2.stays hW) (by omega) (by omega)
  obtain ⟨m1, hm1⟩ : ∃ m1, k + S.n = m1 := ⟨_, rfl⟩
  obtain ⟨m2, hm2⟩ : ∃ m2, m1 + (blksL b o cs).length = m2 := ⟨_, rfl⟩
  rw [hm1] at MS MB
  rw [hm2] at MB
  have FIN : Hid (k + (grL S b o cs).length = m2) := by show _ = _; rw [hlen]; omega
  obtain ⟨N, hN⟩ : ∃ N, cs.length = N := ⟨_, rfl⟩
  obtain ⟨sn, hsn⟩ : ∃ sn, S.n = sn := ⟨_, rfl⟩
  rw [hN] at MB ⊢
  rw [FIN.out]
  simp only [hsn] at MS ⊢
  have n1 : ¬ ((m1 : Nat) : Int) < 0 := by omega
  have n2 : ¬ ((m2 : Nat) : Int) < 0 := by omega
  have nb : (w.alloc (.cells #[.slice ads sn caps, .int .i64 p, .int .i64 q, .int .i64 r, .slice adb N capb] 29)).heap[w.heap.size]? = some (.cells #[.slice ads sn caps, .int .i64 p, .int .i64 q, .int .i64 r, .slice adb N capb] 29) := by show (w.heap.push _)[w.heap.size]? = _; exact Array.getElem?_push_size
  have p4 := (cells_of nb).1 4
  simp at p4
  clear hlen hs hb srow brow codes hsb hsc hm1 hm2 hk hN hown he1 he2 nb here
  go_enter Try.func13, Try.ntmps13
  go_wp2_with fail
  refine (MS.out _ ((Below.refl _ _).alloc (Nat.le_refl _) _)).mono ?_
  rintro y1 w1 ⟨rfl, hw⟩
  have hw1 := hw.symm
  subst hw1
  clear hw
  go_wp2_with fail
  refine (MB.out _ ((Below.refl _ _).alloc (Nat.le_refl _) _)).mono ?_
  rintro y2 w2 ⟨rfl, bel2⟩
  have HB := hideP (below_new bel2)
  clear bel2 p4
  go_wp2
  go_ret
  exact ⟨rfl, HB.out⟩
end Go.Proofs.Ytjmclmbepnbeoaa

/- A graph that lies in blocks from B on outlives what happens below. -/
namespace Go.Proofs.Ytjmclmbepnbeoaa
open Go.ChangeShapes Go.WideShapes Go.ChangeAt Go.RowKit
theorem RowAt.above {w w' : World} {B : Nat} {a : Option Addr} {n sz : Nat} {vs : Nat → Array Value} (h : RowAt w B a n sz vs) (hz : w.heap.size ≤ w'.heap.size) (hk : ∀ k, B ≤ k → k < w.heap.size → w'.heap[k]? = w.heap[k]?) : RowAt w' B a n sz vs := by
  rcases h with h | ⟨b, o, ha, hB, hb, hp, hc⟩
  · exact Or.inl h
  · exact Or.inr ⟨b, o, ha, hB, Nat.lt_of_lt_of_le hb hz, fun h0 => let ⟨cs, T, h⟩ := hp h0; ⟨cs, T, (hk b hB hb).trans h⟩, fun i hi => ⟨(hc i hi).1, fun j hj => (World.cell?_of_block (a := ⟨b, o + i * sz + j, none⟩) (hk b hB hb)).trans ((hc i hi).2 j hj)⟩⟩
theorem IntsIs.above {w w' : World} {B : Nat} {a : Option Addr} {zs : List Int} (h : IntsIs w B a zs) (hz : w.heap.size ≤ w'.heap.size) (hk : ∀ k, B ≤ k → k < w.heap.size → w'.heap[k]? = w.heap[k]?) : IntsIs w' B a zs := by
  obtain ⟨hl, h | ⟨b, o, ha, hB, hb, hp, hc⟩⟩ := h
  · exact ⟨hl, Or.inl h⟩
  · exact ⟨hl, Or.inr ⟨b, o, ha, hB, Nat.lt_of_lt_of_le hb hz, fun h0 => let ⟨cs, T, h⟩ := hp h0; ⟨cs, T, (hk b hB hb).trans h⟩, fun i hi => (World.cell?_of_block (a := ⟨b, o + i, none⟩) (hk b hB hb)).trans (hc i hi)⟩⟩
theorem BlkIs.above {w w' : World} {B : Nat} {v : Array Value} {x : Blk} (h : BlkIs w B v x) (hz : w.heap.size ≤ w'.heap.size) (hk : ∀ k, B ≤ k → k < w.heap.size → w'.heap[k]? = w.heap[k]?) : BlkIs w' B v x := by
  obtain ⟨u, c, e, ok, hl, vs, hr, hx⟩ := h
  exact ⟨u, c, e, ok, hl, vs, hr.above hz hk, hx⟩
theorem GrIs.above {w w' : World} {B : Nat} {v : Array Value} {x : Gr} (h : GrIs w B v x) (hz : w.heap.size ≤ w'.heap.size) (hk : ∀ k, B ≤ k → k < w.heap.size → w'.heap[k]? = w.heap[k]?) : GrIs w' B v x := by
  obtain ⟨u, c, ub, cb, e, ok, hs, hl, vs, hr, hx⟩ := h
  exact ⟨u, c, ub, cb, e, ok, hs.above hz hk, hl, vs, hr.above hz hk, fun i hi => (hx i hi).above hz hk⟩
theorem GOwn.mem {w : World} {v : Array Value} {S : CRow} {b o : Nat} {cs : List CRow} (_h : GOwn w v S b o cs) : (0 < S.n → (S.b, S.o, false) ∈ grL S b o cs) ∧ (cs ≠ [] → ∃ p, (b, p, false) ∈ grL S b o cs) ∧ ∀ i (h : i < cs.length), 0 < cs[i].n → ∃ p t, (cs[i].b, p, t) ∈ grL S b o cs := by
  have hi : ∀ (p : Nat) (l : List CRow) i (h : i < l.length), (∃ q, (b, q, false) ∈ blksL b p l) ∧ (0 < l[i].n → ∃ q t, (l[i].b, q, t) ∈ blksL b p l) := fun p l => by
    induction l generalizing p with
    | nil => intro i h; simp at h
    | cons c l ih =>
      intro i h
      have h1 : (b, p + 1, false) ∈ blksL b p (c :: l) := List.mem_append_left _ (List.mem_append_right _ (by simp [celL]))
      refine ⟨⟨_, h1⟩, fun hn => ?_⟩
      cases i with
      | zero =>
        simp only [List.getElem_cons_zero] at hn ⊢
        refine ⟨c.o, false, List.mem_append_left _ (List.mem_append_left _ ?_)⟩
        rw [insL, List.mem_flatMap]
        exact ⟨0, by simpa using hn, by simp [ins1, celL]⟩
      | succ i =>
        simp only [List.getElem_cons_succ] at hn ⊢
        obtain ⟨q, t, hq⟩ := (ih (p + 5) i (by simpa using h)).2 hn
        exact ⟨q, t, List.mem_append_right _ hq⟩
  refine ⟨fun hn => List.mem_append_left _ ?_, fun hne => ?_, fun i h hn => ?_⟩
  · simp only [intL, List.mem_map, List.mem_range]
    exact ⟨0, hn, by simp⟩
  · obtain ⟨q, hq⟩ := (hi o cs 0 (List.length_pos_iff.2 hne)).1
    exact ⟨q, List.mem_append_right _ hq⟩
  · obtain ⟨q, t, hq⟩ := (hi o cs i h).2 hn
    exact ⟨q, t, List.mem_append_right _ hq⟩
theorem GOwn.above {w w' : World} {v : Array Value} {S : CRow} {b o B : Nat} {cs : List CRow} (h : GOwn w v S b o cs) (low : ∀ c ∈ grL S b o cs, B ≤ c.1) (hk : ∀ k, B ≤ k → k < w.heap.size → w'.heap[k]? = w.heap[k]?) : GOwn w' v S b o cs := by
  obtain ⟨m1, m2, m3⟩ := h.mem
  refine ⟨h.val, fun hn => ?_, fun hn => ?_, ⟨fun i hi => ?_, fun i hi hn => ?_, h.codes.own, h.codes.dis⟩, h.sb, h.sc⟩
  · obtain ⟨c, T, h1, h2⟩ := h.srow hn
    exact ⟨c, T, (hk _ (low _ (m1 hn)) (Array.getElem?_eq_some_iff.1 h1).1).trans h1, h2⟩
  · obtain ⟨c, T, h1, h2⟩ := h.brow hn
    obtain ⟨p, hp⟩ := m2 hn
    exact ⟨c, T, (hk _ (low _ hp) (Array.getElem?_eq_some_iff.1 h1).1).trans h1, h2⟩
  · obtain ⟨ad, cap, h1, h2⟩ := h.codes.cell i hi
    have hne : cs ≠ [] := fun e => by rw [e] at hi; simp at hi
    obtain ⟨p, hp⟩ := m2 hne
    exact ⟨ad, cap, (World.cell?_of_block (a := ⟨b, _, none⟩) (hk b (low _ hp) (h.codes.blk_lt hne))).trans h1, h2⟩
  · obtain ⟨c, T, h1, h2⟩ := h.codes.row i hi hn
    obtain ⟨p, t, hp⟩ := m3 i hi hn
    exact ⟨c, T, (hk _ (low _ hp) (Array.getElem?_eq_some_iff.1 h1).1).trans h1, h2⟩
end Go.Proofs.Ytjmclmbepnbeoaa
