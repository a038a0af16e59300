/- Marks that are written one behind another into a list of cells, and are there behind it. -/
import Derived.Test.YtpkfbabgcinhhaaDoorMkAll
import Derived.Test.YtpkfbabgcinhhaaDoorCkA
import Derived.Deep.LoopGhost
import Derived.Deep.RegionHeld3
namespace Go.Proofs.YtpkfbabgcinhhaaDoor
open Go.ChangeShapes Go.WideShapes Go.ChangeAt Go.RowKit
/-- A cell: its block, where it lies there, whether it holds a text. -/
abbrev Cel := Nat × Nat × Bool
def mkV (k : Nat) (t : Bool) : Value := if t then .string (markS k) else .int .i64 (k : Int)
theorem mkV_int (k : Nat) : mkV k false = .int .i64 (k : Int) := rfl
theorem mkV_str (k : Nat) : mkV k true = .string (markS k) := rfl
/-- w' is w but for the cells of L, which hold the marks from k on, and for new blocks. -/
structure Mks (w w' : World) (L : List Cel) (k : Nat) : Prop where
  os : w'.os = w.os
  tape : w'.tape = w.tape
  output : w'.output = w.output
  size : w.heap.size ≤ w'.heap.size
  here : ∀ (i : Nat) (h : i < L.length), w'.cell? ⟨L[i].1, L[i].2.1, none⟩ = some (mkV (k + i) L[i].2.2)
  off : ∀ (b o : Nat), b < w.heap.size → (∀ t, (b, o, t) ∉ L) → w'.cell? ⟨b, o, none⟩ = w.cell? ⟨b, o, none⟩
  fz : ∀ (b o : Nat), b < w.heap.size → w'.frozen? ⟨b, o, none⟩ = w.frozen? ⟨b, o, none⟩
  blk : ∀ (b : Nat), b < w.heap.size → (∀ o t, (b, o, t) ∉ L) → w'.heap[b]? = w.heap[b]?
  plain : ∀ (b : Nat) (c : Array Value) (T : TypeId), w.heap[b]? = some (.cells c T (0, 0)) → ∃ c' : Array Value, w'.heap[b]? = some (.cells c' T (0, 0)) ∧ c'.size = c.size
theorem Mks.nil (w : World) (k : Nat) : Mks w w [] k := ⟨rfl, rfl, rfl, Nat.le_refl _, fun _ h => absurd h (Nat.not_lt_zero _), fun _ _ _ _ => rfl, fun _ _ _ => rfl, fun _ _ _ => rfl, fun _ c _ h => ⟨c, h, rfl⟩⟩
theorem Mks.on {w w1 w2 : World} {L : List Cel} {k : Nat} (h : Mks w w1 L k) (bel : Below w1.heap.size w1 w2) : Mks w w2 L k where
  os := bel.os.trans h.os
  tape := bel.tape.trans h.tape
  output := bel.output.trans h.output
  size := Nat.le_trans h.size bel.size
  here := fun i hi => (bel.cell (p := ⟨L[i].1, L[i].2.1, none⟩) (World.block_lt_of_cell? w1 _ (h.here i hi))).trans (h.here i hi)
  off := fun b o hb hn => (bel.cell (p := ⟨b, o, none⟩) (Nat.lt_of_lt_of_le hb h.size)).trans (h.off b o hb hn)
  fz := fun b o hb => (bel.frozen (p := ⟨b, o, none⟩) (Nat.lt_of_lt_of_le hb h.size)).trans (h.fz b o hb)
  blk := fun b hb hn => (bel.block b (Nat.lt_of_lt_of_le hb h.size)).trans (h.blk b hb hn)
  plain := fun b c T hh => by
    obtain ⟨c', h', hs⟩ := h.plain b c T hh
    exact ⟨c', (bel.block b (Array.getElem?_eq_some_iff.1 h').1).trans h', hs⟩
theorem Mks.append {w w1 w2 : World} {L1 L2 : List Cel} {k : Nat} (h1 : Mks w w1 L1 k) (h2 : Mks w1 w2 L2 (k + L1.length)) (hb : ∀ c ∈ L1, c.1 < w.heap.size) (hd : ∀ b o t t', (b, o, t) ∈ L1 → (b, o, t') ∉ L2) : Mks w w2 (L1 ++ L2) k where
  os := h2.os.trans h1.os
  tape := h2.tape.trans h1.tape
  output := h2.output.trans h1.output
  size := Nat.le_trans h1.size h2.size
  here := fun i hi => by
    rw [List.length_append] at hi
    by_cases hl : i < L1.length
    · rw [List.getElem_append_left hl]
      have hm : L1[i] ∈ L1 := List.getElem_mem hl
      have hlt := hb _ hm
      refine (h2.off _ _ (Nat.lt_of_lt_of_le hlt h1.size) (fun t => hd _ _ L1[i].2.2 t ?_)).trans (h1.here i hl)
      exact hm
    · rw [List.getElem_append_right (by omega)]
      have := h2.here (i - L1.length) (by omega)
      rw [show k + L1.length + (i - L1.length) = k + i by omega] at this
      exact this
  off := fun b o hbl hn => (h2.off b o (Nat.lt_of_lt_of_le hbl h1.size) (fun t ht => hn t (List.mem_append_right _ ht))).trans (h1.off b o hbl (fun t ht => hn t (List.mem_append_left _ ht)))
  fz := fun b o hbl => (h2.fz b o (Nat.lt_of_lt_of_le hbl h1.size)).trans (h1.fz b o hbl)
  blk := fun b hbl hn => (h2.blk b (Nat.lt_of_lt_of_le hbl h1.size) (fun o t ht => hn o t (List.mem_append_right _ ht))).trans (h1.blk b hbl (fun o t ht => hn o t (List.mem_append_left _ ht)))
  plain := fun b c T hh => by
    obtain ⟨c1, g1, s1⟩ := h1.plain b c T hh
    obtain ⟨c2, g2, s2⟩ := h2.plain b c1 T g1
    exact ⟨c2, g2, s2.trans s1⟩
/-- One cell. -/
theorem Mks.one {w : World} {b o k : Nat} {t : Bool} {c : Array Value} {T : TypeId} (hh : w.heap[b]? = some (.cells c T (0, 0))) (ho : o < c.size) : Mks w (w.setCell ⟨b, o, none⟩ (mkV k t)) [(b, o, t)] k where
  os := rfl
  tape := rfl
  output := rfl
  size := by simp [World.setCell]
  here := fun i hi => by
    have : i = 0 := by simpa using hi
    subst this
    have h2 := heap_setCell_same w b o c T (mkV k t) hh
    show World.cell? _ ⟨b, o, none⟩ = _
    rw [(cells_of h2).1, Array.getElem?_setIfInBounds, if_pos rfl, if_pos ho]; rfl
  off := fun b' o' hb hn => by
    by_cases e : b' = b
    · subst e
      have h2 := heap_setCell_same w b' o c T (mkV k t) hh
      have hne : o ≠ o' := fun e => hn t (by subst e; simp)
      rw [(cells_of h2).1, (cells_of hh).1, Array.getElem?_setIfInBounds, if_neg hne]
    · exact World.cell?_of_block (a := ⟨b', o', none⟩) (Below.heap_setCell w ⟨b, o, none⟩ _ b' e)
  fz := fun b' o' hb => by
    by_cases e : b' = b
    · subst e
      have h2 := heap_setCell_same w b' o c T (mkV k t) hh
      rw [(cells_of h2).2, (cells_of hh).2]
    · exact World.frozen?_of_block (a := ⟨b', o', none⟩) (Below.heap_setCell w ⟨b, o, none⟩ _ b' e)
  blk := fun b' hb hn => Below.heap_setCell w ⟨b, o, none⟩ _ b' (fun e => hn o t (by subst e; simp))
  plain := fun b' c' T' h' => by
    by_cases e : b' = b
    · subst e
      rw [hh] at h'
      cases h'
      exact ⟨_, heap_setCell_same w b' o c T (mkV k t) hh, by simp⟩
    · exact ⟨c', (Below.heap_setCell w ⟨b, o, none⟩ _ b' e).trans h', rfl⟩
/-- One cell more, in the same world. -/
theorem Mks.push {w w1 : World} {L : List Cel} {k b o : Nat} {t : Bool} {c : Array Value} {T : TypeId} (h : Mks w w1 L k) (hL : ∀ c ∈ L, c.1 < w.heap.size) (hh : w.heap[b]? = some (.cells c T (0, 0))) (ho : o < c.size) (hn : ∀ t', (b, o, t') ∉ L) : Mks w (w1.setCell ⟨b, o, none⟩ (mkV (k + L.length) t)) (L ++ [(b, o, t)]) k := by
  obtain ⟨c1, h1, s1⟩ := h.plain b c T hh
  refine h.append (Mks.one h1 (by omega)) hL (fun b' o' t1 t2 hm h2 => ?_)
  have e : b' = b ∧ o' = o := by simp at h2; exact ⟨h2.1, h2.2.1⟩
  obtain ⟨rfl, rfl⟩ := e
  exact hn t1 hm
/-- The same, the value as the walk has it. -/
theorem Mks.pushV {w w1 : World} {L : List Cel} {k b o : Nat} {t : Bool} {c : Array Value} {T : TypeId} {v : Value} (h : Mks w w1 L k) (hL : ∀ c ∈ L, c.1 < w.heap.size) (hh : w.heap[b]? = some (.cells c T (0, 0))) (ho : o < c.size) (hn : ∀ t', (b, o, t') ∉ L) (hv : v = mkV (k + L.length) t) : Mks w (w1.setCell ⟨b, o, none⟩ v) (L ++ [(b, o, t)]) k := by
  subst hv; exact h.push hL hh ho hn
theorem Mks.below {w w' : World} {L : List Cel} {k B : Nat} (h : Mks w w' L k) (hL : ∀ c ∈ L, B ≤ c.1) (hB : B ≤ w.heap.size) : Below B w w' :=
  ⟨h.os, h.tape, h.output, h.size, fun b hb => h.blk b (by omega) (fun o t hm => by have := hL _ hm; simp at this; omega)⟩
end Go.Proofs.YtpkfbabgcinhhaaDoor

/- Marks into cells that stand one behind another. -/
namespace Go.Proofs.YtpkfbabgcinhhaaDoor
open Go.ChangeShapes Go.WideShapes Go.ChangeAt Go.RowKit
def celL (b : Nat) : Nat → List Bool → List Cel
  | _, [] => []
  | p, t :: ts => (b, p, t) :: celL b (p + 1) ts
theorem celL_mem {b b' o' : Nat} {t' : Bool} : ∀ {p : Nat} {ts : List Bool}, (b', o', t') ∈ celL b p ts → b' = b ∧ p ≤ o' ∧ o' < p + ts.length
  | _, [], h => by simp [celL] at h
  | p, t :: ts, h => by
    rcases List.mem_cons.1 h with h | h
    · simp at h; simp; omega
    · have := celL_mem h; simp; omega
theorem Mks.sets {w : World} {b k : Nat} {c : Array Value} {T : TypeId} (hh : w.heap[b]? = some (.cells c T (0, 0))) : ∀ (ts : List Bool) (vs : List Value) (L : List Cel) (w1 : World) (p : Nat), Mks w w1 L k → (∀ c ∈ L, c.1 < w.heap.size) → ts.length = vs.length → (∀ r (h : r < vs.length) (h' : r < ts.length), vs[r] = mkV (k + L.length + r) ts[r]) → (∀ r t', r < ts.length → (b, p + r, t') ∉ L) → p + ts.length ≤ c.size → Mks w (Go.Proofs.YtpkfbabgcinhhaaDoor.sets b w1 p vs) (L ++ celL b p ts) k
  | [], [], L, w1, p, h, _, _, _, _, _ => by simpa [Go.Proofs.YtpkfbabgcinhhaaDoor.sets, celL] using h
  | [], v :: vs, _, _, _, _, _, hl, _, _, _ => by simp at hl
  | t :: ts, [], _, _, _, _, _, hl, _, _, _ => by simp at hl
  | t :: ts, v :: vs, L, w1, p, h, hL, hl, hv, hn, hs => by
    have hb : b < w.heap.size := (Array.getElem?_eq_some_iff.1 hh).1
    have h1 := h.pushV (o := p) (t := t) (v := v) hL hh (by simp at hs; omega) (fun t' => by have := hn 0 t' (by simp); simpa using this) (by have := hv 0 (by simp) (by simp); simpa using this)
    have := Mks.sets hh ts vs (L ++ [(b, p, t)]) _ (p + 1) h1 (fun c hc => by
      rcases List.mem_append.1 hc with hc | hc
      · exact hL c hc
      · rw [List.mem_singleton.1 hc]; exact hb) (by simpa using hl) (fun r hr hr' => by
        have := hv (r + 1) (by simpa using hr) (by simpa using hr')
        rw [List.length_append]
        simp only [List.getElem_cons_succ] at this
        rw [this]
        congr 1
        simp; omega) (fun r t' hr hm => by
        rcases List.mem_append.1 hm with hm | hm
        · exact hn (r + 1) t' (by simpa using hr) (by rw [show p + (r + 1) = p + 1 + r by omega]; exact hm)
        · simp at hm; omega) (by simp at hs; omega)
    rw [List.append_assoc] at this
    exact this
end Go.Proofs.YtpkfbabgcinhhaaDoor

/- The laws' marks on rows of numbers and of steps that a call owns: what they write, and that they find it again. -/
namespace Go.Proofs.YtpkfbabgcinhhaaDoor
open Go.ChangeShapes Go.WideShapes Go.ChangeAt Go.RowKit
/-- The cells of a row of n numbers. -/
def intL (b o n : Nat) : List Cel := (List.range n).map fun i => (b, o + i, false)
theorem intL_len (b o n : Nat) : (intL b o n).length = n := by simp [intL]
theorem intL_mem {b o n b' o' : Nat} {t : Bool} (h : (b', o', t) ∈ intL b o n) : b' = b ∧ o ≤ o' ∧ o' < o + n := by
  simp only [intL, List.mem_map, List.mem_range, Prod.mk.injEq] at h
  obtain ⟨i, hi, rfl, rfl, _⟩ := h
  exact ⟨rfl, by omega, by omega⟩
theorem intL_succ (b o n : Nat) : intL b o (n + 1) = intL b o n ++ [(b, o + n, false)] := by simp [intL, List.range_succ]
/-- The cells of a row of n steps. -/
def ins1 (b p : Nat) : List Cel := celL b p [false, false, false, false, false, false] ++ [(b, p + 6, true)]
def insL (b o n : Nat) : List Cel := (List.range n).flatMap fun i => ins1 b (o + i * 7)
theorem insL_succ (b o n : Nat) : insL b o (n + 1) = insL b o n ++ ins1 b (o + n * 7) := by simp [insL, List.range_succ]
theorem insL_len (b o : Nat) : ∀ n, (insL b o n).length = n * 7
  | 0 => rfl
  | n + 1 => by rw [insL_succ, List.length_append, insL_len b o n]; simp [ins1, celL]; omega
theorem insL_mem {b o b' o' : Nat} {t : Bool} : ∀ {n : Nat}, (b', o', t) ∈ insL b o n → b' = b ∧ o ≤ o' ∧ o' < o + n * 7
  | 0, h => by simp [insL] at h
  | n + 1, h => by
    rw [insL_succ] at h
    rcases List.mem_append.1 h with h | h
    · obtain ⟨h1, h2, h3⟩ := insL_mem h
      exact ⟨h1, h2, by omega⟩
    · rcases List.mem_append.1 h with h | h
      · have := celL_mem h; simp at this; omega
      · simp at h; omega
set_option maxHeartbeats 1000000 in
theorem markIntS_mks (n : Nat) (w : World) (k b o cap : Nat) (c : Array Value) (T : TypeId) (hh : w.heap[b]? = some (.cells c T (0, 0))) (hs : o + n ≤ c.size) (hk : k + n ≤ 100000000) :
    Calls Tryd.prog 14 #[.slice (some ⟨b, o, none⟩) n cap, .int .i64 k] w fun en w' => en = .returned (.int .i64 ((k + n : Nat) : Int)) ∧ Mks w w' (intL b o n) k := by
  have hb : b < w.heap.size := (Array.getElem?_eq_some_iff.1 hh).1
  have HH := hideP hh
  clear hh
  go_enter Tryd.func14, Tryd.ntmps14
  go_wp2
  go_loopg [1, 5] n (fun gk q i wr => ∃ j m : Nat, gk + j = n ∧ i = .int .i64 j ∧ q = .int .i64 m ∧ Hid (m = k + j) ∧ Hid (Mks w wr (intL b o j) k))
  case atStart => exact ⟨0, k, by simp, rfl, rfl, rfl, Mks.nil w k⟩
  case round =>
    obtain ⟨j, m, hgk, rfl, rfl, hmk, hm⟩ := hrel
    by_cases hlt : j < n
    · obtain ⟨c1, h1, s1⟩ := hm.out.plain b c T HH.out
      have c0 : wr.cell? ⟨b, o + j, none⟩ = some c1[o + j] := by rw [(cells_of h1).1]; exact Array.getElem?_eq_getElem (by omega)
      have f0 := (cells_of h1).2 (o + j)
      have hmk' := hmk.out
      have hm1 : m + 1 ≤ 100000001 := by omega
      have M1 : Hid (Mks w (wr.setCell ⟨b, o + j, none⟩ (.int .i64 (m : Int))) (intL b o (j + 1)) k) := by
        rw [intL_succ]
        exact hm.out.pushV (fun c hc => by obtain ⟨b', o', t⟩ := c; have := intL_mem hc; simp; omega) HH.out (by omega) (fun t' ht => by have := intL_mem ht; omega) (by rw [mkV_int, intL_len, hmk'])
      clear h1 hmk'
      go_wp2
      go_roundg (n - (j + 1))
      case rel => exact ⟨j + 1, m + 1, by omega, by go_num, by go_num, show _ = _ by rw [hmk.out]; omega, M1⟩
      case measure => omega
    · have hjn : j = n := by omega
      subst hjn
      go_wp2
      go_ret
      exact ⟨ret_int (by rw [hmk.out]), hm.out⟩
set_option maxHeartbeats 1000000 in
theorem heldIntS_mks (n : Nat) (w : World) (k b o cap : Nat) (hc : ∀ i, i < n → w.cell? ⟨b, o + i, none⟩ = some (.int .i64 ((k + i : Nat) : Int))) (hk : k + n ≤ 100000000) :
    Calls Tryd.prog 28 #[.slice (some ⟨b, o, none⟩) n cap, .int .i64 k] w fun en w' => en = .returned (.int .i64 ((k + n : Nat) : Int)) ∧ w' = w := by
  have HC := hideP hc
  clear hc
  go_enter Tryd.func28, Tryd.ntmps28
  go_wp2
  go_loop [1, 5] (fun q i => ∃ j : Nat, j ≤ n ∧ i = .int .i64 j ∧ q = .int .i64 ((k + j : Nat) : Int)) (fun _ i => n - (intOf i).toNat)
  case atStart => exact ⟨0, Nat.zero_le _, rfl, rfl⟩
  case round =>
    obtain ⟨j, hj, rfl, rfl⟩ := hrel
    by_cases hlt : j < n
    · have hu := HC.out j hlt
      go_wp2
      go_round
      case rel => exact ⟨j + 1, by omega, by go_num, by go_num⟩
      case measure => simp [intOf]; omega
    · have hjn : j = n := by omega
      subst hjn
      go_wp2
      go_ret
      exact ⟨rfl, rfl⟩
end Go.Proofs.YtpkfbabgcinhhaaDoor
