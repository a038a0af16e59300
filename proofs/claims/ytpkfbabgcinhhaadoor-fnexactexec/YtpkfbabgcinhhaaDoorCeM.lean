/- Ends as a call answers them: a list that may be empty and lie anywhere then; the laws' marks on it. -/
import Derived.Test.YtpkfbabgcinhhaaDoorEnds
import Derived.Test.YtpkfbabgcinhhaaDoorMkAll
namespace Go.Proofs.YtpkfbabgcinhhaaDoor
open Go.ChangeShapes Go.WideShapes Go.ChangeAt Go.RowKit
/-- A list of numbers that is empty, or lies in a block of its own among those from lo to hi. -/
def LiZ (w : World) (lo hi : Nat) (v : Value) (l : List Int) : Prop :=
  ∃ a c, v = .slice a l.length c ∧ l.length ≤ maxLen ∧ (l.length = 0 ∨ ∃ (g : Nat) (cur : Array Value), a = some ⟨g, 0, none⟩ ∧ lo ≤ g ∧ g < hi ∧ w.heap[g]? = some (.cells cur 3 (0, 0)) ∧ ∀ (i : Nat) (h : i < l.length), cur[i]? = some (.int .i64 l[i]))
theorem LiZ.keep {w w' : World} {lo hi : Nat} {v : Value} {l : List Int} (h : LiZ w lo hi v l) (hk : ∀ g, lo ≤ g → g < hi → g < w.heap.size → w'.heap[g]? = w.heap[g]?) : LiZ w' lo hi v l := by
  obtain ⟨a, c, e, hl, h0 | ⟨g, cur, ea, h1, h2, hh, hx⟩⟩ := h
  · exact ⟨a, c, e, hl, Or.inl h0⟩
  · exact ⟨a, c, e, hl, Or.inr ⟨g, cur, ea, h1, h2, (hk g h1 h2 (Array.getElem?_eq_some_iff.1 hh).1).trans hh, hx⟩⟩
theorem LiZ.stays {w w' : World} {lo hi : Nat} {v : Value} {l : List Int} (h : LiZ w lo hi v l) (bel : Below w.heap.size w w') : LiZ w' lo hi v l := h.keep fun g _ _ hg => bel.block g hg
theorem LiZ.mono {w : World} {lo hi lo' hi' : Nat} {v : Value} {l : List Int} (h : LiZ w lo hi v l) (h1 : lo' ≤ lo) (h2 : hi ≤ hi') : LiZ w lo' hi' v l := by
  obtain ⟨a, c, e, hl, h0 | ⟨g, cur, ea, h3, h4, hh, hx⟩⟩ := h
  · exact ⟨a, c, e, hl, Or.inl h0⟩
  · exact ⟨a, c, e, hl, Or.inr ⟨g, cur, ea, by omega, by omega, hh, hx⟩⟩
theorem LiZ.ints {w : World} {lo hi : Nat} {v : Value} {l : List Int} (h : LiZ w lo hi v l) : ∃ a c, v = .slice a l.length c ∧ IntsIs w lo a l := by
  obtain ⟨a, c, e, hl, h0 | ⟨g, cur, ea, h3, h4, hh, hx⟩⟩ := h
  · exact ⟨a, c, e, hl, Or.inl h0⟩
  · exact ⟨a, c, e, hl, Or.inr ⟨g, 0, ea, h3, (Array.getElem?_eq_some_iff.1 hh).1, fun _ => ⟨cur, _, hh⟩, fun i hi' => by rw [(cells_of hh).1, Nat.zero_add]; exact hx i hi'⟩⟩
/-- A block of another type written: the list stays. -/
theorem LiZ.but {w w' : World} {lo hi b : Nat} {v : Value} {l : List Int} {c : Array Value} {T : TypeId} (h : LiZ w lo hi v l) (hb : w.heap[b]? = some (.cells c T (0, 0))) (hT : T ≠ 3) (k : But b w w') : LiZ w' lo hi v l := by
  obtain ⟨a, c, e, hl, h0 | ⟨g, cur, ea, h1, h2, hh, hx⟩⟩ := h
  · exact ⟨a, c, e, hl, Or.inl h0⟩
  · refine ⟨a, c, e, hl, Or.inr ⟨g, cur, ea, h1, h2, (k.block g (Array.getElem?_eq_some_iff.1 hh).1 (fun e => ?_)).trans hh, hx⟩⟩
    subst e
    rw [hh] at hb
    injection hb with hb
    injection hb with _ ht _
    exact hT ht.symm
set_option maxHeartbeats 1000000 in
theorem markIntS_z (l : List Int) (w : World) (lo hi k : Nat) (v : Value) (h : LiZ w lo hi v l) (hk : k + l.length ≤ 100000000) :
    Calls Tryd.prog 14 #[v, .int .i64 k] w fun en w' => en = .returned (.int .i64 ((k + l.length : Nat) : Int)) ∧ LiZ w' lo hi v (marksI k l.length) ∧ Over lo hi w w' := by
  obtain ⟨a, c, rfl, hl, hz⟩ := h
  have hM := maxLen_lt
  have HZ := hideP hz
  clear hz
  obtain ⟨N, hN⟩ : ∃ N, l.length = N := ⟨_, rfl⟩
  have HN := hideP hN
  rw [hN] at hl hk ⊢
  clear hN
  go_enter Tryd.func14, Tryd.ntmps14
  go_wp2
  go_loopw [1, 5] (fun q i wr => ∃ j : Nat, j ≤ N ∧ i = .int .i64 j ∧ q = .int .i64 ((k + j : Nat) : Int) ∧ Hid (Over lo hi w wr) ∧ Hid (N = 0 ∨ ∃ (g : Nat) (cur : Array Value), a = some ⟨g, 0, none⟩ ∧ lo ≤ g ∧ g < hi ∧ wr.heap[g]? = some (.cells cur 3 (0, 0)) ∧ N ≤ cur.size ∧ (∀ (r : Nat), r < N → ∃ z : Int, cur[r]? = some (.int .i64 z)) ∧ ∀ (r : Nat), r < j → cur[r]? = some (.int .i64 ((k + r : Nat) : Int)))) (fun _ i _ => N - (intOf i).toNat)
  case atStart =>
    refine ⟨0, Nat.zero_le _, rfl, rfl, Over.refl _ _ _, ?_⟩
    rcases HZ.out with h0 | ⟨g, cur, ea, h1, h2, hh, hx⟩
    · exact Or.inl (by have := HN.out; omega)
    · refine Or.inr ⟨g, cur, ea, h1, h2, hh, ?_, fun r hr => ⟨_, hx r (by have := HN.out; omega)⟩, fun r hr => absurd hr (Nat.not_lt_zero _)⟩
      have := HN.out
      rcases Nat.lt_or_ge cur.size N with hlt | hge
      · exfalso
        have := hx cur.size (by omega)
        simp at this
      · exact hge
  case round =>
    obtain ⟨j, hj, rfl, rfl, ho, hb⟩ := hrel
    by_cases hlt : j < N
    · rcases hb.out with h0 | ⟨g, cur, rfl, h1, h2, hh, hs, hi, hx⟩
      · omega
      obtain ⟨z, hju⟩ := hi j hlt
      have c0 : wr.cell? ⟨g, j, none⟩ = some (.int .i64 z) := by rw [(cells_of hh).1]; exact hju
      have f0 := (cells_of hh).2 j
      have C : Hid (wr.heap[g]? = some (.cells cur 3 (0, 0)) ∧ N ≤ cur.size ∧ (∀ (r : Nat), r < N → ∃ z : Int, cur[r]? = some (.int .i64 z)) ∧ ∀ (r : Nat), r < j → cur[r]? = some (.int .i64 ((k + r : Nat) : Int))) := ⟨hh, hs, hi, hx⟩
      have J := hideP hju
      clear hh hs hi hx hb hju
      go_wp2
      go_roundw
      case rel =>
        refine ⟨j + 1, by omega, by go_num, by go_num, ho.out.trans ((Over.refl lo hi wr).set h1 h2 C.out.1 J.out (Like.ints ⟨_, rfl⟩ _)), Or.inr ⟨g, _, rfl, h1, h2, heap_setCell_same _ g _ _ _ _ C.out.1, by simpa using C.out.2.1, fun i hi' => ?_, fun r hr => ?_⟩⟩
        · rw [Array.getElem?_setIfInBounds]
          by_cases he : j = i
          · subst he; rw [if_pos rfl, if_pos (by have := C.out.2.1; omega)]; exact ⟨_, rfl⟩
          · rw [if_neg he]; exact C.out.2.2.1 i hi'
        · rw [Array.getElem?_setIfInBounds]
          by_cases he : j = r
          · subst he; rw [if_pos rfl, if_pos (by have := C.out.2.1; omega)]; simp
          · rw [if_neg he]; exact C.out.2.2.2 r (by omega)
      case measure => simp [intOf]; omega
    · have hjn : j = N := by omega
      subst hjn
      go_wp2
      go_ret
      refine ⟨rfl, ⟨a, c, by rw [marksI_len], by rw [marksI_len]; exact hl, ?_⟩, ho.out⟩
      rcases hb.out with h0 | ⟨g, cur, ea, h1, h2, hh, hs, hi, hx⟩
      · exact Or.inl (by rw [marksI_len]; exact h0)
      · exact Or.inr ⟨g, cur, ea, h1, h2, hh, fun i hi' => by rw [marksI_at]; exact hx i (by rw [marksI_len] at hi'; exact hi')⟩
set_option maxHeartbeats 1000000 in
theorem heldIntS_z (N : Nat) (w : World) (lo hi k : Nat) (v : Value) (h : LiZ w lo hi v (marksI k N)) (hk : k + N ≤ 100000000) :
    Calls Tryd.prog 28 #[v, .int .i64 k] w fun en w' => en = .returned (.int .i64 ((k + N : Nat) : Int)) ∧ w' = w := by
  obtain ⟨a, c, rfl, hl, hz⟩ := h
  have hM := maxLen_lt
  rw [marksI_len] at hl ⊢
  have HX : Hid (N = 0 ∨ ∃ g, a = some ⟨g, 0, none⟩ ∧ ∀ r, r < N → w.cell? ⟨g, r, none⟩ = some (.int .i64 ((k + r : Nat) : Int))) := by
    rcases hz with h0 | ⟨g, cur, ea, h1, h2, hh, hx⟩
    · exact Or.inl (by rw [marksI_len] at h0; exact h0)
    · refine Or.inr ⟨g, ea, fun r hr => ?_⟩
      have h3 := hx r (by rw [marksI_len]; exact hr)
      rw [marksI_at] at h3
      rw [(cells_of hh).1]; exact h3
  clear hz
  go_enter Tryd.func28, Tryd.ntmps28
  go_wp2
  go_loopw [1, 5] (fun q i wr => ∃ j : Nat, j ≤ N ∧ i = .int .i64 j ∧ q = .int .i64 ((k + j : Nat) : Int) ∧ wr = w) (fun _ i _ => N - (intOf i).toNat)
  case atStart => exact ⟨0, Nat.zero_le _, rfl, rfl, rfl⟩
  case round =>
    obtain ⟨j, hj, rfl, rfl, hwr⟩ := hrel
    subst hwr
    by_cases hlt : j < N
    · rcases HX.out with h0 | ⟨g, rfl, hx⟩
      · omega
      have c0 := hx j hlt
      clear hx
      go_wp2
      go_roundw
      case rel => exact ⟨j + 1, by omega, by go_num, by go_num, by first | rfl | trivial⟩
      case measure => simp [intOf]; omega
    · have hjn : j = N := by omega
      subst hjn
      go_wp2
      go_ret
      exact ⟨rfl, rfl⟩
/-- As an end. -/
theorem LiZ.en {w : World} {lo hi : Nat} {v : Value} {l : List Int} (h : LiZ w lo hi v l) (c x : Int) : EnIs w lo #[.int .i64 c, .int .i64 x, v] ⟨c, x, l⟩ := by
  obtain ⟨a, cap, rfl, hi⟩ := h.ints
  exact ⟨a, cap, rfl, hi⟩
set_option maxHeartbeats 1000000 in
theorem markEnd_z (cd vl : Int) (l : List Int) (w : World) (lo hi k : Nat) (v : Value) (h : LiZ w lo hi v l) (hk : k + l.length ≤ 100000000) :
    Calls Tryd.prog 15 #[.agg #[.int .i64 cd, .int .i64 vl, v], .int .i64 k] w fun en w' => en = .returned (.int .i64 ((k + l.length : Nat) : Int)) ∧ LiZ w' lo hi v (marksI k l.length) ∧ Over lo hi w w' := by
  have al : Hid (Below w.heap.size w (w.alloc (.cells #[.int .i64 cd, .int .i64 vl, v] 28))) := (Below.refl _ _).alloc (Nat.le_refl _) _
  have HL := hideP (h.stays al.out)
  obtain ⟨a, c, rfl, _⟩ := h
  obtain ⟨N, hN⟩ : ∃ N, l.length = N := ⟨_, rfl⟩
  have MK : Hid (∀ W, LiZ W lo hi (.slice a l.length c) l → Calls Tryd.prog 14 #[.slice a l.length c, .int .i64 k] W fun en w' => en = .returned (.int .i64 ((k + l.length : Nat) : Int)) ∧ LiZ w' lo hi (.slice a l.length c) (marksI k l.length) ∧ Over lo hi W w') := fun W h => markIntS_z l W lo hi k _ h hk
  rw [hN] at MK HL hk al ⊢
  clear hN
  go_enter Tryd.func15, Tryd.ntmps15
  go_wp2_with fail
  refine (MK.out _ HL.out).mono ?_
  rintro e1 w1 ⟨rfl, z1, o1⟩
  have Z1 := hideP z1
  have O1 := hideP (((Over.refl lo hi w).on al.out).trans o1)
  clear z1 o1
  go_wp2
  go_ret
  exact ⟨rfl, Z1.out, O1.out⟩
set_option maxHeartbeats 1000000 in
theorem heldEnd_z (cd vl : Int) (N : Nat) (w : World) (lo hi k : Nat) (v : Value) (h : LiZ w lo hi v (marksI k N)) (hk : k + N ≤ 100000000) :
    Calls Tryd.prog 16 #[.agg #[.int .i64 cd, .int .i64 vl, v], .int .i64 k] w fun en w' => en = .returned (.int .i64 ((k + N : Nat) : Int)) ∧ Below w.heap.size w w' := by
  have al : Hid (Below w.heap.size w (w.alloc (.cells #[.int .i64 cd, .int .i64 vl, v] 28))) := (Below.refl _ _).alloc (Nat.le_refl _) _
  have HL := hideP (h.stays al.out)
  have hM := maxLen_lt
  obtain ⟨a, c, rfl, _⟩ := h
  go_enter Tryd.func16, Tryd.ntmps16
  go_wp2_with fail
  refine (heldIntS_z N _ lo hi k _ HL.out hk).mono ?_
  rintro e1 w1 ⟨rfl, rfl⟩
  go_wp2
  go_ret
  exact ⟨rfl, al.out⟩
end Go.Proofs.YtpkfbabgcinhhaaDoor
