/- What the laws' marks do with an argument: numbers over numbers, texts over texts, in blocks from B up to T. -/
import Derived.Test.YtpbmnajlkgjkfabInts
namespace Go.Proofs.Ytpbmnajlkgjkfab
open Go.ChangeShapes Go.WideShapes Go.ChangeAt Go.RowKit
/-- A number in a number's place, a text in a text's, else the same. -/
def Like (u v : Value) : Prop := u = v ∨ (∃ m n, u = .int .i64 m ∧ v = .int .i64 n) ∨ ∃ s t, u = .string s ∧ v = .string t
theorem Like.trans {u v x : Value} (h : Like u v) (k : Like v x) : Like u x := by
  rcases h with rfl | ⟨m, n, rfl, rfl⟩ | ⟨s, t, rfl, rfl⟩
  · exact k
  · rcases k with rfl | ⟨m', n', _, rfl⟩ | ⟨s, t, h, _⟩
    · exact Or.inr (Or.inl ⟨_, _, rfl, rfl⟩)
    · exact Or.inr (Or.inl ⟨_, _, rfl, rfl⟩)
    · cases h
  · rcases k with rfl | ⟨m', n', h, _⟩ | ⟨s', t', _, rfl⟩
    · exact Or.inr (Or.inr ⟨_, _, rfl, rfl⟩)
    · cases h
    · exact Or.inr (Or.inr ⟨_, _, rfl, rfl⟩)
def isI (u : Value) : Prop := ∃ z, u = .int .i64 z
def isS (u : Value) : Prop := ∃ t, u = .string t
theorem isI.like {u v : Value} (h : isI u) (k : Like u v) : isI v := by
  obtain ⟨z, rfl⟩ := h
  rcases k with rfl | ⟨m, n, _, rfl⟩ | ⟨s, t, h, _⟩
  · exact ⟨_, rfl⟩
  · exact ⟨_, rfl⟩
  · cases h
theorem isS.like {u v : Value} (h : isS u) (k : Like u v) : isS v := by
  obtain ⟨z, rfl⟩ := h
  rcases k with rfl | ⟨m, n, h, _⟩ | ⟨s, t, _, rfl⟩
  · exact ⟨_, rfl⟩
  · cases h
  · exact ⟨_, rfl⟩
theorem Like.slice {a : Option Addr} {n c : Nat} {v : Value} (k : Like (.slice a n c) v) : v = .slice a n c := by
  rcases k with rfl | ⟨m, n, h, _⟩ | ⟨s, t, h, _⟩
  · rfl
  · cases h
  · cases h
theorem Like.ints {u : Value} (h : isI u) (n : Int) : Like u (.int .i64 n) := by
  obtain ⟨z, rfl⟩ := h; exact Or.inr (Or.inl ⟨_, _, rfl, rfl⟩)
theorem Like.texts {u : Value} (h : isS u) (t : ByteArray) : Like u (.string t) := by
  obtain ⟨z, rfl⟩ := h; exact Or.inr (Or.inr ⟨_, _, rfl, rfl⟩)
structure Over (B T : Nat) (w w' : World) : Prop where
  os : w'.os = w.os
  tape : w'.tape = w.tape
  output : w'.output = w.output
  size : w.heap.size ≤ w'.heap.size
  out : ∀ k, k < w.heap.size → (k < B ∨ T ≤ k) → w'.heap[k]? = w.heap[k]?
  within : ∀ (k : Nat) (c : Array Value) (ty : TypeId), w.heap[k]? = some (.cells c ty (0, 0)) → ∃ c' : Array Value, w'.heap[k]? = some (.cells c' ty (0, 0)) ∧ ∀ (i : Nat) (u : Value), c[i]? = some u → ∃ u' : Value, c'[i]? = some u' ∧ Like u u'
theorem Over.refl (B T : Nat) (w : World) : Over B T w w := ⟨rfl, rfl, rfl, Nat.le_refl _, fun _ _ _ => rfl, fun _ c _ h => ⟨c, h, fun _ u hu => ⟨u, hu, Or.inl rfl⟩⟩⟩
theorem Over.trans {B T : Nat} {w w1 w2 : World} (h : Over B T w w1) (k : Over B T w1 w2) : Over B T w w2 :=
  ⟨k.os.trans h.os, k.tape.trans h.tape, k.output.trans h.output, Nat.le_trans h.size k.size, fun i hi hr => (k.out i (Nat.lt_of_lt_of_le hi h.size) hr).trans (h.out i hi hr), fun i c ty hc => by
    obtain ⟨c1, h1, l1⟩ := h.within i c ty hc
    obtain ⟨c2, h2, l2⟩ := k.within i c1 ty h1
    refine ⟨c2, h2, fun j u hu => ?_⟩
    obtain ⟨u1, hu1, k1⟩ := l1 j u hu
    obtain ⟨u2, hu2, k2⟩ := l2 j u1 hu1
    exact ⟨u2, hu2, k1.trans k2⟩⟩
theorem Over.on {B T : Nat} {w w1 w2 : World} (h : Over B T w w1) (k : Below w1.heap.size w1 w2) : Over B T w w2 :=
  ⟨k.os.trans h.os, k.tape.trans h.tape, k.output.trans h.output, Nat.le_trans h.size k.size, fun i hi hr => (k.block i (Nat.lt_of_lt_of_le hi h.size)).trans (h.out i hi hr), fun i c ty hc => by
    obtain ⟨c1, h1, l1⟩ := h.within i c ty hc
    exact ⟨c1, (k.block i (Array.getElem?_eq_some_iff.1 h1).1).trans h1, l1⟩⟩
theorem Over.below {B T : Nat} {w w' : World} (h : Over B T w w') (hB : B ≤ w.heap.size) : Below B w w' :=
  ⟨h.os, h.tape, h.output, h.size, fun k hk => h.out k (by omega) (Or.inl hk)⟩
theorem Over.set {B T : Nat} {w0 w : World} {g : Nat} {c : Array Value} {ty : TypeId} {i : Nat} {u v : Value} (h : Over B T w0 w) (hB : B ≤ g) (hT : g < T) (hh : w.heap[g]? = some (.cells c ty (0, 0))) (hc : c[i]? = some u) (hl : Like u v) : Over B T w0 (w.setCell ⟨g, i, none⟩ v) := by
  refine ⟨h.os, h.tape, h.output, by simp [World.setCell]; exact h.size, fun k hk hr => (Below.heap_setCell w ⟨g, i, none⟩ v k (by show k ≠ g; omega)).trans (h.out k hk hr), fun k c0 ty0 h0 => ?_⟩
  obtain ⟨c1, h1, l1⟩ := h.within k c0 ty0 h0
  by_cases hk : k = g
  · subst hk
    rw [hh] at h1
    obtain ⟨rfl, rfl⟩ : c = c1 ∧ ty = ty0 := by simpa using h1
    refine ⟨_, heap_setCell_same w k i c ty v hh, fun j u0 hu0 => ?_⟩
    obtain ⟨u1, hu1, k1⟩ := l1 j u0 hu0
    rw [Array.getElem?_setIfInBounds]
    by_cases hj : i = j
    · subst hj
      have hlt : i < c.size := (Array.getElem?_eq_some_iff.1 hc).1
      rw [if_pos rfl, if_pos hlt]
      rw [hc] at hu1
      cases hu1
      exact ⟨v, rfl, k1.trans hl⟩
    · rw [if_neg hj]
      exact ⟨u1, hu1, k1⟩
  · exact ⟨c1, (Below.heap_setCell w ⟨g, i, none⟩ v k hk).trans h1, l1⟩
/-- The slice's cells lie in one plain block of B .. T, and are of these kinds. -/
def Room (w : World) (B T : Nat) (a : Option Addr) (n sz : Nat) (K : Nat → Nat → Value → Prop) : Prop :=
  n = 0 ∨ ∃ (b o : Nat) (c : Array Value) (ty : TypeId), a = some ⟨b, o, none⟩ ∧ B ≤ b ∧ b < T ∧ w.heap[b]? = some (.cells c ty (0, 0)) ∧ ∀ (i r : Nat), i < n → r < sz → ∃ u : Value, c[o + i * sz + r]? = some u ∧ K i r u
theorem Room.over {w w' : World} {B T : Nat} {a : Option Addr} {n sz : Nat} {K K' : Nat → Nat → Value → Prop} (h : Room w B T a n sz K) (hK : ∀ i r u u', i < n → r < sz → K i r u → Like u u' → K' i r u') (ho : Over B T w w') : Room w' B T a n sz K' := by
  rcases h with h | ⟨b, o, c, ty, ha, hB, hT, hh, hx⟩
  · exact Or.inl h
  · obtain ⟨c', h', l'⟩ := ho.within b c ty hh
    refine Or.inr ⟨b, o, c', ty, ha, hB, hT, h', fun i r hi hr => ?_⟩
    obtain ⟨u, hu, hk⟩ := hx i r hi hr
    obtain ⟨u', hu', hl⟩ := l' _ u hu
    exact ⟨u', hu', hK i r u u' hi hr hk hl⟩
theorem Room.stays {w w' : World} {B T : Nat} {a : Option Addr} {n sz : Nat} {K K' : Nat → Nat → Value → Prop} (h : Room w B T a n sz K) (hK : ∀ i r u, i < n → r < sz → K i r u → K' i r u) (bel : Below w.heap.size w w') : Room w' B T a n sz K' := by
  rcases h with h | ⟨b, o, c, ty, ha, hB, hT, hh, hx⟩
  · exact Or.inl h
  · refine Or.inr ⟨b, o, c, ty, ha, hB, hT, (bel.block b (Array.getElem?_eq_some_iff.1 hh).1).trans hh, fun i r hi hr => ?_⟩
    obtain ⟨u, hu, hk⟩ := hx i r hi hr
    exact ⟨u, hu, hK i r u hi hr hk⟩
def IntRoom (w : World) (B T : Nat) (a : Option Addr) (n : Nat) : Prop := Room w B T a n 1 fun _ _ u => isI u
theorem IntRoom.over {w w' : World} {B T : Nat} {a : Option Addr} {n : Nat} (h : IntRoom w B T a n) (ho : Over B T w w') : IntRoom w' B T a n := Room.over h (fun _ _ _ _ _ _ k l => k.like l) ho
theorem IntRoom.stays {w w' : World} {B T : Nat} {a : Option Addr} {n : Nat} (h : IntRoom w B T a n) (bel : Below w.heap.size w w') : IntRoom w' B T a n := Room.stays h (fun _ _ _ _ _ k => k) bel
theorem IntRoom.of {w : World} {B : Nat} {a : Option Addr} {zs : List Int} (h : IntsIs w B a zs) (hB : 0 < B) : IntRoom w B w.heap.size a zs.length := by
  rcases h.2 with h0 | ⟨b, o, ha, hb, hl, hp, hr⟩
  · exact Or.inl h0
  · obtain ⟨cs, T, hh⟩ := hp hB
    refine Or.inr ⟨b, o, cs, T, ha, hb, hl, hh, fun i r hi hr' => ?_⟩
    have h1 := hr i hi
    simp only [World.cell?, hh] at h1
    obtain rfl : r = 0 := by omega
    exact ⟨_, by simpa using h1, _, rfl⟩
end Go.Proofs.Ytpbmnajlkgjkfab
