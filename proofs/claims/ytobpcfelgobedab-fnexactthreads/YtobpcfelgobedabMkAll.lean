/- OwnIntM, OverB, OwnOver, Over, DecPlain, MarkP, MarkT, MarkG, as one text (wip/mkmerge.py). -/
import Derived.Test.YtobpcfelgobedabOwnInt
import Derived.Test.YtobpcfelgobedabInts
import Derived.Test.YtobpcfelgobedabOwnIntL
import Derived.Test.YtobpcfelgobedabGraphD
import Derived.Lib.ItoaNum
import Derived.Test.YtobpcfelgobedabPlain
import Derived.Test.YtobpcfelgobedabMem
import Derived.Test.YtobpcfelgobedabRows
import Derived.WalkKit
import Derived.ProofKit
import Derived.OpenShut
import Derived.WalkSpells
import Derived.WalkLawsBesides
import Derived.Laws.IdiomStrings
import Derived.Deep.QuietTactic
import Derived.BigQuiet
import Derived.Deep.RegionWith
namespace Go.Proofs.Ytobpcfelgobedab
open Go.ChangeShapes Go.WideShapes Go.ChangeAt Go.RowKit
/-- The numbers from k on. -/
def marksI (k n : Nat) : List Int := (List.range n).map fun i => ((k + i : Nat) : Int)
theorem marksI_len (k n : Nat) : (marksI k n).length = n := by simp [marksI]
theorem marksI_at (k n i : Nat) (h : i < (marksI k n).length) : (marksI k n)[i] = ((k + i : Nat) : Int) := by simp [marksI]
set_option maxHeartbeats 1000000 in
theorem markIntS_any (l : List Int) (w : World) (B k : Nat) (v : Value) (h : OwnI w B v l) (hk : k ≤ 1000000000) (hl : l.length ≤ 10000000) :
    Calls Try.prog 25 #[v, .int .i64 k] w fun en w' => en = .returned (.int .i64 ((k + l.length : Nat) : Int)) ∧ OwnI w' B v (marksI k l.length) ∧ ∃ g, v.ownBlock = some g ∧ But g w w' := by
  obtain ⟨g, cap, cur, rfl, hB, hh, hc, hm, hs, hx⟩ := h.parts
  have hM := maxLen_lt
  clear h hx
  obtain ⟨N, hN⟩ : ∃ N, l.length = N := ⟨_, rfl⟩
  rw [hN] at hc hl ⊢
  clear hN
  go_enter Try.func25, Try.ntmps25
  go_wp2
  go_loopw [1, 5] (fun q i wr => ∃ j : Nat, j ≤ N ∧ i = .int .i64 j ∧ q = .int .i64 ((k + j : Nat) : Int) ∧ Hid (But g w wr ∧ ∃ cu : Array Value, wr.heap[g]? = some (.cells cu 3 (0, 0)) ∧ cu.size = cap ∧ ∀ r, r < j → cu[r]? = some (.int .i64 ((k + r : Nat) : Int)))) (fun _ i _ => N - (intOf i).toNat)
  case atStart => exact ⟨0, Nat.zero_le _, rfl, rfl, But.refl _ _, cur, hh, hs, fun r hr => absurd hr (Nat.not_lt_zero _)⟩
  case round =>
    obtain ⟨j, hj, rfl, rfl, hb⟩ := hrel
    by_cases hlt : j < N
    · obtain ⟨cu, c1, c2, c3⟩ := hb.out.2
      have hd : ∃ u, wr.cell? ⟨g, j, none⟩ = some u := ⟨cu[j], by simp [World.cell?, c1, show j < cu.size by omega]⟩
      obtain ⟨u, hu⟩ := hd
      have hf : wr.frozen? ⟨g, j, none⟩ = false := by simp [World.frozen?, c1]
      have C : Hid (wr.heap[g]? = some (.cells cu 3 (0, 0)) ∧ cu.size = cap ∧ ∀ r, r < j → cu[r]? = some (.int .i64 ((k + r : Nat) : Int))) := ⟨c1, c2, c3⟩
      clear c1 c2 c3 hh hs
      go_wp2
      go_roundw
      case rel =>
        refine ⟨j + 1, by omega, by go_num, by go_num, hb.out.1.set _ _, _, heap_setCell_same _ g _ _ _ _ C.out.1, by simpa using C.out.2.1, fun r hr => ?_⟩
        rw [Array.getElem?_setIfInBounds]
        by_cases he : j = r
        · subst he; rw [if_pos rfl, if_pos (by have := C.out.2.1; omega)]; simp
        · rw [if_neg he]; exact C.out.2.2 r (by omega)
      case measure => simp [intOf]; omega
    · have hjn : j = N := by omega
      subst hjn
      go_wp2
      go_ret
      obtain ⟨hb1, cu, c1, c2, c3⟩ := hb.out
      refine ⟨rfl, ?_, g, rfl, hb1⟩
      have := OwnI.of_parts (l := marksI k j) (cap := cap) hB c1 (by rw [marksI_len]; exact hc) hm c2 (fun i hi => by rw [marksI_at]; exact c3 i (by rw [marksI_len] at hi; exact hi))
      rw [marksI_len] at this
      exact this
set_option maxHeartbeats 1000000 in
theorem heldIntS_any (N : Nat) (w : World) (B k : Nat) (v : Value) (h : OwnI w B v (marksI k N)) (hk : k ≤ 1000000000) (hl : N ≤ 10000000) :
    Calls Try.prog 27 #[v, .int .i64 k] w fun en w' => en = .returned (.int .i64 ((k + N : Nat) : Int)) ∧ w' = w := by
  obtain ⟨g, cap, cur, rfl, hB, hh, hc, hm, hs, hx⟩ := h.parts
  have hM := maxLen_lt
  rw [marksI_len] at hc ⊢
  have HX : Hid (∀ r, r < N → w.cell? ⟨g, r, none⟩ = some (.int .i64 ((k + r : Nat) : Int))) := fun r hr => by
    have h1 := hx r (by rw [marksI_len]; exact hr)
    rw [marksI_at] at h1
    simpa [World.cell?, hh] using h1
  clear h hx hh hs
  go_enter Try.func27, Try.ntmps27
  go_wp2
  go_loop [1, 5] (fun q i => ∃ j : Nat, j ≤ N ∧ i = .int .i64 j ∧ q = .int .i64 ((k + j : Nat) : Int)) (fun _ i => N - (intOf i).toNat)
  case atStart => exact ⟨0, Nat.zero_le _, rfl, rfl⟩
  case round =>
    obtain ⟨j, hj, rfl, rfl⟩ := hrel
    by_cases hlt : j < N
    · have hu := HX.out j hlt
      go_wp2
      go_round
      case rel => exact ⟨j + 1, by omega, by go_num, by go_num⟩
      case measure => simp [intOf]; omega
    · have hjn : j = N := by omega
      subst hjn
      go_wp2
      go_ret
      exact ⟨rfl, rfl⟩
end Go.Proofs.Ytobpcfelgobedab
namespace Go.Proofs.Ytobpcfelgobedab
open Go.ChangeShapes Go.WideShapes Go.ChangeAt Go.RowKit
/-- A number in a number's place, a text in a text's, else the same. -/
def Like (u v : Value) : Prop := u = v ∨ (∃ m n, u = .int .i64 m ∧ v = .int .i64 n) ∨ ∃ s t, u = .string s ∧ v = .string t
theorem Like.trans {u v x : Value} (h : Like u v) (k : Like v x) : Like u x := by
  rcases h with rfl | ⟨m, n, rfl, rfl⟩ | ⟨s, t, rfl, rfl⟩
  · exact k
  · rcases k with rfl | ⟨m', n', _, rfl⟩ | ⟨s, t, h, _⟩
    · exact Or.inr (Or.inl ⟨_, _, rfl, rfl⟩)
    · exact Or.inr (Or.inl ⟨_, _, rfl, rfl⟩)
    · cases h
  · rcases k with rfl | ⟨m', n', h, _⟩ | ⟨s', t', _, rfl⟩
    · exact Or.inr (Or.inr ⟨_, _, rfl, rfl⟩)
    · cases h
    · exact Or.inr (Or.inr ⟨_, _, rfl, rfl⟩)
def isI (u : Value) : Prop := ∃ z, u = .int .i64 z
def isS (u : Value) : Prop := ∃ t, u = .string t
theorem isI.like {u v : Value} (h : isI u) (k : Like u v) : isI v := by
  obtain ⟨z, rfl⟩ := h
  rcases k with rfl | ⟨m, n, _, rfl⟩ | ⟨s, t, h, _⟩
  · exact ⟨_, rfl⟩
  · exact ⟨_, rfl⟩
  · cases h
theorem isS.like {u v : Value} (h : isS u) (k : Like u v) : isS v := by
  obtain ⟨z, rfl⟩ := h
  rcases k with rfl | ⟨m, n, h, _⟩ | ⟨s, t, _, rfl⟩
  · exact ⟨_, rfl⟩
  · cases h
  · exact ⟨_, rfl⟩
theorem Like.slice {a : Option Addr} {n c : Nat} {v : Value} (k : Like (.slice a n c) v) : v = .slice a n c := by
  rcases k with rfl | ⟨m, n, h, _⟩ | ⟨s, t, h, _⟩
  · rfl
  · cases h
  · cases h
theorem Like.ints {u : Value} (h : isI u) (n : Int) : Like u (.int .i64 n) := by
  obtain ⟨z, rfl⟩ := h; exact Or.inr (Or.inl ⟨_, _, rfl, rfl⟩)
theorem Like.texts {u : Value} (h : isS u) (t : ByteArray) : Like u (.string t) := by
  obtain ⟨z, rfl⟩ := h; exact Or.inr (Or.inr ⟨_, _, rfl, rfl⟩)
structure Over (B T : Nat) (w w' : World) : Prop where
  os : w'.os = w.os
  tape : w'.tape = w.tape
  output : w'.output = w.output
  size : w.heap.size ≤ w'.heap.size
  out : ∀ k, k < w.heap.size → (k < B ∨ T ≤ k) → w'.heap[k]? = w.heap[k]?
  within : ∀ (k : Nat) (c : Array Value) (ty : TypeId), w.heap[k]? = some (.cells c ty (0, 0)) → ∃ c' : Array Value, w'.heap[k]? = some (.cells c' ty (0, 0)) ∧ ∀ (i : Nat) (u : Value), c[i]? = some u → ∃ u' : Value, c'[i]? = some u' ∧ Like u u'
theorem Over.refl (B T : Nat) (w : World) : Over B T w w := ⟨rfl, rfl, rfl, Nat.le_refl _, fun _ _ _ => rfl, fun _ c _ h => ⟨c, h, fun _ u hu => ⟨u, hu, Or.inl rfl⟩⟩⟩
theorem Over.trans {B T : Nat} {w w1 w2 : World} (h : Over B T w w1) (k : Over B T w1 w2) : Over B T w w2 :=
  ⟨k.os.trans h.os, k.tape.trans h.tape, k.output.trans h.output, Nat.le_trans h.size k.size, fun i hi hr => (k.out i (Nat.lt_of_lt_of_le hi h.size) hr).trans (h.out i hi hr), fun i c ty hc => by
    obtain ⟨c1, h1, l1⟩ := h.within i c ty hc
    obtain ⟨c2, h2, l2⟩ := k.within i c1 ty h1
    refine ⟨c2, h2, fun j u hu => ?_⟩
    obtain ⟨u1, hu1, k1⟩ := l1 j u hu
    obtain ⟨u2, hu2, k2⟩ := l2 j u1 hu1
    exact ⟨u2, hu2, k1.trans k2⟩⟩
theorem Over.on {B T : Nat} {w w1 w2 : World} (h : Over B T w w1) (k : Below w1.heap.size w1 w2) : Over B T w w2 :=
  ⟨k.os.trans h.os, k.tape.trans h.tape, k.output.trans h.output, Nat.le_trans h.size k.size, fun i hi hr => (k.block i (Nat.lt_of_lt_of_le hi h.size)).trans (h.out i hi hr), fun i c ty hc => by
    obtain ⟨c1, h1, l1⟩ := h.within i c ty hc
    exact ⟨c1, (k.block i (Array.getElem?_eq_some_iff.1 h1).1).trans h1, l1⟩⟩
theorem Over.below {B T : Nat} {w w' : World} (h : Over B T w w') (hB : B ≤ w.heap.size) : Below B w w' :=
  ⟨h.os, h.tape, h.output, h.size, fun k hk => h.out k (by omega) (Or.inl hk)⟩
theorem Over.set {B T : Nat} {w0 w : World} {g : Nat} {c : Array Value} {ty : TypeId} {i : Nat} {u v : Value} (h : Over B T w0 w) (hB : B ≤ g) (hT : g < T) (hh : w.heap[g]? = some (.cells c ty (0, 0))) (hc : c[i]? = some u) (hl : Like u v) : Over B T w0 (w.setCell ⟨g, i, none⟩ v) := by
  refine ⟨h.os, h.tape, h.output, by simp [World.setCell]; exact h.size, fun k hk hr => (Below.heap_setCell w ⟨g, i, none⟩ v k (by show k ≠ g; omega)).trans (h.out k hk hr), fun k c0 ty0 h0 => ?_⟩
  obtain ⟨c1, h1, l1⟩ := h.within k c0 ty0 h0
  by_cases hk : k = g
  · subst hk
    rw [hh] at h1
    obtain ⟨rfl, rfl⟩ : c = c1 ∧ ty = ty0 := by simpa using h1
    refine ⟨_, heap_setCell_same w k i c ty v hh, fun j u0 hu0 => ?_⟩
    obtain ⟨u1, hu1, k1⟩ := l1 j u0 hu0
    rw [Array.getElem?_setIfInBounds]
    by_cases hj : i = j
    · subst hj
      have hlt : i < c.size := (Array.getElem?_eq_some_iff.1 hc).1
      rw [if_pos rfl, if_pos hlt]
      rw [hc] at hu1
      cases hu1
      exact ⟨v, rfl, k1.trans hl⟩
    · rw [if_neg hj]
      exact ⟨u1, hu1, k1⟩
  · exact ⟨c1, (Below.heap_setCell w ⟨g, i, none⟩ v k hk).trans h1, l1⟩
/-- The slice's cells lie in one plain block of B .. T, and are of these kinds. -/
def Room (w : World) (B T : Nat) (a : Option Addr) (n sz : Nat) (K : Nat → Nat → Value → Prop) : Prop :=
  n = 0 ∨ ∃ (b o : Nat) (c : Array Value) (ty : TypeId), a = some ⟨b, o, none⟩ ∧ B ≤ b ∧ b < T ∧ w.heap[b]? = some (.cells c ty (0, 0)) ∧ ∀ (i r : Nat), i < n → r < sz → ∃ u : Value, c[o + i * sz + r]? = some u ∧ K i r u
theorem Room.over {w w' : World} {B T : Nat} {a : Option Addr} {n sz : Nat} {K K' : Nat → Nat → Value → Prop} (h : Room w B T a n sz K) (hK : ∀ i r u u', i < n → r < sz → K i r u → Like u u' → K' i r u') (ho : Over B T w w') : Room w' B T a n sz K' := by
  rcases h with h | ⟨b, o, c, ty, ha, hB, hT, hh, hx⟩
  · exact Or.inl h
  · obtain ⟨c', h', l'⟩ := ho.within b c ty hh
    refine Or.inr ⟨b, o, c', ty, ha, hB, hT, h', fun i r hi hr => ?_⟩
    obtain ⟨u, hu, hk⟩ := hx i r hi hr
    obtain ⟨u', hu', hl⟩ := l' _ u hu
    exact ⟨u', hu', hK i r u u' hi hr hk hl⟩
theorem Room.stays {w w' : World} {B T : Nat} {a : Option Addr} {n sz : Nat} {K K' : Nat → Nat → Value → Prop} (h : Room w B T a n sz K) (hK : ∀ i r u, i < n → r < sz → K i r u → K' i r u) (bel : Below w.heap.size w w') : Room w' B T a n sz K' := by
  rcases h with h | ⟨b, o, c, ty, ha, hB, hT, hh, hx⟩
  · exact Or.inl h
  · refine Or.inr ⟨b, o, c, ty, ha, hB, hT, (bel.block b (Array.getElem?_eq_some_iff.1 hh).1).trans hh, fun i r hi hr => ?_⟩
    obtain ⟨u, hu, hk⟩ := hx i r hi hr
    exact ⟨u, hu, hK i r u hi hr hk⟩
def IntRoom (w : World) (B T : Nat) (a : Option Addr) (n : Nat) : Prop := Room w B T a n 1 fun _ _ u => isI u
theorem IntRoom.over {w w' : World} {B T : Nat} {a : Option Addr} {n : Nat} (h : IntRoom w B T a n) (ho : Over B T w w') : IntRoom w' B T a n := Room.over h (fun _ _ _ _ _ _ k l => k.like l) ho
theorem IntRoom.stays {w w' : World} {B T : Nat} {a : Option Addr} {n : Nat} (h : IntRoom w B T a n) (bel : Below w.heap.size w w') : IntRoom w' B T a n := Room.stays h (fun _ _ _ _ _ k => k) bel
theorem IntRoom.of {w : World} {B : Nat} {a : Option Addr} {zs : List Int} (h : IntsIs w B a zs) (hB : 0 < B) : IntRoom w B w.heap.size a zs.length := by
  rcases h.2 with h0 | ⟨b, o, ha, hb, hl, hp, hr⟩
  · exact Or.inl h0
  · obtain ⟨cs, T, hh⟩ := hp hB
    refine Or.inr ⟨b, o, cs, T, ha, hb, hl, hh, fun i r hi hr' => ?_⟩
    have h1 := hr i hi
    simp only [World.cell?, hh] at h1
    obtain rfl : r = 0 := by omega
    exact ⟨_, by simpa using h1, _, rfl⟩
end Go.Proofs.Ytobpcfelgobedab
namespace Go.Proofs.Ytobpcfelgobedab
open Go.ChangeShapes Go.WideShapes Go.ChangeAt Go.RowKit
theorem OwnI.over {w w' : World} {A B T : Nat} {v : Value} {l : List Int} (h : OwnI w A v l) (ho : Over B T w w') (hne : ∀ g, v.ownBlock = some g → g < B ∨ T ≤ g) : OwnI w' A v l := by
  obtain ⟨g0, cap, hv, hl, h0 | ⟨g', cap', cur, hv', hB', hh, hr⟩⟩ := h
  · exact ⟨g0, cap, hv, hl, Or.inl h0⟩
  · exact ⟨g0, cap, hv, hl, Or.inr ⟨g', cap', cur, hv', hB', (ho.out g' (Array.getElem?_eq_some_iff.1 hh).1 (hne g' (by rw [hv']; rfl))).trans hh, hr⟩⟩
end Go.Proofs.Ytobpcfelgobedab
namespace Go.Proofs.Ytobpcfelgobedab
open Go.ChangeShapes Go.WideShapes Go.ChangeAt Go.RowKit
theorem Over.sets {B T : Nat} {w0 : World} {g : Nat} {ty : TypeId} (hB : B ≤ g) (hT : g < T) : ∀ (l : List Value) (w : World) (p : Nat) (c : Array Value), w.heap[g]? = some (.cells c ty (0, 0)) → (∀ (r : Nat) (hr : r < l.length), ∃ u : Value, c[p + r]? = some u ∧ Like u l[r]) → Over B T w0 w → Over B T w0 (Go.Proofs.Ytobpcfelgobedab.sets g w p l)
  | [], _, _, _, _, _, h => h
  | v :: l, w, p, c, hh, hl, h => by
    obtain ⟨u, hu, hlk⟩ := hl 0 (by simp)
    refine Over.sets hB hT l _ (p + 1) _ (heap_setCell_same w g p c ty v hh) (fun r hr => ?_) (h.set hB hT hh hu hlk)
    obtain ⟨u', hu', hlk'⟩ := hl (r + 1) (by simpa using hr)
    exact ⟨u', by rw [Array.getElem?_setIfInBounds, if_neg (by omega), ← hu']; congr 1; omega, by simpa using hlk'⟩
def insK (r : Nat) (u : Value) : Prop := if r < 6 then isI u else isS u
theorem insK.like {r : Nat} {u v : Value} (h : insK r u) (k : Like u v) : insK r v := by
  unfold insK at *
  split
  · rename_i hr; rw [if_pos hr] at h; exact h.like k
  · rename_i hr; rw [if_neg hr] at h; exact h.like k
def InsRoom (w : World) (B T : Nat) (a : Option Addr) (n : Nat) : Prop := Room w B T a n 7 fun _ r u => insK r u
def blkK (w : World) (B T : Nat) (xs : List Blk) (i r : Nat) (u : Value) : Prop := if r = 0 then ∃ (h : i < xs.length) (ua : Option Addr) (ca : Nat), u = .slice ua xs[i].code.length ca ∧ InsRoom w B T ua xs[i].code.length else isI u
def BlkRoom (w : World) (B T : Nat) (a : Option Addr) (xs : List Blk) : Prop := Room w B T a xs.length 5 (blkK w B T xs)
theorem InsRoom.over {w w' : World} {B T : Nat} {a : Option Addr} {n : Nat} (h : InsRoom w B T a n) (ho : Over B T w w') : InsRoom w' B T a n := Room.over h (fun _ _ _ _ _ _ k l => k.like l) ho
theorem BlkRoom.over {w w' : World} {B T : Nat} {a : Option Addr} {xs : List Blk} (h : BlkRoom w B T a xs) (ho : Over B T w w') : BlkRoom w' B T a xs :=
  Room.over h (fun i r u u' _ _ k l => by
    unfold blkK at *
    split
    · rename_i hr
      rw [if_pos hr] at k
      obtain ⟨hi, ua, ca, rfl, hm⟩ := k
      exact ⟨hi, ua, ca, l.slice, hm.over ho⟩
    · rename_i hr; rw [if_neg hr] at k; exact k.like l) ho
theorem InsRoom.stays {w w' : World} {B T : Nat} {a : Option Addr} {n : Nat} (h : InsRoom w B T a n) (bel : Below w.heap.size w w') : InsRoom w' B T a n := Room.stays h (fun _ _ _ _ _ k => k) bel
theorem BlkRoom.stays {w w' : World} {B T : Nat} {a : Option Addr} {xs : List Blk} (h : BlkRoom w B T a xs) (bel : Below w.heap.size w w') : BlkRoom w' B T a xs :=
  Room.stays h (fun i r u _ _ k => by
    unfold blkK at *
    split
    · rename_i hr
      rw [if_pos hr] at k
      obtain ⟨hi, ua, ca, rfl, hm⟩ := k
      exact ⟨hi, ua, ca, rfl, hm.stays bel⟩
    · rename_i hr; rw [if_neg hr] at k; exact k) bel
theorem InsRoom.of {w : World} {B : Nat} {a : Option Addr} {xs : List Ins} (h : SlIs InsIs 7 w B a xs) (hB : 0 < B) : InsRoom w B w.heap.size a xs.length := by
  obtain ⟨_, vs, h | ⟨b, o, ha, hb, hl, hp, hc⟩, hx⟩ := h
  · exact Or.inl h
  · obtain ⟨cs, T, hh⟩ := hp hB
    refine Or.inr ⟨b, o, cs, T, ha, hb, hl, hh, fun i r hi hr => ?_⟩
    have h1 := (hc i hi).2 r hr
    have h2 := hx i hi
    obtain ⟨x, hxe⟩ : ∃ x, xs[i] = x := ⟨_, rfl⟩
    rw [hxe] at h2
    obtain ⟨hv, _⟩ := h2
    rw [(cells_of hh).1, hv] at h1
    rw [h1]
    match r, hr with
    | 0, _ => exact ⟨_, rfl, _, rfl⟩
    | 1, _ => exact ⟨_, rfl, _, rfl⟩
    | 2, _ => exact ⟨_, rfl, _, rfl⟩
    | 3, _ => exact ⟨_, rfl, _, rfl⟩
    | 4, _ => exact ⟨_, rfl, _, rfl⟩
    | 5, _ => exact ⟨_, rfl, _, rfl⟩
    | 6, _ => exact ⟨_, rfl, _, rfl⟩
theorem BlkRoom.of {w : World} {B : Nat} {a : Option Addr} {xs : List Blk} (h : SlIs BlkIs 5 w B a xs) (hB : 0 < B) : BlkRoom w B w.heap.size a xs := by
  obtain ⟨_, vs, h | ⟨b, o, ha, hb, hl, hp, hc⟩, hx⟩ := h
  · exact Or.inl h
  · obtain ⟨cs, T, hh⟩ := hp hB
    refine Or.inr ⟨b, o, cs, T, ha, hb, hl, hh, fun i r hi hr => ?_⟩
    have h1 := (hc i hi).2 r hr
    have h2 := hx i hi
    obtain ⟨ucode, ccode, hv, _, hcode⟩ := h2
    rw [(cells_of hh).1, hv] at h1
    rw [h1]
    match r, hr with
    | 0, _ => exact ⟨_, rfl, hi, ucode, ccode, rfl, InsRoom.of hcode hB⟩
    | 1, _ => exact ⟨_, rfl, _, rfl⟩
    | 2, _ => exact ⟨_, rfl, _, rfl⟩
    | 3, _ => exact ⟨_, rfl, _, rfl⟩
    | 4, _ => exact ⟨_, rfl, _, rfl⟩
def GrRoom (w : World) (B T : Nat) (v : Array Value) (x : Gr) : Prop := ∃ (us : Option Addr) (cs : Nat) (ub : Option Addr) (cb : Nat), v = #[.slice us x.sizes.length cs, .int .i64 x.params, .int .i64 x.vars, .int .i64 x.slots, .slice ub x.blocks.length cb] ∧ IntRoom w B T us x.sizes.length ∧ BlkRoom w B T ub x.blocks
theorem GrRoom.of {w : World} {B : Nat} {v : Array Value} {x : Gr} (h : GrIs w B v x) (hB : 0 < B) : GrRoom w B w.heap.size v x := by
  obtain ⟨us, cs, ub, cb, e, _, h1, h2⟩ := h
  exact ⟨us, cs, ub, cb, e, IntRoom.of h1 hB, BlkRoom.of h2 hB⟩
theorem GrRoom.stays {w w' : World} {B T : Nat} {v : Array Value} {x : Gr} (h : GrRoom w B T v x) (bel : Below w.heap.size w w') : GrRoom w' B T v x := by
  obtain ⟨us, cs, ub, cb, e, h1, h2⟩ := h
  exact ⟨us, cs, ub, cb, e, h1.stays bel, h2.stays bel⟩
def BRoom (w : World) (B T : Nat) (v : Array Value) (x : Blk) : Prop := ∃ (ua : Option Addr) (ca : Nat), v = #[.slice ua x.code.length ca, .int .i64 x.jump, .int .i64 x.a, .int .i64 x.to, .int .i64 x.els] ∧ InsRoom w B T ua x.code.length
theorem BRoom.of {w : World} {B : Nat} {v : Array Value} {x : Blk} (h : BlkIs w B v x) (hB : 0 < B) : BRoom w B w.heap.size v x := by
  obtain ⟨ua, ca, e, _, h1⟩ := h
  exact ⟨ua, ca, e, InsRoom.of h1 hB⟩
theorem BRoom.stays {w w' : World} {B T : Nat} {v : Array Value} {x : Blk} (h : BRoom w B T v x) (bel : Below w.heap.size w w') : BRoom w' B T v x := by
  obtain ⟨ua, ca, e, h1⟩ := h
  exact ⟨ua, ca, e, h1.stays bel⟩
end Go.Proofs.Ytobpcfelgobedab
namespace Go.Proofs.Ytobpcfelgobedab
def dd (a : Nat) : List UInt8 := if a = 0 then [] else Lib.decDigits a
theorem dd_zero : dd 0 = [] := rfl
theorem dd_pos {a : Nat} (h : a ≠ 0) : dd a = Lib.decDigits a := by unfold dd; rw [if_neg h]
theorem dd_step {a : Nat} (h : a ≠ 0) : dd a = dd (a / 10) ++ [UInt8.ofNat (48 + a % 10)] := by
  rw [dd_pos h]
  by_cases h10 : a < 10
  · rw [Lib.decDigits, dif_pos h10, show a / 10 = 0 by omega, dd_zero, show a % 10 = a by omega]; rfl
  · rw [Lib.decDigits, dif_neg h10, dd_pos (by omega)]
def tenS : ByteArray := ⟨#[48, 49, 50, 51, 52, 53, 54, 55, 56, 57]⟩
theorem tenS_fin : ∀ d : Fin 10, (tenS.extract d.val (d.val + 1)).data.toList = [UInt8.ofNat (48 + d.val)] := by decide +kernel
theorem tenS_at (d : Nat) (h : d < 10) (l : List UInt8) : ((⟨#[48, 49, 50, 51, 52, 53, 54, 55, 56, 57]⟩ : ByteArray).extract d (d + 1) ++ ⟨l.toArray⟩ : ByteArray) = ⟨(UInt8.ofNat (48 + d) :: l).toArray⟩ := by
  have h1 := tenS_fin ⟨d, h⟩
  apply ByteArray.ext
  apply Array.ext'
  rw [ByteArray.data_append, Array.toList_append]
  show (tenS.extract d (d + 1)).data.toList ++ _ = _
  rw [h1]; simp
theorem minus_app (l : List UInt8) : ((⟨#[45]⟩ : ByteArray) ++ ⟨l.toArray⟩ : ByteArray) = ⟨(45 :: l).toArray⟩ := by
  apply ByteArray.ext; apply Array.ext'; rw [ByteArray.data_append, Array.toList_append]; simp
theorem nDigits_20 (u : Nat) (h1 : 1 ≤ u) (h : u ≤ 9223372036854775808) : Lib.nDigits u ≤ 20 := by
  by_cases hh : Lib.nDigits u ≤ 20
  · exact hh
  · exfalso
    have key : ∀ k u : Nat, k < Lib.nDigits u → 10 ^ k ≤ u ∨ k = 0 := by
      intro k
      induction k with
      | zero => intro u _; exact Or.inr rfl
      | succ k ih =>
        intro u hk
        left
        by_cases h10 : u < 10
        · rw [Lib.nDigits_small h10] at hk; omega
        · rw [Lib.nDigits_big h10] at hk
          rcases ih (u / 10) (by omega) with h | h
          · rw [Nat.pow_succ]; omega
          · subst h; simp; omega
    rcases key 20 u (by omega) with h' | h'
    · have : (10 : Nat) ^ 20 = 100000000000000000000 := by decide
      omega
    · omega
theorem dd_len {a u : Nat} {l : List UInt8} (hu : u ≠ 0) (hU : u ≤ 9223372036854775808) (h : dd a ++ l = dd u) : l.length ≤ 20 := by
  have h1 := congrArg List.length h
  rw [List.length_append, dd_pos hu, Lib.decDigits_length] at h1
  have := nDigits_20 u (by omega) hU
  omega
theorem itoa_pos' {n : Int} (h : 0 < n) : Lib.itoa n = dd n.natAbs := by unfold Lib.itoa; rw [if_neg (by omega), dd_pos (by omega), show n.toNat = n.natAbs by omega]
theorem itoa_neg' {n : Int} (h : n < 0) : Lib.itoa n = 45 :: dd n.natAbs := by unfold Lib.itoa; rw [if_pos h, dd_pos (by omega)]
theorem itoa_zero' : Lib.itoa 0 = [48] := by unfold Lib.itoa Lib.decDigits; rfl
end Go.Proofs.Ytobpcfelgobedab
namespace Go.Proofs.Ytobpcfelgobedab
def markS (k : Nat) : ByteArray := ⟨(109 :: dd k).toArray⟩
theorem digit_app (d : Nat) (l : List UInt8) : ((⟨#[48 + UInt8.ofNat d]⟩ : ByteArray) ++ ⟨l.toArray⟩ : ByteArray) = ⟨(UInt8.ofNat (48 + d) :: l).toArray⟩ := by
  have e : (48 : UInt8) + UInt8.ofNat d = UInt8.ofNat (48 + d) := by rw [UInt8.ofNat_add]; rfl
  rw [e]; apply ByteArray.ext; apply Array.ext'; rw [ByteArray.data_append, Array.toList_append]; simp
theorem mark_app (l : List UInt8) : ((⟨#[109]⟩ : ByteArray) ++ ⟨l.toArray⟩ : ByteArray) = ⟨(109 :: l).toArray⟩ := by
  apply ByteArray.ext; apply Array.ext'; rw [ByteArray.data_append, Array.toList_append]; simp
end Go.Proofs.Ytobpcfelgobedab
namespace Go.Proofs.Ytobpcfelgobedab
open Go.ChangeShapes Go.WideShapes Go.ChangeAt Go.RowKit

set_option maxHeartbeats 400000 in
theorem markText_any (k : Nat) (w : World) (h0 : 0 < k) (h1 : k ≤ 1000000000) :
    Calls Try.prog 58 #[.int .i64 k] w fun e w' => e = .returned (.string (markS k)) ∧ Below w.heap.size w w' := by
  go_enter Try.func58, Try.ntmps58
  go_wp2
  go_loopw [0, 3] (fun a o wr => ∃ (m : Nat) (l : List UInt8), m ≤ k ∧ a = .int .i64 m ∧ o = .string ⟨l.toArray⟩ ∧ Hid (dd m ++ l = dd k) ∧ Below w.heap.size w wr) (fun a _ _ => (intOf a).toNat)
  case atStart => exact ⟨k, [], Nat.le_refl _, rfl, rfl, show _ = _ by simp, Below.refl _ _⟩
  case round =>
    obtain ⟨m, l, hm, rfl, rfl, hd, bel⟩ := hrel
    have hl : l.length ≤ 20 := dd_len (by omega) (by omega) hd.out
    by_cases hz : m = 0
    · subst hz
      have hb : ¬ 9223372036854775807 < 1 + l.length := by omega
      go_wp2
      go_ret
      exact ⟨ret_str (by rw [mark_app]; unfold markS; rw [← hd.out]; rfl), bel⟩
    · have hz' : 0 < m := by omega
      have e8 : ((UInt8.ofNat (48 + m % 10)).toNat : Int) = 48 + (m : Int) % 10 := by
        have e : (UInt8.ofNat (48 + m % 10)).toNat = 48 + m % 10 := by simp; omega
        rw [e]; omega
      have hcv := run_convert_bytes_back (P := Try.prog) (wr.alloc (.cells #[.int .u8 (48 + (m : Int) % 10)] 5)) 92 9 5 ⟨wr.heap.size, 0, none⟩ 1 [UInt8.ofNat (48 + m % 10)] Try.underlying92 Try.underlying5 Try.underlying9 (fun j hj => by
        have hj0 : j = 0 := by simpa using hj
        subst hj0
        show World.cell? _ ⟨wr.heap.size, 0, none⟩ = some (.int .u8 ((UInt8.ofNat (48 + m % 10)).toNat : Int))
        rw [World.cell?_alloc_new, e8]; rfl)
      simp only [List.length_singleton] at hcv
      clear e8
      have hb : ¬ 9223372036854775807 < 1 + l.length := by omega
      go_wp2
      go_roundw
      case rel => exact ⟨m / 10, UInt8.ofNat (48 + m % 10) :: l, by omega, by go_num, by rw [digit_app], show _ = _ by rw [← hd.out, dd_step hz]; simp, bel.alloc bel.size _⟩
      case measure => simp [intOf]; omega
end Go.Proofs.Ytobpcfelgobedab
namespace Go.Proofs.Ytobpcfelgobedab
open Go.ChangeShapes Go.WideShapes Go.ChangeAt Go.RowKit
theorem Room.get {w : World} {B T : Nat} {a : Option Addr} {n sz : Nat} {K : Nat → Nat → Value → Prop} (h : Room w B T a n sz K) {i : Nat} (hi : i < n) : ∃ (b o : Nat) (c : Array Value) (ty : TypeId), a = some ⟨b, o, none⟩ ∧ B ≤ b ∧ b < T ∧ w.heap[b]? = some (.cells c ty (0, 0)) ∧ ∀ (r : Nat), r < sz → ∃ u : Value, c[o + i * sz + r]? = some u ∧ K i r u := by
  rcases h with h | ⟨b, o, c, ty, ha, hB, hT, hh, hx⟩
  · omega
  · exact ⟨b, o, c, ty, ha, hB, hT, hh, fun r hr => hx i r hi hr⟩
set_option maxHeartbeats 1000000 in
theorem markIntS_room (n : Nat) (w : World) (B T k : Nat) (a : Option Addr) (cap : Nat) (h : IntRoom w B T a n) (hk : k + n ≤ 100000000) :
    Calls Try.prog 25 #[.slice a n cap, .int .i64 k] w fun en w' => en = .returned (.int .i64 ((k + n : Nat) : Int)) ∧ Over B T w w' := by
  go_enter Try.func25, Try.ntmps25
  go_wp2
  go_loopw [1, 5] (fun q i wr => ∃ j : Nat, j ≤ n ∧ i = .int .i64 j ∧ q = .int .i64 ((k + j : Nat) : Int) ∧ Hid (IntRoom wr B T a n) ∧ Hid (Over B T w wr)) (fun _ i _ => n - (intOf i).toNat)
  case atStart => exact ⟨0, Nat.zero_le _, rfl, rfl, h, Over.refl _ _ _⟩
  case round =>
    obtain ⟨j, hj, rfl, rfl, hr, ho⟩ := hrel
    by_cases hlt : j < n
    · obtain ⟨b, o, c, ty, rfl, hB, hT, hh, hx⟩ := hr.out.get hlt
      obtain ⟨u0, hu0, k0⟩ := hx 0 (by omega)
      have c0 : wr.cell? ⟨b, o + j, none⟩ = some u0 := by rw [(cells_of hh).1]; simpa using hu0
      have f0 := (cells_of hh).2 (o + j)
      have HH := hideP hh
      have HK := hideP k0
      have HU := hideP hu0
      clear hh hx k0 hu0 h
      go_wp2
      go_roundw
      case rel =>
        have o1 : Over B T wr _ := (Over.refl B T wr).set hB hT HH.out (show c[o + j]? = some u0 by simpa using HU.out) (Like.ints HK.out ((k + j : Nat) : Int))
        exact ⟨j + 1, by omega, by go_num, by go_num, hr.out.over o1, ho.out.trans o1⟩
      case measure => simp [intOf]; omega
    · have hjn : j = n := by omega
      subst hjn
      go_wp2
      go_ret
      exact ⟨rfl, ho.out⟩
set_option maxHeartbeats 4000000 in
theorem markInstrS_room (n : Nat) (w : World) (B T k : Nat) (a : Option Addr) (cap : Nat) (h : InsRoom w B T a n) (hk0 : 0 < k) (hk : k + n * 7 ≤ 100000000) :
    Calls Try.prog 43 #[.slice a n cap, .int .i64 k] w fun en w' => en = .returned (.int .i64 ((k + n * 7 : Nat) : Int)) ∧ Over B T w w' := by
  go_enter Try.func43, Try.ntmps43
  go_wp2
  go_loopw [1, 5] (fun q i wr => ∃ j m : Nat, j ≤ n ∧ i = .int .i64 j ∧ q = .int .i64 m ∧ Hid (m = k + j * 7) ∧ Hid (InsRoom wr B T a n) ∧ Hid (Over B T w wr)) (fun _ i _ => n - (intOf i).toNat)
  case atStart => exact ⟨0, k, Nat.zero_le _, rfl, rfl, show _ = _ by simp, h, Over.refl _ _ _⟩
  case round =>
    obtain ⟨j, m, hj, rfl, rfl, hmk, hr, ho⟩ := hrel
    by_cases hlt : j < n
    · obtain ⟨b, o, c, ty, rfl, hB, hT, hh, hx⟩ := hr.out.get hlt
      have hm0 : 0 < m := by have := hmk.out; omega
      have hm1 : m + 7 ≤ 100000000 := by have := hmk.out; omega
      obtain ⟨u0, hu0, k0⟩ := hx 0 (by omega)
      obtain ⟨u1, hu1, k1⟩ := hx 1 (by omega)
      obtain ⟨u2, hu2, k2⟩ := hx 2 (by omega)
      obtain ⟨u3, hu3, k3⟩ := hx 3 (by omega)
      obtain ⟨u4, hu4, k4⟩ := hx 4 (by omega)
      obtain ⟨u5, hu5, k5⟩ := hx 5 (by omega)
      obtain ⟨u6, hu6, k6⟩ := hx 6 (by omega)
      have c0 : wr.cell? ⟨b, o + j * 7, none⟩ = some u0 := by rw [(cells_of hh).1]; exact hu0
      have c1 : wr.cell? ⟨b, o + j * 7 + 1, none⟩ = some u1 := by rw [(cells_of hh).1]; exact hu1
      have c2 : wr.cell? ⟨b, o + j * 7 + 2, none⟩ = some u2 := by rw [(cells_of hh).1]; exact hu2
      have c3 : wr.cell? ⟨b, o + j * 7 + 3, none⟩ = some u3 := by rw [(cells_of hh).1]; exact hu3
      have c4 : wr.cell? ⟨b, o + j * 7 + 4, none⟩ = some u4 := by rw [(cells_of hh).1]; exact hu4
      have c5 : wr.cell? ⟨b, o + j * 7 + 5, none⟩ = some u5 := by rw [(cells_of hh).1]; exact hu5
      have f0 := (cells_of hh).2
      have HH := hideP hh
      have K : Hid (∀ (r : Nat) (hr : r < 6), ∃ u : Value, c[o + j * 7 + r]? = some u ∧ isI u) := fun r hr => by
        obtain ⟨u, h1, h2⟩ := hx r (by omega)
        exact ⟨u, h1, by unfold insK at h2; rwa [if_pos hr] at h2⟩
      have K6 : Hid (c[o + j * 7 + 6]? = some u6 ∧ isS u6) := ⟨hu6, by unfold insK at k6; simpa using k6⟩
      clear hh hx k0 k1 k2 k3 k4 k5 k6 hu0 hu1 hu2 hu3 hu4 hu5 hu6 h
      go_wp2_with fail
      have ekj : ((m : Int) + 1 + 1 + 1 + 1 + 1 + 1) = ((m + 6 : Nat) : Int) := by omega
      rw [ekj]
      clear ekj
      refine (markText_any (m + 6) _ (by omega) (by omega)).mono ?_
      rintro e1 w1 ⟨rfl, bel1⟩
      obtain ⟨l, hl⟩ : ∃ l : List Value, [.int .i64 m, .int .i64 ((m : Int) + 1), .int .i64 ((m : Int) + 1 + 1), .int .i64 ((m : Int) + 1 + 1 + 1), .int .i64 ((m : Int) + 1 + 1 + 1 + 1), .int .i64 ((m : Int) + 1 + 1 + 1 + 1 + 1)] = l := ⟨_, rfl⟩
      have hll : l.length = 6 := by rw [← hl]; rfl
      have hli : ∀ (r : Nat) (hr : r < l.length), ∃ u : Value, c[o + j * 7 + r]? = some u ∧ Like u l[r] := fun r hr => by
        obtain ⟨u, h1, h2⟩ := K.out r (by omega)
        refine ⟨u, h1, ?_⟩
        subst hl
        match r, hr with
        | 0, _ => exact Like.ints h2 _
        | 1, _ => exact Like.ints h2 _
        | 2, _ => exact Like.ints h2 _
        | 3, _ => exact Like.ints h2 _
        | 4, _ => exact Like.ints h2 _
        | 5, _ => exact Like.ints h2 _
      have o1 := Over.sets hB hT l wr (o + j * 7) c HH.out hli (Over.refl B T wr)
      have h0 := sets_heap l wr (o + j * 7) c HH.out
      have hbel : Below (sets b wr (o + j * 7) l).heap.size (sets b wr (o + j * 7) l) w1 := by rw [← hl]; exact bel1
      clear bel1
      have o2 := o1.on hbel
      have h1 : w1.heap[b]? = some (.cells (setsA c (o + j * 7) l) ty (0, 0)) := (hbel.block b (Array.getElem?_eq_some_iff.1 h0).1).trans h0
      have h6 : (setsA c (o + j * 7) l)[o + j * 7 + 6]? = some u6 := by rw [setsA_out l c _ _ (by omega)]; exact K6.out.1
      have c6 : w1.cell? ⟨b, o + j * 7 + 6, none⟩ = some u6 := by rw [(cells_of h1).1]; exact h6
      have f6 := (cells_of h1).2 (o + j * 7 + 6)
      have O3 := hideP (o2.set hB hT h1 h6 (Like.texts K6.out.2 (markS (m + 6))))
      clear hl hll hli o1 h0 hbel o2 h1 h6 c0 c1 c2 c3 c4 c5 f0
      go_wp2
      go_roundw
      case rel =>
        exact ⟨j + 1, m + 7, by omega, by go_num, by go_num, show _ = _ by rw [hmk.out]; omega, hr.out.over O3.out, ho.out.trans O3.out⟩
      case measure => simp [intOf]; omega
    · have hjn : j = n := by omega
      subst hjn
      go_wp2
      go_ret
      exact ⟨ret_int (by rw [hmk.out]), ho.out⟩
def bMarks (x : Blk) : Nat := x.code.length * 7 + 4
set_option maxHeartbeats 4000000 in
theorem markBlockS_room (xs : List Blk) (w : World) (B T k : Nat) (a : Option Addr) (cap : Nat) (h : BlkRoom w B T a xs) (hk0 : 0 < k) (hk : k + slSum bMarks xs ≤ 100000000) (hn : xs.length ≤ 100000000) :
    Calls Try.prog 26 #[.slice a xs.length cap, .int .i64 k] w fun en w' => en = .returned (.int .i64 ((k + slSum bMarks xs : Nat) : Int)) ∧ Over B T w w' := by
  go_enter Try.func26, Try.ntmps26
  go_wp2
  go_loopw [1, 5] (fun q i wr => ∃ j m : Nat, j ≤ xs.length ∧ i = .int .i64 j ∧ q = .int .i64 m ∧ Hid (m = k + slSum bMarks (xs.take j)) ∧ Hid (BlkRoom wr B T a xs) ∧ Hid (Over B T w wr)) (fun _ i _ => xs.length - (intOf i).toNat)
  case atStart => exact ⟨0, k, Nat.zero_le _, rfl, rfl, show _ = _ by simp [slSum], h, Over.refl _ _ _⟩
  case round =>
    obtain ⟨j, m, hj, rfl, rfl, hmk, hr, ho⟩ := hrel
    by_cases hlt : j < xs.length
    · obtain ⟨b, o, c, ty, rfl, hB, hT, hh, hx⟩ := hr.out.get hlt
      obtain ⟨u0, hu0, k0⟩ := hx 0 (by omega)
      obtain ⟨_, ua, ca, rfl, hroom⟩ : ∃ (h : j < xs.length) (ua : Option Addr) (ca : Nat), u0 = .slice ua xs[j].code.length ca ∧ InsRoom wr B T ua xs[j].code.length := by unfold blkK at k0; simpa using k0
      obtain ⟨N, hN⟩ : ∃ N, xs[j].code.length = N := ⟨_, rfl⟩
      have hst := slSum_take bMarks xs j hlt
      have hle := slSum_le bMarks xs (j + 1)
      have hbm : bMarks xs[j] = N * 7 + 4 := by unfold bMarks; rw [hN]
      rw [hN] at hu0 hroom
      have hm0 : 0 < m := by have := hmk.out; omega
      have hm1 : m + N * 7 + 4 ≤ 100000000 := by have := hmk.out; omega
      have HM2 : Hid (m + N * 7 + 4 = k + slSum bMarks (xs.take (j + 1))) := by show _ = _; have := hmk.out; omega
      have c0 : wr.cell? ⟨b, o + j * 5, none⟩ = some (.slice ua N ca) := by rw [(cells_of hh).1]; exact hu0
      clear hh hx k0 hu0 h hst hle hbm hN
      go_wp2_with fail
      refine (markInstrS_room N _ B T m ua ca hroom (by omega) (by omega)).mono ?_
      rintro e1 w1 ⟨rfl, o1⟩
      clear c0 hroom
      obtain ⟨M, hM⟩ : ∃ M, m + N * 7 = M := ⟨_, rfl⟩
      rw [hM]
      have hr1 := hr.out.over o1
      obtain ⟨b', o', c1, ty1, he, _, _, hh, hx⟩ := hr1.get hlt
      cases he
      obtain ⟨u1, hu1, k1⟩ := hx 1 (by omega)
      obtain ⟨u2, hu2, k2⟩ := hx 2 (by omega)
      obtain ⟨u3, hu3, k3⟩ := hx 3 (by omega)
      obtain ⟨u4, hu4, k4⟩ := hx 4 (by omega)
      have c1 : w1.cell? ⟨b, o + j * 5 + 1, none⟩ = some u1 := by rw [(cells_of hh).1]; exact hu1
      have c2 : w1.cell? ⟨b, o + j * 5 + 2, none⟩ = some u2 := by rw [(cells_of hh).1]; exact hu2
      have c3 : w1.cell? ⟨b, o + j * 5 + 3, none⟩ = some u3 := by rw [(cells_of hh).1]; exact hu3
      have c4 : w1.cell? ⟨b, o + j * 5 + 4, none⟩ = some u4 := by rw [(cells_of hh).1]; exact hu4
      have f0 := (cells_of hh).2
      have O2 : Hid (Over B T wr (sets b w1 (o + j * 5 + 1) [.int .i64 M, .int .i64 ((M : Int) + 1), .int .i64 ((M : Int) + 1 + 1), .int .i64 ((M : Int) + 1 + 1 + 1)])) := by
        refine Over.sets hB hT _ w1 (o + j * 5 + 1) _ hh (fun r hr => ?_) o1
        match r, hr with
        | 0, _ => exact ⟨u1, hu1, Like.ints (by unfold blkK at k1; simpa using k1) _⟩
        | 1, _ => exact ⟨u2, hu2, Like.ints (by unfold blkK at k2; simpa using k2) _⟩
        | 2, _ => exact ⟨u3, hu3, Like.ints (by unfold blkK at k3; simpa using k3) _⟩
        | 3, _ => exact ⟨u4, hu4, Like.ints (by unfold blkK at k4; simpa using k4) _⟩
      have HM := hideP hM
      have hM1 : M + 4 ≤ 100000000 := by omega
      clear hh hx k1 k2 k3 k4 hu1 hu2 hu3 hu4 hr1 o1 hM
      go_wp2
      go_roundw
      case rel =>
        exact ⟨j + 1, M + 4, by omega, by go_num, by go_num, show _ = _ by rw [← HM2.out, ← HM.out], hr.out.over O2.out, ho.out.trans O2.out⟩
      case measure => simp [intOf]; omega
    · have hjn : j = xs.length := by omega
      subst hjn
      go_wp2
      go_ret
      exact ⟨ret_int (by rw [hmk.out, List.take_length]), ho.out⟩
theorem Over.of_alloc {B T : Nat} {w w' : World} {o : Obj} (h : Over B T (w.alloc o) w') : Over B T w w' := ((Over.refl B T w).on ((Below.refl _ _).alloc (Nat.le_refl _) o)).trans h
theorem marks_le : ∀ (xs : List Blk), slSum bMarks xs ≤ 7 * slSz Blk.sz xs
  | [] => by simp [slSum]
  | x :: xs => by
    have := marks_le xs
    simp only [slSz, slSum, List.length_cons, bMarks, Blk.sz] at *
    omega
theorem IntRoom.overA {w w' : World} {B T B' T' : Nat} {a : Option Addr} {n : Nat} (h : IntRoom w B T a n) (ho : Over B' T' w w') : IntRoom w' B T a n := by
  rcases h with h | ⟨b, o, c, ty, ha, hB, hT, hh, hx⟩
  · exact Or.inl h
  · obtain ⟨c', h', l'⟩ := ho.within b c ty hh
    refine Or.inr ⟨b, o, c', ty, ha, hB, hT, h', fun i r hi hr => ?_⟩
    obtain ⟨u, hu, hk⟩ := hx i r hi hr
    obtain ⟨u', hu', hl⟩ := l' _ u hu
    exact ⟨u', hu', hk.like hl⟩
set_option maxHeartbeats 1000000 in
theorem markGraph_roomK (x : Gr) (w : World) (B T : Nat) (v : Array Value) (h : GrRoom w B T v x) (hT : T ≤ w.heap.size) (hs : x.sz ≤ 1048576) :
    Calls Try.prog 9 #[.agg v, .int .i64 1] w fun en w' => ∃ k : Nat, en = .returned (.int .i64 k) ∧ k ≤ 10000000 ∧ Over B T w w' := by
  obtain ⟨us, cs, ub, cb, rfl, h1, h2⟩ := h
  have hm := marks_le x.blocks
  have hs' : x.sizes.length + slSz Blk.sz x.blocks ≤ 1048576 := hs
  have hbl : x.blocks.length ≤ 1048576 := by unfold slSz at hs'; omega
  have H1 := hideP h1
  have H2 := hideP h2
  clear h1 h2
  go_enter Try.func9, Try.ntmps9
  go_wp2_with fail
  refine (markIntS_room x.sizes.length _ B T 1 us cs (H1.out.stays ((Below.refl _ _).alloc (Nat.le_refl _) _)) (by omega)).mono ?_
  rintro e1 w1 ⟨rfl, o1⟩
  have hv := (o1.out w.heap.size (by simp) (Or.inr hT)).trans (show (w.alloc _).heap[w.heap.size]? = _ from Array.getElem?_push_size)
  have c4 := (cells_of hv).1 4
  simp at c4
  have hb := (H2.out.stays ((Below.refl w.heap.size w).alloc (Nat.le_refl _) (.cells #[.slice us x.sizes.length cs, .int .i64 x.params, .int .i64 x.vars, .int .i64 x.slots, .slice ub x.blocks.length cb] 29))).over o1
  have O1 := hideP o1
  clear o1 hv
  go_wp2_with fail
  refine (markBlockS_room x.blocks _ B T (1 + x.sizes.length) ub cb hb (by omega) (by omega) (by omega)).mono ?_
  rintro e2 w2 ⟨rfl, o2⟩
  clear c4
  go_wp2
  go_ret
  exact ⟨1 + x.sizes.length + slSum bMarks x.blocks, rfl, by omega, (O1.out.trans o2).of_alloc⟩
theorem markGraph_room (x : Gr) (w : World) (B T : Nat) (v : Array Value) (h : GrRoom w B T v x) (hT : T ≤ w.heap.size) (hs : x.sz ≤ 1048576) :
    Calls Try.prog 9 #[.agg v, .int .i64 1] w fun en w' => ∃ k : Nat, en = .returned (.int .i64 k) ∧ Over B T w w' :=
  (markGraph_roomK x w B T v h hT hs).mono fun _ _ ⟨k, h1, _, h2⟩ => ⟨k, h1, h2⟩
end Go.Proofs.Ytobpcfelgobedab
