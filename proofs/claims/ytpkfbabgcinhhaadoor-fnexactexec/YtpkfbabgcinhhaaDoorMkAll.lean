/- The contracts of the laws' markIntS and heldIntS. -/
import Derived.Test.YtpkfbabgcinhhaaDoorCkD
import Derived.Test.YtpkfbabgcinhhaaDoorCkA
import Derived.Lib.ItoaNum
namespace Go.Proofs.YtpkfbabgcinhhaaDoor
open Go.ChangeShapes Go.WideShapes Go.ChangeAt Go.RowKit
/-- The numbers from k on. -/
def marksI (k n : Nat) : List Int := (List.range n).map fun i => ((k + i : Nat) : Int)
theorem marksI_len (k n : Nat) : (marksI k n).length = n := by simp [marksI]
theorem marksI_at (k n i : Nat) (h : i < (marksI k n).length) : (marksI k n)[i] = ((k + i : Nat) : Int) := by simp [marksI]
set_option maxHeartbeats 1000000 in
theorem markIntS_any (l : List Int) (w : World) (B k : Nat) (v : Value) (h : OwnI w B v l) (hk : k ≤ 1000000000) (hl : l.length ≤ 10000000) :
    Calls Tryd.prog 14 #[v, .int .i64 k] w fun en w' => en = .returned (.int .i64 ((k + l.length : Nat) : Int)) ∧ OwnI w' B v (marksI k l.length) ∧ ∃ g, v.ownBlock = some g ∧ But g w w' := by
  obtain ⟨g, cap, cur, rfl, hB, hh, hc, hm, hs, hx⟩ := h.parts
  have hM := maxLen_lt
  clear h hx
  obtain ⟨N, hN⟩ : ∃ N, l.length = N := ⟨_, rfl⟩
  rw [hN] at hc hl ⊢
  clear hN
  go_enter Tryd.func14, Tryd.ntmps14
  go_wp2
  go_loopw [1, 5] (fun q i wr => ∃ j : Nat, j ≤ N ∧ i = .int .i64 j ∧ q = .int .i64 ((k + j : Nat) : Int) ∧ Hid (But g w wr ∧ ∃ cu : Array Value, wr.heap[g]? = some (.cells cu 3 (0, 0)) ∧ cu.size = cap ∧ ∀ r, r < j → cu[r]? = some (.int .i64 ((k + r : Nat) : Int)))) (fun _ i _ => N - (intOf i).toNat)
  case atStart => exact ⟨0, Nat.zero_le _, rfl, rfl, But.refl _ _, cur, hh, hs, fun r hr => absurd hr (Nat.not_lt_zero _)⟩
  case round =>
    obtain ⟨j, hj, rfl, rfl, hb⟩ := hrel
    by_cases hlt : j < N
    · obtain ⟨cu, c1, c2, c3⟩ := hb.out.2
      have hd : ∃ u, wr.cell? ⟨g, j, none⟩ = some u := ⟨cu[j], by simp [World.cell?, c1, show j < cu.size by omega]⟩
      obtain ⟨u, hu⟩ := hd
      have hf : wr.frozen? ⟨g, j, none⟩ = false := by simp [World.frozen?, c1]
      have C : Hid (wr.heap[g]? = some (.cells cu 3 (0, 0)) ∧ cu.size = cap ∧ ∀ r, r < j → cu[r]? = some (.int .i64 ((k + r : Nat) : Int))) := ⟨c1, c2, c3⟩
      clear c1 c2 c3 hh hs
      go_wp2
      go_roundw
      case rel =>
        refine ⟨j + 1, by omega, by go_num, by go_num, hb.out.1.set _ _, _, heap_setCell_same _ g _ _ _ _ C.out.1, by simpa using C.out.2.1, fun r hr => ?_⟩
        rw [Array.getElem?_setIfInBounds]
        by_cases he : j = r
        · subst he; rw [if_pos rfl, if_pos (by have := C.out.2.1; omega)]; simp
        · rw [if_neg he]; exact C.out.2.2 r (by omega)
      case measure => simp [intOf]; omega
    · have hjn : j = N := by omega
      subst hjn
      go_wp2
      go_ret
      obtain ⟨hb1, cu, c1, c2, c3⟩ := hb.out
      refine ⟨rfl, ?_, g, rfl, hb1⟩
      have := OwnI.of_parts (l := marksI k j) (cap := cap) hB c1 (by rw [marksI_len]; exact hc) hm c2 (fun i hi => by rw [marksI_at]; exact c3 i (by rw [marksI_len] at hi; exact hi))
      rw [marksI_len] at this
      exact this
set_option maxHeartbeats 1000000 in
theorem heldIntS_any (N : Nat) (w : World) (B k : Nat) (v : Value) (h : OwnI w B v (marksI k N)) (hk : k ≤ 1000000000) (hl : N ≤ 10000000) :
    Calls Tryd.prog 28 #[v, .int .i64 k] w fun en w' => en = .returned (.int .i64 ((k + N : Nat) : Int)) ∧ w' = w := by
  obtain ⟨g, cap, cur, rfl, hB, hh, hc, hm, hs, hx⟩ := h.parts
  have hM := maxLen_lt
  rw [marksI_len] at hc ⊢
  have HX : Hid (∀ r, r < N → w.cell? ⟨g, r, none⟩ = some (.int .i64 ((k + r : Nat) : Int))) := fun r hr => by
    have h1 := hx r (by rw [marksI_len]; exact hr)
    rw [marksI_at] at h1
    simpa [World.cell?, hh] using h1
  clear h hx hh hs
  go_enter Tryd.func28, Tryd.ntmps28
  go_wp2
  go_loop [1, 5] (fun q i => ∃ j : Nat, j ≤ N ∧ i = .int .i64 j ∧ q = .int .i64 ((k + j : Nat) : Int)) (fun _ i => N - (intOf i).toNat)
  case atStart => exact ⟨0, Nat.zero_le _, rfl, rfl⟩
  case round =>
    obtain ⟨j, hj, rfl, rfl⟩ := hrel
    by_cases hlt : j < N
    · have hu := HX.out j hlt
      go_wp2
      go_round
      case rel => exact ⟨j + 1, by omega, by go_num, by go_num⟩
      case measure => simp [intOf]; omega
    · have hjn : j = N := by omega
      subst hjn
      go_wp2
      go_ret
      exact ⟨rfl, rfl⟩
end Go.Proofs.YtpkfbabgcinhhaaDoor

/- What the laws' marks do with an argument: numbers over numbers, texts over texts, in blocks from B up to T. -/
namespace Go.Proofs.YtpkfbabgcinhhaaDoor
open Go.ChangeShapes Go.WideShapes Go.ChangeAt Go.RowKit
/-- A number in a number's place, a text in a text's, else the same. -/
def Like (u v : Value) : Prop := u = v ∨ (∃ m n, u = .int .i64 m ∧ v = .int .i64 n) ∨ ∃ s t, u = .string s ∧ v = .string t
theorem Like.trans {u v x : Value} (h : Like u v) (k : Like v x) : Like u x := by
  rcases h with rfl | ⟨m, n, rfl, rfl⟩ | ⟨s, t, rfl, rfl⟩
  · exact k
  · rcases k with rfl | ⟨m', n', _, rfl⟩ | ⟨s, t, h, _⟩
    · exact Or.inr (Or.inl ⟨_, _, rfl, rfl⟩)
    · exact Or.inr (Or.inl ⟨_, _, rfl, rfl⟩)
    · cases h
  · rcases k with rfl | ⟨m', n', h, _⟩ | ⟨s', t', _, rfl⟩
    · exact Or.inr (Or.inr ⟨_, _, rfl, rfl⟩)
    · cases h
    · exact Or.inr (Or.inr ⟨_, _, rfl, rfl⟩)
def isI (u : Value) : Prop := ∃ z, u = .int .i64 z
def isS (u : Value) : Prop := ∃ t, u = .string t
theorem isI.like {u v : Value} (h : isI u) (k : Like u v) : isI v := by
  obtain ⟨z, rfl⟩ := h
  rcases k with rfl | ⟨m, n, _, rfl⟩ | ⟨s, t, h, _⟩
  · exact ⟨_, rfl⟩
  · exact ⟨_, rfl⟩
  · cases h
theorem isS.like {u v : Value} (h : isS u) (k : Like u v) : isS v := by
  obtain ⟨z, rfl⟩ := h
  rcases k with rfl | ⟨m, n, h, _⟩ | ⟨s, t, _, rfl⟩
  · exact ⟨_, rfl⟩
  · cases h
  · exact ⟨_, rfl⟩
theorem Like.slice {a : Option Addr} {n c : Nat} {v : Value} (k : Like (.slice a n c) v) : v = .slice a n c := by
  rcases k with rfl | ⟨m, n, h, _⟩ | ⟨s, t, h, _⟩
  · rfl
  · cases h
  · cases h
theorem Like.ints {u : Value} (h : isI u) (n : Int) : Like u (.int .i64 n) := by
  obtain ⟨z, rfl⟩ := h; exact Or.inr (Or.inl ⟨_, _, rfl, rfl⟩)
theorem Like.texts {u : Value} (h : isS u) (t : ByteArray) : Like u (.string t) := by
  obtain ⟨z, rfl⟩ := h; exact Or.inr (Or.inr ⟨_, _, rfl, rfl⟩)
structure Over (B T : Nat) (w w' : World) : Prop where
  os : w'.os = w.os
  tape : w'.tape = w.tape
  output : w'.output = w.output
  size : w.heap.size ≤ w'.heap.size
  out : ∀ k, k < w.heap.size → (k < B ∨ T ≤ k) → w'.heap[k]? = w.heap[k]?
  within : ∀ (k : Nat) (c : Array Value) (ty : TypeId), w.heap[k]? = some (.cells c ty (0, 0)) → ∃ c' : Array Value, w'.heap[k]? = some (.cells c' ty (0, 0)) ∧ ∀ (i : Nat) (u : Value), c[i]? = some u → ∃ u' : Value, c'[i]? = some u' ∧ Like u u'
theorem Over.refl (B T : Nat) (w : World) : Over B T w w := ⟨rfl, rfl, rfl, Nat.le_refl _, fun _ _ _ => rfl, fun _ c _ h => ⟨c, h, fun _ u hu => ⟨u, hu, Or.inl rfl⟩⟩⟩
theorem Over.trans {B T : Nat} {w w1 w2 : World} (h : Over B T w w1) (k : Over B T w1 w2) : Over B T w w2 :=
  ⟨k.os.trans h.os, k.tape.trans h.tape, k.output.trans h.output, Nat.le_trans h.size k.size, fun i hi hr => (k.out i (Nat.lt_of_lt_of_le hi h.size) hr).trans (h.out i hi hr), fun i c ty hc => by
    obtain ⟨c1, h1, l1⟩ := h.within i c ty hc
    obtain ⟨c2, h2, l2⟩ := k.within i c1 ty h1
    refine ⟨c2, h2, fun j u hu => ?_⟩
    obtain ⟨u1, hu1, k1⟩ := l1 j u hu
    obtain ⟨u2, hu2, k2⟩ := l2 j u1 hu1
    exact ⟨u2, hu2, k1.trans k2⟩⟩
theorem Over.on {B T : Nat} {w w1 w2 : World} (h : Over B T w w1) (k : Below w1.heap.size w1 w2) : Over B T w w2 :=
  ⟨k.os.trans h.os, k.tape.trans h.tape, k.output.trans h.output, Nat.le_trans h.size k.size, fun i hi hr => (k.block i (Nat.lt_of_lt_of_le hi h.size)).trans (h.out i hi hr), fun i c ty hc => by
    obtain ⟨c1, h1, l1⟩ := h.within i c ty hc
    exact ⟨c1, (k.block i (Array.getElem?_eq_some_iff.1 h1).1).trans h1, l1⟩⟩
theorem Over.below {B T : Nat} {w w' : World} (h : Over B T w w') (hB : B ≤ w.heap.size) : Below B w w' :=
  ⟨h.os, h.tape, h.output, h.size, fun k hk => h.out k (by omega) (Or.inl hk)⟩
theorem Over.set {B T : Nat} {w0 w : World} {g : Nat} {c : Array Value} {ty : TypeId} {i : Nat} {u v : Value} (h : Over B T w0 w) (hB : B ≤ g) (hT : g < T) (hh : w.heap[g]? = some (.cells c ty (0, 0))) (hc : c[i]? = some u) (hl : Like u v) : Over B T w0 (w.setCell ⟨g, i, none⟩ v) := by
  refine ⟨h.os, h.tape, h.output, by simp [World.setCell]; exact h.size, fun k hk hr => (Below.heap_setCell w ⟨g, i, none⟩ v k (by show k ≠ g; omega)).trans (h.out k hk hr), fun k c0 ty0 h0 => ?_⟩
  obtain ⟨c1, h1, l1⟩ := h.within k c0 ty0 h0
  by_cases hk : k = g
  · subst hk
    rw [hh] at h1
    obtain ⟨rfl, rfl⟩ : c = c1 ∧ ty = ty0 := by simpa using h1
    refine ⟨_, heap_setCell_same w k i c ty v hh, fun j u0 hu0 => ?_⟩
    obtain ⟨u1, hu1, k1⟩ := l1 j u0 hu0
    rw [Array.getElem?_setIfInBounds]
    by_cases hj : i = j
    · subst hj
      have hlt : i < c.size := (Array.getElem?_eq_some_iff.1 hc).1
      rw [if_pos rfl, if_pos hlt]
      rw [hc] at hu1
      cases hu1
      exact ⟨v, rfl, k1.trans hl⟩
    · rw [if_neg hj]
      exact ⟨u1, hu1, k1⟩
  · exact ⟨c1, (Below.heap_setCell w ⟨g, i, none⟩ v k hk).trans h1, l1⟩
/-- The slice's cells lie in one plain block of B .. T, and are of these kinds. -/
def Room (w : World) (B T : Nat) (a : Option Addr) (n sz : Nat) (K : Nat → Nat → Value → Prop) : Prop :=
  n = 0 ∨ ∃ (b o : Nat) (c : Array Value) (ty : TypeId), a = some ⟨b, o, none⟩ ∧ B ≤ b ∧ b < T ∧ w.heap[b]? = some (.cells c ty (0, 0)) ∧ ∀ (i r : Nat), i < n → r < sz → ∃ u : Value, c[o + i * sz + r]? = some u ∧ K i r u
theorem Room.over {w w' : World} {B T : Nat} {a : Option Addr} {n sz : Nat} {K K' : Nat → Nat → Value → Prop} (h : Room w B T a n sz K) (hK : ∀ i r u u', i < n → r < sz → K i r u → Like u u' → K' i r u') (ho : Over B T w w') : Room w' B T a n sz K' := by
  rcases h with h | ⟨b, o, c, ty, ha, hB, hT, hh, hx⟩
  · exact Or.inl h
  · obtain ⟨c', h', l'⟩ := ho.within b c ty hh
    refine Or.inr ⟨b, o, c', ty, ha, hB, hT, h', fun i r hi hr => ?_⟩
    obtain ⟨u, hu, hk⟩ := hx i r hi hr
    obtain ⟨u', hu', hl⟩ := l' _ u hu
    exact ⟨u', hu', hK i r u u' hi hr hk hl⟩
theorem Room.stays {w w' : World} {B T : Nat} {a : Option Addr} {n sz : Nat} {K K' : Nat → Nat → Value → Prop} (h : Room w B T a n sz K) (hK : ∀ i r u, i < n → r < sz → K i r u → K' i r u) (bel : Below w.heap.size w w') : Room w' B T a n sz K' := by
  rcases h with h | ⟨b, o, c, ty, ha, hB, hT, hh, hx⟩
  · exact Or.inl h
  · refine Or.inr ⟨b, o, c, ty, ha, hB, hT, (bel.block b (Array.getElem?_eq_some_iff.1 hh).1).trans hh, fun i r hi hr => ?_⟩
    obtain ⟨u, hu, hk⟩ := hx i r hi hr
    exact ⟨u, hu, hK i r u hi hr hk⟩
def IntRoom (w : World) (B T : Nat) (a : Option Addr) (n : Nat) : Prop := Room w B T a n 1 fun _ _ u => isI u
theorem IntRoom.over {w w' : World} {B T : Nat} {a : Option Addr} {n : Nat} (h : IntRoom w B T a n) (ho : Over B T w w') : IntRoom w' B T a n := Room.over h (fun _ _ _ _ _ _ k l => k.like l) ho
theorem IntRoom.stays {w w' : World} {B T : Nat} {a : Option Addr} {n : Nat} (h : IntRoom w B T a n) (bel : Below w.heap.size w w') : IntRoom w' B T a n := Room.stays h (fun _ _ _ _ _ k => k) bel
theorem IntRoom.of {w : World} {B : Nat} {a : Option Addr} {zs : List Int} (h : IntsIs w B a zs) (hB : 0 < B) : IntRoom w B w.heap.size a zs.length := by
  rcases h.2 with h0 | ⟨b, o, ha, hb, hl, hp, hr⟩
  · exact Or.inl h0
  · obtain ⟨cs, T, hh⟩ := hp hB
    refine Or.inr ⟨b, o, cs, T, ha, hb, hl, hh, fun i r hi hr' => ?_⟩
    have h1 := hr i hi
    simp only [World.cell?, hh] at h1
    obtain rfl : r = 0 := by omega
    exact ⟨_, by simpa using h1, _, rfl⟩
end Go.Proofs.YtpkfbabgcinhhaaDoor

/- A list that a call owns, behind marks in other blocks. -/
namespace Go.Proofs.YtpkfbabgcinhhaaDoor
open Go.ChangeShapes Go.WideShapes Go.ChangeAt Go.RowKit
theorem OwnI.over {w w' : World} {A B T : Nat} {v : Value} {l : List Int} (h : OwnI w A v l) (ho : Over B T w w') (hne : ∀ g, v.ownBlock = some g → g < B ∨ T ≤ g) : OwnI w' A v l := by
  obtain ⟨g0, cap, hv, hl, h0 | ⟨g', cap', cur, hv', hB', hh, hr⟩⟩ := h
  · exact ⟨g0, cap, hv, hl, Or.inl h0⟩
  · exact ⟨g0, cap, hv, hl, Or.inr ⟨g', cap', cur, hv', hB', (ho.out g' (Array.getElem?_eq_some_iff.1 hh).1 (hne g' (by rw [hv']; rfl))).trans hh, hr⟩⟩
end Go.Proofs.YtpkfbabgcinhhaaDoor

/- Plain numerals: the digits that are put ahead of each other. -/
namespace Go.Proofs.YtpkfbabgcinhhaaDoor
def dd (a : Nat) : List UInt8 := if a = 0 then [] else Lib.decDigits a
theorem dd_zero : dd 0 = [] := rfl
theorem dd_pos {a : Nat} (h : a ≠ 0) : dd a = Lib.decDigits a := by unfold dd; rw [if_neg h]
theorem dd_step {a : Nat} (h : a ≠ 0) : dd a = dd (a / 10) ++ [UInt8.ofNat (48 + a % 10)] := by
  rw [dd_pos h]
  by_cases h10 : a < 10
  · rw [Lib.decDigits, dif_pos h10, show a / 10 = 0 by omega, dd_zero, show a % 10 = a by omega]; rfl
  · rw [Lib.decDigits, dif_neg h10, dd_pos (by omega)]
def tenS : ByteArray := ⟨#[48, 49, 50, 51, 52, 53, 54, 55, 56, 57]⟩
theorem tenS_fin : ∀ d : Fin 10, (tenS.extract d.val (d.val + 1)).data.toList = [UInt8.ofNat (48 + d.val)] := by decide +kernel
theorem tenS_at (d : Nat) (h : d < 10) (l : List UInt8) : ((⟨#[48, 49, 50, 51, 52, 53, 54, 55, 56, 57]⟩ : ByteArray).extract d (d + 1) ++ ⟨l.toArray⟩ : ByteArray) = ⟨(UInt8.ofNat (48 + d) :: l).toArray⟩ := by
  have h1 := tenS_fin ⟨d, h⟩
  apply ByteArray.ext
  apply Array.ext'
  rw [ByteArray.data_append, Array.toList_append]
  show (tenS.extract d (d + 1)).data.toList ++ _ = _
  rw [h1]; simp
theorem minus_app (l : List UInt8) : ((⟨#[45]⟩ : ByteArray) ++ ⟨l.toArray⟩ : ByteArray) = ⟨(45 :: l).toArray⟩ := by
  apply ByteArray.ext; apply Array.ext'; rw [ByteArray.data_append, Array.toList_append]; simp
theorem nDigits_20 (u : Nat) (h1 : 1 ≤ u) (h : u ≤ 9223372036854775808) : Lib.nDigits u ≤ 20 := by
  by_cases hh : Lib.nDigits u ≤ 20
  · exact hh
  · exfalso
    have key : ∀ k u : Nat, k < Lib.nDigits u → 10 ^ k ≤ u ∨ k = 0 := by
      intro k
      induction k with
      | zero => intro u _; exact Or.inr rfl
      | succ k ih =>
        intro u hk
        left
        by_cases h10 : u < 10
        · rw [Lib.nDigits_small h10] at hk; omega
        · rw [Lib.nDigits_big h10] at hk
          rcases ih (u / 10) (by omega) with h | h
          · rw [Nat.pow_succ]; omega
          · subst h; simp; omega
    rcases key 20 u (by omega) with h' | h'
    · have : (10 : Nat) ^ 20 = 100000000000000000000 := by decide
      omega
    · omega
theorem dd_len {a u : Nat} {l : List UInt8} (hu : u ≠ 0) (hU : u ≤ 9223372036854775808) (h : dd a ++ l = dd u) : l.length ≤ 20 := by
  have h1 := congrArg List.length h
  rw [List.length_append, dd_pos hu, Lib.decDigits_length] at h1
  have := nDigits_20 u (by omega) hU
  omega
theorem itoa_pos' {n : Int} (h : 0 < n) : Lib.itoa n = dd n.natAbs := by unfold Lib.itoa; rw [if_neg (by omega), dd_pos (by omega), show n.toNat = n.natAbs by omega]
theorem itoa_neg' {n : Int} (h : n < 0) : Lib.itoa n = 45 :: dd n.natAbs := by unfold Lib.itoa; rw [if_pos h, dd_pos (by omega)]
theorem itoa_zero' : Lib.itoa 0 = [48] := by unfold Lib.itoa Lib.decDigits; rfl
end Go.Proofs.YtpkfbabgcinhhaaDoor

/- Plain: the texts that the laws' marks write. -/
namespace Go.Proofs.YtpkfbabgcinhhaaDoor
def markS (k : Nat) : ByteArray := ⟨(109 :: dd k).toArray⟩
theorem digit_app (d : Nat) (l : List UInt8) : ((⟨#[48 + UInt8.ofNat d]⟩ : ByteArray) ++ ⟨l.toArray⟩ : ByteArray) = ⟨(UInt8.ofNat (48 + d) :: l).toArray⟩ := by
  have e : (48 : UInt8) + UInt8.ofNat d = UInt8.ofNat (48 + d) := by rw [UInt8.ofNat_add]; rfl
  rw [e]; apply ByteArray.ext; apply Array.ext'; rw [ByteArray.data_append, Array.toList_append]; simp
theorem mark_app (l : List UInt8) : ((⟨#[109]⟩ : ByteArray) ++ ⟨l.toArray⟩ : ByteArray) = ⟨(109 :: l).toArray⟩ := by
  apply ByteArray.ext; apply Array.ext'; rw [ByteArray.data_append, Array.toList_append]; simp
end Go.Proofs.YtpkfbabgcinhhaaDoor
