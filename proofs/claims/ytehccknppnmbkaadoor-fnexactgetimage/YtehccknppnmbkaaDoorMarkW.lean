/- The contracts of the laws' marks on an image: numbers over numbers. -/
import Derived.Test.YtehccknppnmbkaaDoorImageD
import Derived.Test.YtehccknppnmbkaaDoorMkAll
namespace Go.Proofs.YtehccknppnmbkaaDoor
open Go.ChangeShapes Go.WideShapes Go.ChangeAt Go.RowKit
theorem Over.setsW {B T : Nat} {w0 : World} {g : Nat} {ty : TypeId} (hB : B ≤ g) (hT : g < T) : ∀ (l : List Value) (w : World) (p : Nat) (c : Array Value), w.heap[g]? = some (.cells c ty (0, 0)) → (∀ (r : Nat) (hr : r < l.length), ∃ u : Value, c[p + r]? = some u ∧ Like u l[r]) → Over B T w0 w → Over B T w0 (Go.Proofs.YtehccknppnmbkaaDoor.sets g w p l)
  | [], _, _, _, _, _, h => h
  | v :: l, w, p, c, hh, hl, h => by
    obtain ⟨u, hu, hlk⟩ := hl 0 (by simp)
    refine Over.setsW hB hT l _ (p + 1) _ (heap_setCell_same w g p c ty v hh) (fun r hr => ?_) (h.set hB hT hh hu hlk)
    obtain ⟨u', hu', hlk'⟩ := hl (r + 1) (by simpa using hr)
    exact ⟨u', by rw [Array.getElem?_setIfInBounds, if_neg (by omega), ← hu']; congr 1; omega, by simpa using hlk'⟩
def WrdRoom (w : World) (B T : Nat) (a : Option Addr) (n : Nat) : Prop := Room w B T a n 5 fun _ _ u => isI u
theorem WrdRoom.over {w w' : World} {B T : Nat} {a : Option Addr} {n : Nat} (h : WrdRoom w B T a n) (ho : Over B T w w') : WrdRoom w' B T a n := Room.over h (fun _ _ _ _ _ _ k l => k.like l) ho
theorem WrdRoom.stays {w w' : World} {B T : Nat} {a : Option Addr} {n : Nat} (h : WrdRoom w B T a n) (bel : Below w.heap.size w w') : WrdRoom w' B T a n := Room.stays h (fun _ _ _ _ _ k => k) bel
theorem WrdRoom.of {w : World} {B : Nat} {a : Option Addr} {xs : List Wrd} (h : SlIs WrdIs 5 w B a xs) (hB : 0 < B) : WrdRoom w B w.heap.size a xs.length := by
  obtain ⟨_, vs, h | ⟨b, o, ha, hb, hl, hp, hc⟩, hx⟩ := h
  · exact Or.inl h
  · obtain ⟨cs, T, hh⟩ := hp hB
    refine Or.inr ⟨b, o, cs, T, ha, hb, hl, hh, fun i r hi hr => ?_⟩
    have h1 := (hc i hi).2 r hr
    have h2 := hx i hi
    obtain ⟨x, hxe⟩ : ∃ x, xs[i] = x := ⟨_, rfl⟩
    rw [hxe] at h2
    obtain ⟨hv, _⟩ := h2
    rw [(cells_of hh).1, hv] at h1
    rw [h1]
    match r, hr with
    | 0, _ => exact ⟨_, rfl, _, rfl⟩
    | 1, _ => exact ⟨_, rfl, _, rfl⟩
    | 2, _ => exact ⟨_, rfl, _, rfl⟩
    | 3, _ => exact ⟨_, rfl, _, rfl⟩
    | 4, _ => exact ⟨_, rfl, _, rfl⟩
def ImgRoom (w : World) (B T : Nat) (v : Array Value) (x : Img) : Prop := ∃ (us : Option Addr) (cs : Nat) (ub : Option Addr) (cb : Nat), v = #[.slice us x.sizes.length cs, .int .i64 x.params, .int .i64 x.slots, .slice ub x.code.length cb] ∧ IntRoom w B T us x.sizes.length ∧ WrdRoom w B T ub x.code.length
theorem ImgRoom.of {w : World} {B : Nat} {v : Array Value} {x : Img} (h : ImgIs w B v x) (hB : 0 < B) : ImgRoom w B w.heap.size v x := by
  obtain ⟨us, cs, ub, cb, e, _, h1, h2⟩ := h
  exact ⟨us, cs, ub, cb, e, IntRoom.of h1 hB, WrdRoom.of h2 hB⟩
theorem ImgRoom.stays {w w' : World} {B T : Nat} {v : Array Value} {x : Img} (h : ImgRoom w B T v x) (bel : Below w.heap.size w w') : ImgRoom w' B T v x := by
  obtain ⟨us, cs, ub, cb, e, h1, h2⟩ := h
  exact ⟨us, cs, ub, cb, e, h1.stays bel, h2.stays bel⟩
theorem Room.getW {w : World} {B T : Nat} {a : Option Addr} {n sz : Nat} {K : Nat → Nat → Value → Prop} (h : Room w B T a n sz K) {i : Nat} (hi : i < n) : ∃ (b o : Nat) (c : Array Value) (ty : TypeId), a = some ⟨b, o, none⟩ ∧ B ≤ b ∧ b < T ∧ w.heap[b]? = some (.cells c ty (0, 0)) ∧ ∀ (r : Nat), r < sz → ∃ u : Value, c[o + i * sz + r]? = some u ∧ K i r u := by
  rcases h with h | ⟨b, o, c, ty, ha, hB, hT, hh, hx⟩
  · omega
  · exact ⟨b, o, c, ty, ha, hB, hT, hh, fun r hr => hx i r hi hr⟩
set_option maxHeartbeats 1000000 in
theorem markIntS_roomW (n : Nat) (w : World) (B T k : Nat) (a : Option Addr) (cap : Nat) (h : IntRoom w B T a n) (hk : k + n ≤ 100000000) :
    Calls Tryd.prog 15 #[.slice a n cap, .int .i64 k] w fun en w' => en = .returned (.int .i64 ((k + n : Nat) : Int)) ∧ Over B T w w' := by
  go_enter Tryd.func15, Tryd.ntmps15
  go_wp2
  go_loopw [1, 5] (fun q i wr => ∃ j : Nat, j ≤ n ∧ i = .int .i64 j ∧ q = .int .i64 ((k + j : Nat) : Int) ∧ Hid (IntRoom wr B T a n) ∧ Hid (Over B T w wr)) (fun _ i _ => n - (intOf i).toNat)
  case atStart => exact ⟨0, Nat.zero_le _, rfl, rfl, h, Over.refl _ _ _⟩
  case round =>
    obtain ⟨j, hj, rfl, rfl, hr, ho⟩ := hrel
    by_cases hlt : j < n
    · obtain ⟨b, o, c, ty, rfl, hB, hT, hh, hx⟩ := hr.out.getW hlt
      obtain ⟨u0, hu0, k0⟩ := hx 0 (by omega)
      have c0 : wr.cell? ⟨b, o + j, none⟩ = some u0 := by rw [(cells_of hh).1]; simpa using hu0
      have f0 := (cells_of hh).2 (o + j)
      have HH := hideP hh
      have HK := hideP k0
      have HU := hideP hu0
      clear hh hx k0 hu0 h
      go_wp2
      go_roundw
      case rel =>
        have o1 : Over B T wr _ := (Over.refl B T wr).set hB hT HH.out (show c[o + j]? = some u0 by simpa using HU.out) (Like.ints HK.out ((k + j : Nat) : Int))
        exact ⟨j + 1, by omega, by go_num, by go_num, hr.out.over o1, ho.out.trans o1⟩
      case measure => simp [intOf]; omega
    · have hjn : j = n := by omega
      subst hjn
      go_wp2
      go_ret
      exact ⟨rfl, ho.out⟩
set_option maxHeartbeats 4000000 in
theorem markWordS_room (n : Nat) (w : World) (B T k : Nat) (a : Option Addr) (cap : Nat) (h : WrdRoom w B T a n) (hk : k + n * 5 ≤ 100000000) :
    Calls Tryd.prog 31 #[.slice a n cap, .int .i64 k] w fun en w' => en = .returned (.int .i64 ((k + n * 5 : Nat) : Int)) ∧ Over B T w w' := by
  go_enter Tryd.func31, Tryd.ntmps31
  go_wp2
  go_loopw [1, 5] (fun q i wr => ∃ j m : Nat, j ≤ n ∧ i = .int .i64 j ∧ q = .int .i64 m ∧ Hid (m = k + j * 5) ∧ Hid (WrdRoom wr B T a n) ∧ Hid (Over B T w wr)) (fun _ i _ => n - (intOf i).toNat)
  case atStart => exact ⟨0, k, Nat.zero_le _, rfl, rfl, show _ = _ by simp, h, Over.refl _ _ _⟩
  case round =>
    obtain ⟨j, m, hj, rfl, rfl, hmk, hr, ho⟩ := hrel
    by_cases hlt : j < n
    · obtain ⟨b, o, c, ty, rfl, hB, hT, hh, hx⟩ := hr.out.getW hlt
      have hm1 : m + 5 ≤ 100000000 := by have := hmk.out; omega
      obtain ⟨u0, hu0, k0⟩ := hx 0 (by omega)
      obtain ⟨u1, hu1, k1⟩ := hx 1 (by omega)
      obtain ⟨u2, hu2, k2⟩ := hx 2 (by omega)
      obtain ⟨u3, hu3, k3⟩ := hx 3 (by omega)
      obtain ⟨u4, hu4, k4⟩ := hx 4 (by omega)
      have c0 : wr.cell? ⟨b, o + j * 5, none⟩ = some u0 := by rw [(cells_of hh).1]; exact hu0
      have c1 : wr.cell? ⟨b, o + j * 5 + 1, none⟩ = some u1 := by rw [(cells_of hh).1]; exact hu1
      have c2 : wr.cell? ⟨b, o + j * 5 + 2, none⟩ = some u2 := by rw [(cells_of hh).1]; exact hu2
      have c3 : wr.cell? ⟨b, o + j * 5 + 3, none⟩ = some u3 := by rw [(cells_of hh).1]; exact hu3
      have c4 : wr.cell? ⟨b, o + j * 5 + 4, none⟩ = some u4 := by rw [(cells_of hh).1]; exact hu4
      have f0 := (cells_of hh).2
      have O2 : Hid (Over B T wr (sets b wr (o + j * 5) [.int .i64 m, .int .i64 ((m : Int) + 1), .int .i64 ((m : Int) + 1 + 1), .int .i64 ((m : Int) + 1 + 1 + 1), .int .i64 ((m : Int) + 1 + 1 + 1 + 1)])) := by
        refine Over.setsW hB hT _ wr (o + j * 5) _ hh (fun r hr => ?_) (Over.refl B T wr)
        match r, hr with
        | 0, _ => exact ⟨u0, hu0, Like.ints k0 _⟩
        | 1, _ => exact ⟨u1, hu1, Like.ints k1 _⟩
        | 2, _ => exact ⟨u2, hu2, Like.ints k2 _⟩
        | 3, _ => exact ⟨u3, hu3, Like.ints k3 _⟩
        | 4, _ => exact ⟨u4, hu4, Like.ints k4 _⟩
      clear hh hx k0 k1 k2 k3 k4 hu0 hu1 hu2 hu3 hu4 h
      go_wp2
      go_roundw
      case rel =>
        exact ⟨j + 1, m + 5, by omega, by go_num, by go_num, show _ = _ by rw [hmk.out]; omega, hr.out.over O2.out, ho.out.trans O2.out⟩
      case measure => simp [intOf]; omega
    · have hjn : j = n := by omega
      subst hjn
      go_wp2
      go_ret
      exact ⟨ret_int (by rw [hmk.out]), ho.out⟩
theorem Over.of_allocW {B T : Nat} {w w' : World} {o : Obj} (h : Over B T (w.alloc o) w') : Over B T w w' := ((Over.refl B T w).on ((Below.refl _ _).alloc (Nat.le_refl _) o)).trans h
set_option maxHeartbeats 1000000 in
theorem markImage_room (x : Img) (w : World) (B T : Nat) (v : Array Value) (h : ImgRoom w B T v x) (hT : T ≤ w.heap.size) (hs : x.sz ≤ 1048576) :
    Calls Tryd.prog 14 #[.agg v, .int .i64 1] w fun en w' => ∃ k : Nat, en = .returned (.int .i64 k) ∧ Over B T w w' := by
  obtain ⟨us, cs, ub, cb, rfl, h1, h2⟩ := h
  have hs' : x.sizes.length + slSz Wrd.sz x.code ≤ 1048576 := hs
  have hbl : x.sizes.length + x.code.length ≤ 1048576 := by unfold slSz at hs'; omega
  have H1 := hideP h1
  have H2 := hideP h2
  clear h1 h2
  go_enter Tryd.func14, Tryd.ntmps14
  go_wp2_with fail
  refine (markIntS_roomW x.sizes.length _ B T 1 us cs (H1.out.stays ((Below.refl _ _).alloc (Nat.le_refl _) _)) (by omega)).mono ?_
  rintro e1 w1 ⟨rfl, o1⟩
  have hv := (o1.out w.heap.size (by simp) (Or.inr hT)).trans (show (w.alloc _).heap[w.heap.size]? = _ from Array.getElem?_push_size)
  have c3 := (cells_of hv).1 3
  simp at c3
  have hb := (H2.out.stays ((Below.refl w.heap.size w).alloc (Nat.le_refl _) (.cells #[.slice us x.sizes.length cs, .int .i64 x.params, .int .i64 x.slots, .slice ub x.code.length cb] 32))).over o1
  have O1 := hideP o1
  clear o1 hv
  go_wp2_with fail
  refine (markWordS_room x.code.length _ B T (1 + x.sizes.length) ub cb hb (by omega)).mono ?_
  rintro e2 w2 ⟨rfl, o2⟩
  clear c3
  go_wp2
  go_ret
  exact ⟨_, rfl, (O1.out.trans o2).of_allocW⟩
end Go.Proofs.YtehccknppnmbkaaDoor
