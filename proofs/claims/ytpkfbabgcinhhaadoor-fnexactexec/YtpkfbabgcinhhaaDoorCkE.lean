/- The contracts of the laws' marks on an image: numbers over numbers. -/
import Derived.Test.YtpkfbabgcinhhaaDoorCkB
import Derived.Test.YtpkfbabgcinhhaaDoorMkAll
import Derived.Test.YtpkfbabgcinhhaaDoorMksA
import Derived.Test.YtpkfbabgcinhhaaDoorCkD
import Derived.Test.YtpkfbabgcinhhaaDoorCkQ
namespace Go.Proofs.YtpkfbabgcinhhaaDoor
open Go.ChangeShapes Go.WideShapes Go.ChangeAt Go.RowKit
theorem Over.setsW {B T : Nat} {w0 : World} {g : Nat} {ty : TypeId} (hB : B ≤ g) (hT : g < T) : ∀ (l : List Value) (w : World) (p : Nat) (c : Array Value), w.heap[g]? = some (.cells c ty (0, 0)) → (∀ (r : Nat) (hr : r < l.length), ∃ u : Value, c[p + r]? = some u ∧ Like u l[r]) → Over B T w0 w → Over B T w0 (Go.Proofs.YtpkfbabgcinhhaaDoor.sets g w p l)
  | [], _, _, _, _, _, h => h
  | v :: l, w, p, c, hh, hl, h => by
    obtain ⟨u, hu, hlk⟩ := hl 0 (by simp)
    refine Over.setsW hB hT l _ (p + 1) _ (heap_setCell_same w g p c ty v hh) (fun r hr => ?_) (h.set hB hT hh hu hlk)
    obtain ⟨u', hu', hlk'⟩ := hl (r + 1) (by simpa using hr)
    exact ⟨u', by rw [Array.getElem?_setIfInBounds, if_neg (by omega), ← hu']; congr 1; omega, by simpa using hlk'⟩
def WrdRoom (w : World) (B T : Nat) (a : Option Addr) (n : Nat) : Prop := Room w B T a n 5 fun _ _ u => isI u
theorem WrdRoom.over {w w' : World} {B T : Nat} {a : Option Addr} {n : Nat} (h : WrdRoom w B T a n) (ho : Over B T w w') : WrdRoom w' B T a n := Room.over h (fun _ _ _ _ _ _ k l => k.like l) ho
theorem WrdRoom.stays {w w' : World} {B T : Nat} {a : Option Addr} {n : Nat} (h : WrdRoom w B T a n) (bel : Below w.heap.size w w') : WrdRoom w' B T a n := Room.stays h (fun _ _ _ _ _ k => k) bel
theorem WrdRoom.of {w : World} {B : Nat} {a : Option Addr} {xs : List Wrd} (h : SlIs WrdIs 5 w B a xs) (hB : 0 < B) : WrdRoom w B w.heap.size a xs.length := by
  obtain ⟨_, vs, h | ⟨b, o, ha, hb, hl, hp, hc⟩, hx⟩ := h
  · exact Or.inl h
  · obtain ⟨cs, T, hh⟩ := hp hB
    refine Or.inr ⟨b, o, cs, T, ha, hb, hl, hh, fun i r hi hr => ?_⟩
    have h1 := (hc i hi).2 r hr
    have h2 := hx i hi
    obtain ⟨x, hxe⟩ : ∃ x, xs[i] = x := ⟨_, rfl⟩
    rw [hxe] at h2
    obtain ⟨hv, _⟩ := h2
    rw [(cells_of hh).1, hv] at h1
    rw [h1]
    match r, hr with
    | 0, _ => exact ⟨_, rfl, _, rfl⟩
    | 1, _ => exact ⟨_, rfl, _, rfl⟩
    | 2, _ => exact ⟨_, rfl, _, rfl⟩
    | 3, _ => exact ⟨_, rfl, _, rfl⟩
    | 4, _ => exact ⟨_, rfl, _, rfl⟩
def ImgRoom (w : World) (B T : Nat) (v : Array Value) (x : Img) : Prop := ∃ (us : Option Addr) (cs : Nat) (ub : Option Addr) (cb : Nat), v = #[.slice us x.sizes.length cs, .int .i64 x.params, .int .i64 x.slots, .slice ub x.code.length cb] ∧ IntRoom w B T us x.sizes.length ∧ WrdRoom w B T ub x.code.length
theorem ImgRoom.of {w : World} {B : Nat} {v : Array Value} {x : Img} (h : ImgIs w B v x) (hB : 0 < B) : ImgRoom w B w.heap.size v x := by
  obtain ⟨us, cs, ub, cb, e, _, h1, h2⟩ := h
  exact ⟨us, cs, ub, cb, e, IntRoom.of h1 hB, WrdRoom.of h2 hB⟩
theorem ImgRoom.stays {w w' : World} {B T : Nat} {v : Array Value} {x : Img} (h : ImgRoom w B T v x) (bel : Below w.heap.size w w') : ImgRoom w' B T v x := by
  obtain ⟨us, cs, ub, cb, e, h1, h2⟩ := h
  exact ⟨us, cs, ub, cb, e, h1.stays bel, h2.stays bel⟩
theorem Room.getW {w : World} {B T : Nat} {a : Option Addr} {n sz : Nat} {K : Nat → Nat → Value → Prop} (h : Room w B T a n sz K) {i : Nat} (hi : i < n) : ∃ (b o : Nat) (c : Array Value) (ty : TypeId), a = some ⟨b, o, none⟩ ∧ B ≤ b ∧ b < T ∧ w.heap[b]? = some (.cells c ty (0, 0)) ∧ ∀ (r : Nat), r < sz → ∃ u : Value, c[o + i * sz + r]? = some u ∧ K i r u := by
  rcases h with h | ⟨b, o, c, ty, ha, hB, hT, hh, hx⟩
  · omega
  · exact ⟨b, o, c, ty, ha, hB, hT, hh, fun r hr => hx i r hi hr⟩
set_option maxHeartbeats 1000000 in
theorem markIntS_roomW (n : Nat) (w : World) (B T k : Nat) (a : Option Addr) (cap : Nat) (h : IntRoom w B T a n) (hk : k + n ≤ 100000000) :
    Calls Tryd.prog 14 #[.slice a n cap, .int .i64 k] w fun en w' => en = .returned (.int .i64 ((k + n : Nat) : Int)) ∧ Over B T w w' := by
  go_enter Tryd.func14, Tryd.ntmps14
  go_wp2
  go_loopw [1, 5] (fun q i wr => ∃ j : Nat, j ≤ n ∧ i = .int .i64 j ∧ q = .int .i64 ((k + j : Nat) : Int) ∧ Hid (IntRoom wr B T a n) ∧ Hid (Over B T w wr)) (fun _ i _ => n - (intOf i).toNat)
  case atStart => exact ⟨0, Nat.zero_le _, rfl, rfl, h, Over.refl _ _ _⟩
  case round =>
    obtain ⟨j, hj, rfl, rfl, hr, ho⟩ := hrel
    by_cases hlt : j < n
    · obtain ⟨b, o, c, ty, rfl, hB, hT, hh, hx⟩ := hr.out.getW hlt
      obtain ⟨u0, hu0, k0⟩ := hx 0 (by omega)
      have c0 : wr.cell? ⟨b, o + j, none⟩ = some u0 := by rw [(cells_of hh).1]; simpa using hu0
      have f0 := (cells_of hh).2 (o + j)
      have HH := hideP hh
      have HK := hideP k0
      have HU := hideP hu0
      clear hh hx k0 hu0 h
      go_wp2
      go_roundw
      case rel =>
        have o1 : Over B T wr _ := (Over.refl B T wr).set hB hT HH.out (show c[o + j]? = some u0 by simpa using HU.out) (Like.ints HK.out ((k + j : Nat) : Int))
        exact ⟨j + 1, by omega, by go_num, by go_num, hr.out.over o1, ho.out.trans o1⟩
      case measure => simp [intOf]; omega
    · have hjn : j = n := by omega
      subst hjn
      go_wp2
      go_ret
      exact ⟨rfl, ho.out⟩
set_option maxHeartbeats 4000000 in
theorem markWordS_room (n : Nat) (w : World) (B T k : Nat) (a : Option Addr) (cap : Nat) (h : WrdRoom w B T a n) (hk : k + n * 5 ≤ 100000000) :
    Calls Tryd.prog 27 #[.slice a n cap, .int .i64 k] w fun en w' => en = .returned (.int .i64 ((k + n * 5 : Nat) : Int)) ∧ Over B T w w' := by
  go_enter Tryd.func27, Tryd.ntmps27
  go_wp2
  go_loopw [1, 5] (fun q i wr => ∃ j m : Nat, j ≤ n ∧ i = .int .i64 j ∧ q = .int .i64 m ∧ Hid (m = k + j * 5) ∧ Hid (WrdRoom wr B T a n) ∧ Hid (Over B T w wr)) (fun _ i _ => n - (intOf i).toNat)
  case atStart => exact ⟨0, k, Nat.zero_le _, rfl, rfl, show _ = _ by simp, h, Over.refl _ _ _⟩
  case round =>
    obtain ⟨j, m, hj, rfl, rfl, hmk, hr, ho⟩ := hrel
    by_cases hlt : j < n
    · obtain ⟨b, o, c, ty, rfl, hB, hT, hh, hx⟩ := hr.out.getW hlt
      have hm1 : m + 5 ≤ 100000000 := by have := hmk.out; omega
      obtain ⟨u0, hu0, k0⟩ := hx 0 (by omega)
      obtain ⟨u1, hu1, k1⟩ := hx 1 (by omega)
      obtain ⟨u2, hu2, k2⟩ := hx 2 (by omega)
      obtain ⟨u3, hu3, k3⟩ := hx 3 (by omega)
      obtain ⟨u4, hu4, k4⟩ := hx 4 (by omega)
      have c0 : wr.cell? ⟨b, o + j * 5, none⟩ = some u0 := by rw [(cells_of hh).1]; exact hu0
      have c1 : wr.cell? ⟨b, o + j * 5 + 1, none⟩ = some u1 := by rw [(cells_of hh).1]; exact hu1
      have c2 : wr.cell? ⟨b, o + j * 5 + 2, none⟩ = some u2 := by rw [(cells_of hh).1]; exact hu2
      have c3 : wr.cell? ⟨b, o + j * 5 + 3, none⟩ = some u3 := by rw [(cells_of hh).1]; exact hu3
      have c4 : wr.cell? ⟨b, o + j * 5 + 4, none⟩ = some u4 := by rw [(cells_of hh).1]; exact hu4
      have f0 := (cells_of hh).2
      have O2 : Hid (Over B T wr (sets b wr (o + j * 5) [.int .i64 m, .int .i64 ((m : Int) + 1), .int .i64 ((m : Int) + 1 + 1), .int .i64 ((m : Int) + 1 + 1 + 1), .int .i64 ((m : Int) + 1 + 1 + 1 + 1)])) := by
        refine Over.setsW hB hT _ wr (o + j * 5) _ hh (fun r hr => ?_) (Over.refl B T wr)
        match r, hr with
        | 0, _ => exact ⟨u0, hu0, Like.ints k0 _⟩
        | 1, _ => exact ⟨u1, hu1, Like.ints k1 _⟩
        | 2, _ => exact ⟨u2, hu2, Like.ints k2 _⟩
        | 3, _ => exact ⟨u3, hu3, Like.ints k3 _⟩
        | 4, _ => exact ⟨u4, hu4, Like.ints k4 _⟩
      clear hh hx k0 k1 k2 k3 k4 hu0 hu1 hu2 hu3 hu4 h
      go_wp2
      go_roundw
      case rel =>
        exact ⟨j + 1, m + 5, by omega, by go_num, by go_num, show _ = _ by rw [hmk.out]; omega, hr.out.over O2.out, ho.out.trans O2.out⟩
      case measure => simp [intOf]; omega
    · have hjn : j = n := by omega
      subst hjn
      go_wp2
      go_ret
      exact ⟨ret_int (by rw [hmk.out]), ho.out⟩
theorem Over.of_allocW {B T : Nat} {w w' : World} {o : Obj} (h : Over B T (w.alloc o) w') : Over B T w w' := ((Over.refl B T w).on ((Below.refl _ _).alloc (Nat.le_refl _) o)).trans h
set_option maxHeartbeats 1000000 in
theorem markImage_room (x : Img) (w : World) (B T : Nat) (v : Array Value) (h : ImgRoom w B T v x) (hT : T ≤ w.heap.size) (hs : x.sz ≤ 1048576) :
    Calls Tryd.prog 13 #[.agg v, .int .i64 1] w fun en w' => ∃ k : Nat, en = .returned (.int .i64 k) ∧ Over B T w w' := by
  obtain ⟨us, cs, ub, cb, rfl, h1, h2⟩ := h
  have hs' : x.sizes.length + slSz Wrd.sz x.code ≤ 1048576 := hs
  have hbl : x.sizes.length + x.code.length ≤ 1048576 := by unfold slSz at hs'; omega
  have H1 := hideP h1
  have H2 := hideP h2
  clear h1 h2
  go_enter Tryd.func13, Tryd.ntmps13
  go_wp2_with fail
  refine (markIntS_roomW x.sizes.length _ B T 1 us cs (H1.out.stays ((Below.refl _ _).alloc (Nat.le_refl _) _)) (by omega)).mono ?_
  rintro e1 w1 ⟨rfl, o1⟩
  have hv := (o1.out w.heap.size (by simp) (Or.inr hT)).trans (show (w.alloc _).heap[w.heap.size]? = _ from Array.getElem?_push_size)
  have c3 := (cells_of hv).1 3
  simp at c3
  have hb := (H2.out.stays ((Below.refl w.heap.size w).alloc (Nat.le_refl _) (.cells #[.slice us x.sizes.length cs, .int .i64 x.params, .int .i64 x.slots, .slice ub x.code.length cb] 32))).over o1
  have O1 := hideP o1
  clear o1 hv
  go_wp2_with fail
  refine (markWordS_room x.code.length _ B T (1 + x.sizes.length) ub cb hb (by omega)).mono ?_
  rintro e2 w2 ⟨rfl, o2⟩
  clear c3
  go_wp2
  go_ret
  exact ⟨_, rfl, (O1.out.trans o2).of_allocW⟩
end Go.Proofs.YtpkfbabgcinhhaaDoor

/- The laws' marks on an image that a call owns: what they write, and that they find it again. -/
namespace Go.Proofs.YtpkfbabgcinhhaaDoor
open Go.ChangeShapes Go.WideShapes Go.ChangeAt Go.RowKit
def w5 : List Bool := [false, false, false, false, false]
def wrdL (b o n : Nat) : List Cel := (List.range n).flatMap fun i => celL b (o + i * 5) w5
theorem wrdL_succ (b o n : Nat) : wrdL b o (n + 1) = wrdL b o n ++ celL b (o + n * 5) w5 := by simp [wrdL, List.range_succ]
theorem wrdL_len (b o : Nat) : ∀ n, (wrdL b o n).length = n * 5
  | 0 => rfl
  | n + 1 => by rw [wrdL_succ, List.length_append, wrdL_len b o n]; show _ + 5 = _; omega
theorem wrdL_mem {b o b' o' : Nat} {t : Bool} : ∀ {n : Nat}, (b', o', t) ∈ wrdL b o n → b' = b ∧ o ≤ o' ∧ o' < o + n * 5
  | 0, h => by simp [wrdL] at h
  | n + 1, h => by
    rw [wrdL_succ] at h
    rcases List.mem_append.1 h with h | h
    · obtain ⟨h1, h2, h3⟩ := wrdL_mem h
      exact ⟨h1, h2, by omega⟩
    · have := celL_mem h
      have e : w5.length = 5 := rfl
      omega
set_option maxHeartbeats 4000000 in
theorem markWordS_mks (n : Nat) (w : World) (k b o cap : Nat) (c : Array Value) (T : TypeId) (hh : w.heap[b]? = some (.cells c T (0, 0))) (hs : o + n * 5 ≤ c.size) (hk : k + n * 5 ≤ 100000000) :
    Calls Tryd.prog 27 #[.slice (some ⟨b, o, none⟩) n cap, .int .i64 k] w fun en w' => en = .returned (.int .i64 ((k + n * 5 : Nat) : Int)) ∧ Mks w w' (wrdL b o n) k := by
  have hb : b < w.heap.size := (Array.getElem?_eq_some_iff.1 hh).1
  have HH := hideP hh
  clear hh
  go_enter Tryd.func27, Tryd.ntmps27
  go_wp2
  go_loopg [1, 5] n (fun gk q i wr => ∃ j m : Nat, gk + j = n ∧ i = .int .i64 j ∧ q = .int .i64 m ∧ Hid (m = k + j * 5) ∧ Hid (Mks w wr (wrdL b o j) k))
  case atStart => exact ⟨0, k, by simp, rfl, rfl, show _ = _ by simp, Mks.nil w k⟩
  case round =>
    obtain ⟨j, m, hgk, rfl, rfl, hmk, hm⟩ := hrel
    by_cases hlt : j < n
    · obtain ⟨c1, h1, s1⟩ := hm.out.plain b c T HH.out
      have hmk' := hmk.out
      have hm1 : m + 5 ≤ 100000000 := by omega
      have hL0 : ∀ c ∈ wrdL b o j, c.1 < w.heap.size := fun c hc => by obtain ⟨b', o', t⟩ := c; have := wrdL_mem hc; simp; omega
      have hn0 : ∀ r t', (b, o + j * 5 + r, t') ∉ wrdL b o j := fun r t' ht => by have := wrdL_mem ht; omega
      have cc : ∀ r, r < 5 → ∃ u, wr.cell? ⟨b, o + j * 5 + r, none⟩ = some u := fun r hr => ⟨c1[o + j * 5 + r]'(by omega), by rw [(cells_of h1).1]; exact Array.getElem?_eq_getElem (by omega)⟩
      obtain ⟨u0, e0⟩ := cc 0 (by omega)
      obtain ⟨u1, e1⟩ := cc 1 (by omega)
      obtain ⟨u2, e2⟩ := cc 2 (by omega)
      obtain ⟨u3, e3⟩ := cc 3 (by omega)
      obtain ⟨u4, e4⟩ := cc 4 (by omega)
      rw [Nat.add_zero] at e0
      have f0 := (cells_of h1).2
      have hlen := wrdL_len b o j
      have M5 := hideP (Mks.sets HH.out w5 [.int .i64 (m : Int), .int .i64 ((m : Int) + 1), .int .i64 ((m : Int) + 1 + 1), .int .i64 ((m : Int) + 1 + 1 + 1), .int .i64 ((m : Int) + 1 + 1 + 1 + 1)] (wrdL b o j) wr (o + j * 5) hm.out hL0 rfl (fun r h h' => by
        rw [hlen, ← hmk']
        match r, h with
        | 0, _ => rfl
        | 1, _ => rfl
        | 2, _ => rfl
        | 3, _ => rfl
        | 4, _ => rfl) (fun r t' _ => hn0 r t') (by show o + j * 5 + 5 ≤ _; omega))
      clear h1 cc hmk'
      go_wp2
      go_roundg (n - (j + 1))
      case rel => exact ⟨j + 1, m + 5, by omega, by go_num, by go_num, show _ = _ by rw [hmk.out]; omega, by rw [wrdL_succ]; exact M5.out⟩
      case measure => omega
    · have hjn : j = n := by omega
      subst hjn
      go_wp2
      go_ret
      exact ⟨ret_int (by rw [hmk.out]), hm.out⟩
theorem markZ (w : World) (ad : Option Addr) (cap k : Nat) :
    Calls Tryd.prog 14 #[.slice ad 0 cap, .int .i64 k] w fun en w' => en = .returned (.int .i64 (k : Int)) ∧ w' = w := by
  go_enter Tryd.func14, Tryd.ntmps14
  go_wp2
  go_loop [1, 5] (fun q i => i = .int .i64 0 ∧ q = .int .i64 (k : Int)) (fun _ _ => 0)
  case atStart => exact ⟨rfl, rfl⟩
  case round =>
    obtain ⟨rfl, rfl⟩ := hrel
    go_wp2
    go_ret
    exact ⟨rfl, rfl⟩
theorem heldZ (w : World) (ad : Option Addr) (cap k : Nat) :
    Calls Tryd.prog 28 #[.slice ad 0 cap, .int .i64 k] w fun en w' => en = .returned (.int .i64 (k : Int)) ∧ w' = w := by
  go_enter Tryd.func28, Tryd.ntmps28
  go_wp2
  go_loop [1, 5] (fun q i => i = .int .i64 0 ∧ q = .int .i64 (k : Int)) (fun _ _ => 0)
  case atStart => exact ⟨rfl, rfl⟩
  case round =>
    obtain ⟨rfl, rfl⟩ := hrel
    go_wp2
    go_ret
    exact ⟨rfl, rfl⟩
theorem markWZ (w : World) (ad : Option Addr) (cap k : Nat) :
    Calls Tryd.prog 27 #[.slice ad 0 cap, .int .i64 k] w fun en w' => en = .returned (.int .i64 (k : Int)) ∧ w' = w := by
  go_enter Tryd.func27, Tryd.ntmps27
  go_wp2
  go_loop [1, 5] (fun q i => i = .int .i64 0 ∧ q = .int .i64 (k : Int)) (fun _ _ => 0)
  case atStart => exact ⟨rfl, rfl⟩
  case round =>
    obtain ⟨rfl, rfl⟩ := hrel
    go_wp2
    go_ret
    exact ⟨rfl, rfl⟩
/-- Where a row lies: its block, where it begins there, how many elements. -/
structure Row3 where
  b : Nat
  o : Nat
  n : Nat
/-- How an image of one's own lies: its sizes and its words in blocks of their own. -/
structure MOwn (w : World) (v : Array Value) (S C : Row3) : Prop where
  val : ∃ ads caps p r adc capc, v = #[.slice ads S.n caps, .int .i64 p, .int .i64 r, .slice adc C.n capc] ∧ (S.n = 0 ∨ ads = some ⟨S.b, S.o, none⟩) ∧ (C.n = 0 ∨ adc = some ⟨C.b, C.o, none⟩)
  srow : 0 < S.n → ∃ c T, w.heap[S.b]? = some (.cells c T (0, 0)) ∧ S.o + S.n ≤ c.size
  crow : 0 < C.n → ∃ c T, w.heap[C.b]? = some (.cells c T (0, 0)) ∧ C.o + C.n * 5 ≤ c.size
  sc : 0 < S.n → 0 < C.n → S.b ≠ C.b
/-- Its cells that are marked. -/
def imL (S C : Row3) : List Cel := intL S.b S.o S.n ++ wrdL C.b C.o C.n
theorem imL_len (S C : Row3) : (imL S C).length = S.n + C.n * 5 := by rw [imL, List.length_append, intL_len, wrdL_len]
theorem MOwn.marked {w w' : World} {v : Array Value} {S C : Row3} {k : Nat} (h : MOwn w v S C) (hm : Mks w w' (imL S C) k) : MOwn w' v S C where
  val := h.val
  srow := fun hn => by
    obtain ⟨c, T, h1, h2⟩ := h.srow hn
    obtain ⟨c', h3, h4⟩ := hm.plain _ c T h1
    exact ⟨c', T, h3, by omega⟩
  crow := fun hn => by
    obtain ⟨c, T, h1, h2⟩ := h.crow hn
    obtain ⟨c', h3, h4⟩ := hm.plain _ c T h1
    exact ⟨c', T, h3, by omega⟩
  sc := h.sc
theorem MOwn.stays {w w' : World} {v : Array Value} {S C : Row3} (h : MOwn w v S C) (bel : Below w.heap.size w w') : MOwn w' v S C where
  val := h.val
  srow := fun hn => by
    obtain ⟨c, T, h1, h2⟩ := h.srow hn
    exact ⟨c, T, (bel.block _ (Array.getElem?_eq_some_iff.1 h1).1).trans h1, h2⟩
  crow := fun hn => by
    obtain ⟨c, T, h1, h2⟩ := h.crow hn
    exact ⟨c, T, (bel.block _ (Array.getElem?_eq_some_iff.1 h1).1).trans h1, h2⟩
  sc := h.sc
theorem MOwn.above {w w' : World} {v : Array Value} {S C : Row3} {B : Nat} (h : MOwn w v S C) (low : ∀ c ∈ imL S C, B ≤ c.1) (hk : ∀ k, B ≤ k → k < w.heap.size → w'.heap[k]? = w.heap[k]?) : MOwn w' v S C where
  val := h.val
  srow := fun hn => by
    obtain ⟨c, T, h1, h2⟩ := h.srow hn
    have hm : (S.b, S.o, false) ∈ imL S C := List.mem_append_left _ (by simp only [intL, List.mem_map, List.mem_range]; exact ⟨0, hn, by simp⟩)
    exact ⟨c, T, (hk _ (low _ hm) (Array.getElem?_eq_some_iff.1 h1).1).trans h1, h2⟩
  crow := fun hn => by
    obtain ⟨c, T, h1, h2⟩ := h.crow hn
    have hm : (C.b, C.o, false) ∈ imL S C := List.mem_append_right _ (by rw [wrdL, List.mem_flatMap]; exact ⟨0, by simpa using hn, by simp [celL, w5]⟩)
    exact ⟨c, T, (hk _ (low _ hm) (Array.getElem?_eq_some_iff.1 h1).1).trans h1, h2⟩
  sc := h.sc
/-- The marks are there. -/
def HereW (w : World) (L : List Cel) (k : Nat) : Prop := ∀ i (h : i < L.length), w.cell? ⟨L[i].1, L[i].2.1, none⟩ = some (mkV (k + i) L[i].2.2)
theorem HereW.left {w : World} {A B : List Cel} {k : Nat} (h : HereW w (A ++ B) k) : HereW w A k := fun i hi => by
  have := h i (by rw [List.length_append]; omega)
  rw [List.getElem_append_left hi] at this
  exact this
theorem HereW.right {w : World} {A B : List Cel} {k : Nat} (h : HereW w (A ++ B) k) : HereW w B (k + A.length) := fun i hi => by
  have := h (A.length + i) (by rw [List.length_append]; omega)
  rw [List.getElem_append_right (by omega)] at this
  simp only [Nat.add_sub_cancel_left] at this
  rw [← Nat.add_assoc] at this
  exact this
theorem HereW.stays {w w' : World} {L : List Cel} {k : Nat} (h : HereW w L k) (bel : Below w.heap.size w w') : HereW w' L k := fun i hi =>
  (bel.cell (p := ⟨L[i].1, L[i].2.1, none⟩) (World.block_lt_of_cell? w _ (h i hi))).trans (h i hi)
theorem HereW.int {w : World} {b o n k : Nat} (h : HereW w (intL b o n) k) (i : Nat) (hi : i < n) : w.cell? ⟨b, o + i, none⟩ = some (.int .i64 ((k + i : Nat) : Int)) := by
  have hl : i < (intL b o n).length := by rw [intL_len]; exact hi
  have h1 := h i hl
  have e : (intL b o n)[i] = (b, o + i, false) := by simp [intL]
  rw [e] at h1
  exact h1
theorem HereW.wrd {w : World} {b o k : Nat} : ∀ {n : Nat}, HereW w (wrdL b o n) k → ∀ i r, i < n → r < 5 → w.cell? ⟨b, o + i * 5 + r, none⟩ = some (.int .i64 ((k + i * 5 + r : Nat) : Int))
  | 0, _, i, _, hi, _ => absurd hi (Nat.not_lt_zero _)
  | n + 1, h, i, r, hi, hr => by
    rw [wrdL_succ] at h
    by_cases e : i < n
    · exact HereW.wrd h.left i r e hr
    · have e2 : i = n := by omega
      subst e2
      have h2 := h.right
      rw [wrdL_len] at h2
      have h3 := h2 r (by show r < 5; exact hr)
      match r, hr with
      | 0, _ => exact h3
      | 1, _ => exact h3
      | 2, _ => exact h3
      | 3, _ => exact h3
      | 4, _ => exact h3
set_option maxHeartbeats 4000000 in
theorem markImage_mks (w : World) (k : Nat) (v : Array Value) (S C : Row3) (h : MOwn w v S C) (hk : k + (imL S C).length ≤ 100000000) :
    Calls Tryd.prog 13 #[.agg v, .int .i64 k] w fun en w' => en = .returned (.int .i64 ((k + (imL S C).length : Nat) : Int)) ∧ Mks w w' (imL S C) k := by
  obtain ⟨⟨ads, caps, p, r, adc, capc, rfl, hs, hc⟩, srow, crow, hsc⟩ := h
  have hlen := imL_len S C
  rw [hlen] at hk
  have MS : Hid (∀ W, Below w.heap.size w W → Calls Tryd.prog 14 #[.slice ads S.n caps, .int .i64 k] W fun en w' => en = .returned (.int .i64 ((k + S.n : Nat) : Int)) ∧ Mks W w' (intL S.b S.o S.n) k) := fun W hW => by
    by_cases hn : S.n = 0
    · rw [hn]
      refine (markZ W ads caps k).mono ?_
      rintro e w' ⟨rfl, rfl⟩
      exact ⟨by simp, by simpa [intL] using Mks.nil _ k⟩
    · have e := hs.resolve_left hn
      subst e
      obtain ⟨c, T, hh, hz⟩ := srow (by omega)
      exact markIntS_mks S.n W k S.b S.o caps c T ((hW.block _ (Array.getElem?_eq_some_iff.1 hh).1).trans hh) (by omega) (by omega)
  have hLs : ∀ c ∈ intL S.b S.o S.n, c.1 < w.heap.size := fun c hc => by
    obtain ⟨b', o', t⟩ := c
    have h1 := intL_mem hc
    obtain ⟨c, T, hh, _⟩ := srow (by omega)
    simp only [h1.1]; exact (Array.getElem?_eq_some_iff.1 hh).1
  have MB : Hid (∀ W, Mks w W (intL S.b S.o S.n) k → Calls Tryd.prog 27 #[.slice adc C.n capc, .int .i64 ((k + S.n : Nat) : Int)] W fun en w' => en = .returned (.int .i64 ((k + S.n + C.n * 5 : Nat) : Int)) ∧ Mks W w' (wrdL C.b C.o C.n) (k + S.n)) := fun W hW => by
    by_cases hn : C.n = 0
    · rw [hn]
      refine (markWZ W adc capc (k + S.n)).mono ?_
      rintro e w' ⟨rfl, rfl⟩
      exact ⟨by simp, by simpa [wrdL] using Mks.nil _ _⟩
    · have e := hc.resolve_left hn
      subst e
      obtain ⟨c, T, hh, hz⟩ := crow (by omega)
      obtain ⟨c1, h1, s1⟩ := hW.plain C.b c T hh
      exact markWordS_mks C.n W (k + S.n) C.b C.o capc c1 T h1 (by omega) (by omega)
  have DIS : Hid (∀ b' o' t t', (b', o', t) ∈ intL S.b S.o S.n → (b', o', t') ∉ wrdL C.b C.o C.n) := fun b' o' t t' h1 h2 => by
    have h3 := intL_mem h1
    have h4 := wrdL_mem h2
    exact hsc (by omega) (by omega) (h3.1.symm.trans h4.1)
  have HLS := hideP hLs
  obtain ⟨m1, hm1⟩ : ∃ m1, k + S.n = m1 := ⟨_, rfl⟩
  obtain ⟨m2, hm2⟩ : ∃ m2, m1 + C.n * 5 = m2 := ⟨_, rfl⟩
  rw [hm1] at MS MB
  rw [hm2] at MB
  have FIN : Hid (k + (imL S C).length = m2) := by show _ = _; rw [hlen]; omega
  have HM1 := hideP hm1
  obtain ⟨cn, hcn⟩ : ∃ cn, C.n = cn := ⟨_, rfl⟩
  obtain ⟨sn, hsn⟩ : ∃ sn, S.n = sn := ⟨_, rfl⟩
  rw [FIN.out]
  simp only [hsn] at MS ⊢
  simp only [hcn] at MB ⊢
  have EI : Hid (imL S C = intL S.b S.o S.n ++ wrdL C.b C.o C.n) := rfl
  clear hlen hLs hs hc srow crow hsc hm1 hm2 hk
  go_enter Tryd.func13, Tryd.ntmps13
  go_wp2_with fail
  refine (MS.out _ ((Below.refl _ _).alloc (Nat.le_refl _) _)).mono ?_
  rintro y1 w1 ⟨rfl, mk1⟩
  have al := (Below.refl w.heap.size w).alloc (Nat.le_refl _) (.cells #[.slice ads sn caps, .int .i64 p, .int .i64 r, .slice adc cn capc] 32)
  have M1 := ((Mks.nil w k).on al).append mk1 (by simp) (by simp)
  rw [List.nil_append] at M1
  have nb : (w.alloc (.cells #[.slice ads sn caps, .int .i64 p, .int .i64 r, .slice adc cn capc] 32)).heap[w.heap.size]? = some (.cells #[.slice ads sn caps, .int .i64 p, .int .i64 r, .slice adc cn capc] 32) := by show (w.heap.push _)[w.heap.size]? = _; exact Array.getElem?_push_size
  have hz : w.heap.size < (w.alloc (.cells #[.slice ads sn caps, .int .i64 p, .int .i64 r, .slice adc cn capc] 32)).heap.size := by simp
  have p3 : w1.cell? ⟨w.heap.size, 3, none⟩ = some (.slice adc cn capc) := by
    rw [mk1.off w.heap.size 3 hz (fun t ht => by
      have h1 := HLS.out (w.heap.size, 3, t) (by rw [hsn]; exact ht)
      exact Nat.lt_irrefl _ h1), (cells_of nb).1]
    rfl
  have HM := hideP M1
  clear mk1 M1 nb hz al
  rw [hsn] at HLS
  go_wp2_with fail
  refine (MB.out _ (by rw [hsn]; exact HM.out)).mono ?_
  rintro y2 w2 ⟨rfl, mk2⟩
  have M2 := hideP (HM.out.append (by rw [intL_len, ← hsn, HM1.out]; exact mk2) HLS.out (by have := DIS.out; rw [hsn, hcn] at this; exact this))
  clear mk2 p3
  go_wp2
  go_ret
  exact ⟨rfl, by rw [EI.out, hsn, hcn]; exact M2.out⟩
theorem RowAt.aboveW {w w' : World} {B : Nat} {a : Option Addr} {n sz : Nat} {vs : Nat → Array Value} (h : RowAt w B a n sz vs) (hz : w.heap.size ≤ w'.heap.size) (hk : ∀ k, B ≤ k → k < w.heap.size → w'.heap[k]? = w.heap[k]?) : RowAt w' B a n sz vs := by
  rcases h with h | ⟨b, o, ha, hB, hb, hp, hc⟩
  · exact Or.inl h
  · exact Or.inr ⟨b, o, ha, hB, Nat.lt_of_lt_of_le hb hz, fun h0 => let ⟨cs, T, h⟩ := hp h0; ⟨cs, T, (hk b hB hb).trans h⟩, fun i hi => ⟨(hc i hi).1, fun j hj => (World.cell?_of_block (a := ⟨b, o + i * sz + j, none⟩) (hk b hB hb)).trans ((hc i hi).2 j hj)⟩⟩
theorem IntsIs.aboveW {w w' : World} {B : Nat} {a : Option Addr} {zs : List Int} (h : IntsIs w B a zs) (hz : w.heap.size ≤ w'.heap.size) (hk : ∀ k, B ≤ k → k < w.heap.size → w'.heap[k]? = w.heap[k]?) : IntsIs w' B a zs := by
  obtain ⟨hl, h | ⟨b, o, ha, hB, hb, hp, hc⟩⟩ := h
  · exact ⟨hl, Or.inl h⟩
  · exact ⟨hl, Or.inr ⟨b, o, ha, hB, Nat.lt_of_lt_of_le hb hz, fun h0 => let ⟨cs, T, h⟩ := hp h0; ⟨cs, T, (hk b hB hb).trans h⟩, fun i hi => (World.cell?_of_block (a := ⟨b, o + i, none⟩) (hk b hB hb)).trans (hc i hi)⟩⟩
theorem ImgIs.above {w w' : World} {B : Nat} {v : Array Value} {x : Img} (h : ImgIs w B v x) (hz : w.heap.size ≤ w'.heap.size) (hk : ∀ k, B ≤ k → k < w.heap.size → w'.heap[k]? = w.heap[k]?) : ImgIs w' B v x := by
  obtain ⟨u, c, ub, cb, e, ok, hs, hl, vs, hr, hx⟩ := h
  exact ⟨u, c, ub, cb, e, ok, hs.aboveW hz hk, hl, vs, hr.aboveW hz hk, fun i hi => hx i hi⟩
end Go.Proofs.YtpkfbabgcinhhaaDoor

/- Lists of structs that a call owns: literals, append of one. -/
namespace Go.Proofs.YtpkfbabgcinhhaaDoor
open Go.ChangeShapes Go.WideShapes Go.ChangeAt Go.RowKit
/-- How a thing's cells stand in a list. -/
structure Elem (α : Type) where
  T : TypeId
  ST : TypeId
  sz : Nat
  bys : Nat
  z : Value
  cs : α → List Value
structure Elem.Ok {α : Type} (E : Elem α) : Prop where
  und : Tryd.prog.underlying E.ST = some (.slice E.T)
  info : (Tryd.prog.info? E.T).map (fun i => (i.zero, i.size, i.bytes)) = some (some E.z, E.sz, E.bys)
  zs : E.z.cells.size = E.sz
  pos : 0 < E.sz
  few : E.bys ≤ 1000
  len : ∀ x, (E.cs x).length = E.sz
  one : ∀ x, ∀ u ∈ E.cs x, u.oneCell' = true
section
variable {α : Type} {E : Elem α}
/-- The value is a slice of these things, in a block of its own from B on. -/
def OwnE (E : Elem α) (w : World) (B : Nat) (v : Value) (l : List α) : Prop := ∃ g cap, v = .slice (some ⟨g, 0, none⟩) l.length cap ∧ w.ownsRow B E.T E.sz v l.length (l.flatMap E.cs)
theorem flatE_len (O : E.Ok) (l : List α) : (l.flatMap E.cs).length = l.length * E.sz := by
  induction l with
  | nil => simp
  | cons x l ih => rw [List.flatMap_cons, List.length_append, ih, O.len, List.length_cons, Nat.succ_mul]; omega
theorem flatE_at (O : E.Ok) : ∀ (l : List α) (j r : Nat) (hj : j < l.length), r < E.sz → (l.flatMap E.cs)[j * E.sz + r]? = (E.cs l[j])[r]?
  | [], _, _, hj, _ => absurd hj (Nat.not_lt_zero _)
  | x :: l, 0, r, _, hr => by
    rw [List.flatMap_cons, List.getElem?_append_left (by rw [O.len]; omega)]; simp
  | x :: l, j + 1, r, hj, hr => by
    have := flatE_at O l j r (by simpa using hj) hr
    have e : (j + 1) * E.sz + r - E.sz = j * E.sz + r := by rw [Nat.succ_mul]; omega
    rw [List.flatMap_cons, List.getElem?_append_right (by rw [O.len, Nat.succ_mul]; omega), O.len, e, this]; simp
theorem mul_stepE (j n sz : Nat) (h : j < n) : j * sz + sz ≤ n * sz := by
  have := Nat.mul_le_mul_right sz (show j + 1 ≤ n from h)
  rw [Nat.succ_mul] at this; exact this
theorem OwnE.parts (O : E.Ok) {w : World} {B : Nat} {v : Value} {l : List α} (h : OwnE E w B v l) : ∃ g cap cur, v = .slice (some ⟨g, 0, none⟩) l.length cap ∧ B ≤ g ∧ w.heap[g]? = some (.cells cur E.T (0, 0)) ∧ l.length ≤ cap ∧ cap ≤ maxLen ∧ cur.size = cap * E.sz ∧ ∀ j (hj : j < l.length) r, r < E.sz → cur[j * E.sz + r]? = (E.cs l[j])[r]? := by
  obtain ⟨g0, cap0, hv0, hl, ⟨h0, _⟩ | ⟨g, cap, cur, hv, hB, hh, hc, hm, hs, ht⟩⟩ := h
  · rw [hv0] at h0; cases h0
  · refine ⟨g, cap, cur, hv, hB, hh, hc, hm, hs, fun j hj r hr => ?_⟩
    have hlt : j * E.sz + r < l.length * E.sz := by have := mul_stepE j l.length E.sz hj; omega
    have h1 : (cur.toList.take (l.length * E.sz))[j * E.sz + r]? = (l.flatMap E.cs)[j * E.sz + r]? := by rw [ht]
    rw [List.getElem?_take_of_lt hlt, flatE_at O l j r hj hr] at h1
    simpa using h1
theorem OwnE.of_parts (O : E.Ok) {w : World} {B g cap : Nat} {cur : Array Value} {l : List α} (hB : B ≤ g) (hh : w.heap[g]? = some (.cells cur E.T (0, 0))) (hc : l.length ≤ cap) (hm : cap ≤ maxLen) (hs : cur.size = cap * E.sz) (hx : ∀ j (hj : j < l.length) r, r < E.sz → cur[j * E.sz + r]? = (E.cs l[j])[r]?) : OwnE E w B (.slice (some ⟨g, 0, none⟩) l.length cap) l := by
  refine ⟨g, cap, rfl, flatE_len O l, Or.inr ⟨g, cap, cur, rfl, hB, hh, hc, hm, hs, ?_⟩⟩
  apply List.ext_getElem?
  intro i
  by_cases hi : i < l.length * E.sz
  · rw [List.getElem?_take_of_lt hi]
    have hp := O.pos
    have hj : i / E.sz < l.length := Nat.div_lt_of_lt_mul (by rw [Nat.mul_comm]; exact hi)
    have hr : i % E.sz < E.sz := Nat.mod_lt _ hp
    have e : i / E.sz * E.sz + i % E.sz = i := by rw [Nat.mul_comm]; exact Nat.div_add_mod _ _
    have h1 := hx (i / E.sz) hj (i % E.sz) hr
    have h2 := flatE_at O l (i / E.sz) (i % E.sz) hj hr
    rw [e] at h1 h2
    rw [h2, ← h1]; simp
  · rw [List.getElem?_eq_none (by simp; omega), List.getElem?_eq_none (by rw [flatE_len O]; omega)]
theorem OwnE.stays {w w' : World} {B : Nat} {v : Value} {l : List α} (h : OwnE E w B v l) (bel : Below w.heap.size w w') : OwnE E w' B v l :=
  let ⟨g, cap, hv, ho⟩ := h
  ⟨g, cap, hv, ownsI_stays ho bel⟩
theorem OwnE.mono {w : World} {B B' : Nat} {v : Value} {l : List α} (h : OwnE E w B v l) (hB : B' ≤ B) : OwnE E w B' v l := by
  obtain ⟨g, cap, hv, hl, h0 | ⟨g', cap', cur, hv', hB', hr⟩⟩ := h
  · exact ⟨g, cap, hv, hl, Or.inl h0⟩
  · exact ⟨g, cap, hv, hl, Or.inr ⟨g', cap', cur, hv', Nat.le_trans hB hB', hr⟩⟩
theorem OwnE.low {w : World} {B : Nat} {v : Value} {l : List α} (h : OwnE E w B v l) : ∀ b, v.ownBlock = some b → B ≤ b ∧ b < w.heap.size := fun b hb => h.choose_spec.choose_spec.2.lt b hb
theorem OwnE.kept {w w' : World} {B : Nat} {v : Value} {l : List α} {row : Option Nat} (h : OwnE E w B v l) (hg : w.grownBy w' row) (hne : v.ownBlock ≠ row) : OwnE E w' B v l := by
  obtain ⟨g, cap, hv, hl, h0 | ⟨g', cap', cur, hv', hB', hh, hr⟩⟩ := h
  · exact ⟨g, cap, hv, hl, Or.inl h0⟩
  · refine ⟨g, cap, hv, hl, Or.inr ⟨g', cap', cur, hv', hB', (hg.block g' (Array.getElem?_eq_some_iff.1 hh).1 ?_).trans hh, hr⟩⟩
    intro e; apply hne; rw [← e, hv']; rfl
/-- It stays where its own block does. -/
theorem OwnE.blk {w w' : World} {B : Nat} {v : Value} {l : List α} (h : OwnE E w B v l) (hb : ∀ g, v.ownBlock = some g → g < w.heap.size → w'.heap[g]? = w.heap[g]?) : OwnE E w' B v l := by
  obtain ⟨g0, cap, hv, hl, h0 | ⟨g', cap', cur, hv', hB', hh, hr⟩⟩ := h
  · exact ⟨g0, cap, hv, hl, Or.inl h0⟩
  · exact ⟨g0, cap, hv, hl, Or.inr ⟨g', cap', cur, hv', hB', (hb g' (by rw [hv']; rfl) (Array.getElem?_eq_some_iff.1 hh).1).trans hh, hr⟩⟩
theorem OwnE.butG {w w' : World} {B g : Nat} {v : Value} {l : List α} (h : OwnE E w B v l) (hb : But g w w') (hne : v.ownBlock ≠ some g) : OwnE E w' B v l :=
  h.blk (fun k hk hlt => hb.block k hlt (fun e => hne (by rw [hk, e])))
theorem own_nil (O : E.Ok) (w : World) (n : Nat) (hn : n = w.heap.size) : OwnE E (w.alloc (.cells #[] E.T)) w.heap.size (.slice (some ⟨n, 0, none⟩) 0 0) ([] : List α) := by
  subst hn
  exact OwnE.of_parts O (l := []) (Nat.le_refl _) (by show (w.heap.push _)[w.heap.size]? = _; exact Array.getElem?_push_size) (Nat.le_refl _) (Nat.zero_le _) (by simp) (fun j hj => absurd hj (Nat.not_lt_zero _))
theorem run_appE (O : E.Ok) {w : World} {B : Nat} {v1 : Value} {l1 : List α} {x : α} {b o cap2 : Nat} (ty : TypeId) (h1 : OwnE E w B v1 l1) (h2 : ∀ r, r < E.sz → w.cell? ⟨b, o + r, none⟩ = (E.cs x)[r]?) (hn : l1.length + 1 ≤ 8000000) (hB : B ≤ w.heap.size) :
    ∃ v' w', (Builtin.append_ #[E.ST, E.ST] ty #[v1, .slice (some ⟨b, o, none⟩) 1 cap2]).run Tryd.prog w = .ok v' w' ∧ OwnE E w' B v' (l1 ++ [x]) ∧ w.grownBy w' v1.ownBlock ∧ (v'.ownBlock = v1.ownBlock ∨ v'.ownBlock = some w.heap.size) := by
  obtain ⟨i0, hi, hz0, hz1, hz2⟩ := info_parts O.info
  obtain ⟨g, cap, hv, hown⟩ := h1
  have hf := O.few
  have hbn : (l1.length + 1) * E.bys ≤ 8000000 * 1000 := Nat.mul_le_mul hn hf
  obtain ⟨v', w', hr, ho, hg, hnil, hloc⟩ := run_append_own_at (P := Tryd.prog) w B E.ST ty E.T i0 E.z E.sz E.bys O.und hi hz0 hz1 hz2 O.zs O.pos v1 l1.length (l1.flatMap E.cs) hown ⟨b, o, none⟩ 1 cap2 (E.cs x) (by rw [O.len]; omega) (fun j u hj => by rw [addr_add', h2 j (by have := (List.getElem?_eq_some_iff.1 hj).1; rwa [O.len] at this), hj]) (O.one x) (by unfold maxLen; omega) (by omega) hB
  refine ⟨v', w', hr, ?_, hg, hloc⟩
  unfold OwnE
  rw [List.length_append, List.flatMap_append]
  have ho' := ho
  obtain ⟨_, ⟨h0, _⟩ | ⟨g', cap', _, hv', _⟩⟩ := ho'
  · have := (hnil.1 h0).1; rw [hv] at this; cases this
  · exact ⟨g', cap', hv', by simpa using ho⟩
theorem list_appE (O : E.Ok) {ops : Array Oper} {o : Oper} {a : Act} {Q : Exit → Act → World → Prop} {rest : List Oper} (w : World) (hgd : o.guard = none) (s y : Operand) (ho : o.op = .call { callee := .builtin .append, args := #[s, y], argTypes := #[E.ST, E.ST] })
    (B : Nat) (v1 : Value) (l1 : List α) (x : α) (b o2 cap2 : Nat) (hs : a.eval s = v1) (hx : a.eval y = .slice (some ⟨b, o2, none⟩) 1 cap2) (h1 : OwnE E w B v1 l1) (h2 : ∀ r, r < E.sz → w.cell? ⟨b, o2 + r, none⟩ = (E.cs x)[r]?) (hn : l1.length + 1 ≤ 8000000) (hB : B ≤ w.heap.size)
    (h : ∀ v' w', OwnE E w' B v' (l1 ++ [x]) → w.grownBy w' v1.ownBlock → (v'.ownBlock = v1.ownBlock ∨ v'.ownBlock = some w.heap.size) → wpList Tryd.prog ops Q rest (a.put o.dst v') w') :
    wpList Tryd.prog ops Q (o :: rest) a w := by
  refine wpList_plain hgd fun K hK => ?_
  obtain ⟨v', w', hr, r1, r2, r3⟩ := run_appE O (cap2 := cap2) o.type h1 h2 hn hB
  unfold Oper.wp execOp
  simp only [ho, resolve, invoke, builtin, Sem.run_bind, Sem.run_pure, Result.andThen_ok, List.map_toArray, List.map_cons, List.map_nil, hs, hx, hr]
  exact hK _ _ (h v' w' r1 r2 r3)
theorem step_appE (O : E.Ok) {ops : Array Oper} {o : Oper} {a : Act} {Q : Exit → Act → World → Prop} {K : Act → World → Prop} {F : Prop} (w : World) (hgd : o.guard = none) (s y : Operand) (ho : o.op = .call { callee := .builtin .append, args := #[s, y], argTypes := #[E.ST, E.ST] })
    (B : Nat) (v1 : Value) (l1 : List α) (x : α) (b o2 cap2 : Nat) (hs : a.eval s = v1) (hx : a.eval y = .slice (some ⟨b, o2, none⟩) 1 cap2) (h1 : OwnE E w B v1 l1) (h2 : ∀ r, r < E.sz → w.cell? ⟨b, o2 + r, none⟩ = (E.cs x)[r]?) (hn : l1.length + 1 ≤ 8000000) (hB : B ≤ w.heap.size)
    (h : ∀ v' w', OwnE E w' B v' (l1 ++ [x]) → w.grownBy w' v1.ownBlock → (v'.ownBlock = v1.ownBlock ∨ v'.ownBlock = some w.heap.size) → K (a.put o.dst v') w') :
    if Region.wanted o (yielded ops a.tmps) = true then Oper.wp Tryd.prog o a w K Q else F := by
  have hw : Region.wanted o (yielded ops a.tmps) = true := by simp [Region.wanted, hgd]
  rw [if_pos hw]
  obtain ⟨v', w', hr, r1, r2, r3⟩ := run_appE O (cap2 := cap2) o.type h1 h2 hn hB
  unfold Oper.wp execOp
  simp only [ho, resolve, invoke, builtin, Sem.run_bind, Sem.run_pure, Result.andThen_ok, List.map_toArray, List.map_cons, List.map_nil, hs, hx, hr]
  exact h v' w' r1 r2 r3
/-- The cells of element j. -/
theorem OwnE.at (O : E.Ok) {w : World} {B g n cap : Nat} {l : List α} (h : OwnE E w B (.slice (some ⟨g, 0, none⟩) n cap) l) (j : Nat) (hj : j < l.length) (r : Nat) (hr : r < E.sz) : w.cell? ⟨g, 0 + j * E.sz + r, none⟩ = (E.cs l[j])[r]? := by
  obtain ⟨g', cap', cur, hv, _, hh, _, _, _, hx⟩ := h.parts O
  cases hv
  simp only [World.cell?, hh, Nat.zero_add]
  exact hx j hj r hr
end
end Go.Proofs.YtpkfbabgcinhhaaDoor

/- Words in a list of one's own; an image of one's own out of its two lists. -/
namespace Go.Proofs.YtpkfbabgcinhhaaDoor
open Go.ChangeShapes Go.WideShapes Go.ChangeAt Go.RowKit
def wcs (x : Wrd) : List Value := [.int .i64 x.op, .int .i64 x.r, .int .i64 x.a, .int .i64 x.b, .int .i64 x.n]
def WrE : Elem Wrd := { T := 73, ST := 30, sz := 5, bys := 40, z := .agg #[.int .i64 0, .int .i64 0, .int .i64 0, .int .i64 0, .int .i64 0], cs := wcs }
theorem WrOk : WrE.Ok where
  und := Tryd.underlying30
  info := by kernel_rfl
  zs := rfl
  pos := by decide
  few := by decide
  len := fun _ => rfl
  one := fun x u hu => by simp [WrE, wcs] at hu; rcases hu with rfl | rfl | rfl | rfl | rfl <;> rfl
theorem wrd_slis {w : World} {B g n cap : Nat} {l : List Wrd} (h : OwnE WrE w B (.slice (some ⟨g, 0, none⟩) n cap) l) (hwf : ∀ x ∈ l, x.wf) : SlIs WrdIs 5 w B (some ⟨g, 0, none⟩) l := by
  obtain ⟨g', cap', cur, hv, hB, hh, hc, hm, hs, hx⟩ := h.parts WrOk
  cases hv
  refine ⟨Nat.le_trans hc hm, fun i => (wcs (l[i]?.getD default)).toArray, Or.inr ⟨g, 0, rfl, hB, (Array.getElem?_eq_some_iff.1 hh).1, fun _ => ⟨cur, _, hh⟩, fun i hi => ⟨rfl, fun j hj => ?_⟩⟩, fun i hi => ?_⟩
  · have h0 := hx i hi j hj
    rw [(cells_of hh).1, Nat.zero_add]
    show cur[i * 5 + j]? = (wcs (l[i]?.getD default)).toArray[j]?
    rw [List.getElem?_eq_getElem hi]
    exact h0.trans (by simp [WrE])
  · show WrdIs w B (wcs (l[i]?.getD default)).toArray l[i]
    rw [List.getElem?_eq_getElem hi]
    exact ⟨rfl, hwf _ (List.getElem_mem hi)⟩
theorem OwnE.ne_int {w : World} {B B2 g n cap g2 n2 cap2 : Nat} {l : List Wrd} {zs : List Int} (h : OwnE WrE w B (.slice (some ⟨g, 0, none⟩) n cap) l) (h2 : OwnI w B2 (.slice (some ⟨g2, 0, none⟩) n2 cap2) zs) : g2 ≠ g := fun e => by
  obtain ⟨g', cap', cur, hv, _, hh, _⟩ := h.parts WrOk
  obtain ⟨g3, cap3, cur3, hv3, _, hh3, _⟩ := h2.parts
  cases hv
  cases hv3
  rw [e, hh] at hh3
  injection hh3 with hh3
  injection hh3 with _ e2
  exact absurd e2 (by decide)
/-- The image is these two lists, each in a block of its own. -/
theorem img_of {w : World} {B gs cs gc cc : Nat} {m : Img} (h1 : OwnI w B (.slice (some ⟨gs, 0, none⟩) m.sizes.length cs) m.sizes) (h2 : OwnE WrE w B (.slice (some ⟨gc, 0, none⟩) m.code.length cc) m.code) (hw : m.wf) (hwf : ∀ x ∈ m.code, x.wf) :
    ImgIs w B #[.slice (some ⟨gs, 0, none⟩) m.sizes.length cs, .int .i64 m.params, .int .i64 m.slots, .slice (some ⟨gc, 0, none⟩) m.code.length cc] m :=
  ⟨_, _, _, _, rfl, hw, h1.is.2, wrd_slis h2 hwf⟩
theorem mown_of {w : World} {B gs cs gc cc : Nat} {m : Img} (h1 : OwnI w B (.slice (some ⟨gs, 0, none⟩) m.sizes.length cs) m.sizes) (h2 : OwnE WrE w B (.slice (some ⟨gc, 0, none⟩) m.code.length cc) m.code) :
    MOwn w #[.slice (some ⟨gs, 0, none⟩) m.sizes.length cs, .int .i64 m.params, .int .i64 m.slots, .slice (some ⟨gc, 0, none⟩) m.code.length cc] ⟨gs, 0, m.sizes.length⟩ ⟨gc, 0, m.code.length⟩ ∧ (∀ c ∈ imL ⟨gs, 0, m.sizes.length⟩ ⟨gc, 0, m.code.length⟩, B ≤ c.1 ∧ c.1 < w.heap.size) := by
  obtain ⟨g', cap', cur, hv, hB, hh, hc, hm, hs, hx⟩ := h1.parts
  obtain ⟨g2, cap2, cur2, hv2, hB2, hh2, hc2, hm2, hs2, hx2⟩ := h2.parts WrOk
  cases hv
  cases hv2
  refine ⟨⟨⟨_, _, _, _, _, _, rfl, Or.inr rfl, Or.inr rfl⟩, fun _ => ⟨cur, _, hh, by show 0 + m.sizes.length ≤ cur.size; rw [hs, Nat.zero_add]; exact hc⟩, fun _ => ⟨cur2, _, hh2, ?_⟩, fun _ _ => h2.ne_int h1⟩, fun c hc => ?_⟩
  · show 0 + m.code.length * 5 ≤ _
    rw [hs2, Nat.zero_add]
    exact Nat.mul_le_mul_right _ hc2
  · obtain ⟨b', o', t⟩ := c
    rcases List.mem_append.1 hc with hc | hc
    · have := intL_mem hc
      simp only at this ⊢
      rw [this.1]
      exact ⟨hB, (Array.getElem?_eq_some_iff.1 hh).1⟩
    · have := wrdL_mem hc
      simp only at this ⊢
      rw [this.1]
      exact ⟨hB2, (Array.getElem?_eq_some_iff.1 hh2).1⟩
/-- An image of its own, as a call hands it back. -/
def MadeIm (w : World) (R : Img) (en : Ending) (w' : World) : Prop := ∃ gs cs gc cc, en = .returned (.agg #[.slice (some ⟨gs, 0, none⟩) R.sizes.length cs, .int .i64 R.params, .int .i64 R.slots, .slice (some ⟨gc, 0, none⟩) R.code.length cc]) ∧ OwnI w' w.heap.size (.slice (some ⟨gs, 0, none⟩) R.sizes.length cs) R.sizes ∧ OwnE WrE w' w.heap.size (.slice (some ⟨gc, 0, none⟩) R.code.length cc) R.code ∧ Below w.heap.size w w'
theorem MadeIm.is {w : World} {R : Img} {en : Ending} {w' : World} (h : MadeIm w R en w') (hw : R.wf) (hwf : ∀ x ∈ R.code, x.wf) : ∃ v', en = .returned (.agg v') ∧ ImgIs w' w.heap.size v' R ∧ Below w.heap.size w w' := by
  obtain ⟨gs, cs, gc, cc, e, h1, h2, b⟩ := h
  exact ⟨_, e, img_of h1 h2 hw hwf, b⟩
theorem MadeIm.own {w : World} {R : Img} {en : Ending} {w' : World} (h : MadeIm w R en w') (hw : R.wf) (hwf : ∀ x ∈ R.code, x.wf) (hn : R.sizes.length + R.code.length * 5 ≤ 50000000) : ∃ v' S C, en = .returned (.agg v') ∧ ImgIs w' w.heap.size v' R ∧ MOwn w' v' S C ∧ (∀ c ∈ imL S C, w.heap.size ≤ c.1 ∧ c.1 < w'.heap.size) ∧ (imL S C).length ≤ 50000000 ∧ Below w.heap.size w w' := by
  obtain ⟨gs, cs, gc, cc, e, h1, h2, b⟩ := h
  obtain ⟨o1, o2⟩ := mown_of h1 h2
  exact ⟨_, _, _, e, img_of h1 h2 hw hwf, o1, o2, by rw [imL_len]; exact hn, b⟩
theorem wrd_wf {w : World} {B : Nat} {a : Option Addr} {l : List Wrd} (h : SlIs WrdIs 5 w B a l) : ∀ x ∈ l, x.wf := fun x hx => by
  obtain ⟨i, hi, rfl⟩ := List.getElem_of_mem hx
  obtain ⟨_, _, _, _, _, _, _, _, ok⟩ := h.at i hi
  exact ok.2
/-- One word's N put anew. -/
theorem OwnE.setN {w : World} {B g n cap : Nat} {l : List Wrd} (h : OwnE WrE w B (.slice (some ⟨g, 0, none⟩) n cap) l) {j : Nat} (hj : j < l.length) (z : Int) :
    OwnE WrE (w.setCell ⟨g, j * 5 + 4, none⟩ (.int .i64 z)) B (.slice (some ⟨g, 0, none⟩) n cap) (l.set j ⟨l[j].op, l[j].r, l[j].a, l[j].b, z⟩) := by
  obtain ⟨g', cap', cur, hv, hB, hh, hc, hm, hs, hx⟩ := h.parts WrOk
  have hn : n = l.length := by cases hv; rfl
  cases hv
  have key := OwnE.of_parts (E := WrE) WrOk (l := l.set j ⟨l[j].op, l[j].r, l[j].a, l[j].b, z⟩) (w := w.setCell ⟨g, j * 5 + 4, none⟩ (.int .i64 z)) (cap := cap) hB (heap_setCell_same w g (j * 5 + 4) cur _ (.int .i64 z) hh) (by rw [List.length_set]; exact hc) hm (by simpa using hs) (fun i hi r hr => ?_)
  · rw [List.length_set] at key
    exact key
  · have hi2 : i < l.length := by rw [List.length_set] at hi; exact hi
    have hsz : cur.size = cap * 5 := hs
    have hr5 : r < 5 := hr
    show (cur.setIfInBounds (j * 5 + 4) (.int .i64 z))[i * 5 + r]? = _
    rw [Array.getElem?_setIfInBounds]
    by_cases e : i = j
    · subst e
      rw [List.getElem_set_self]
      have h0 : cur[i * 5 + r]? = _ := hx i hi2 r hr
      by_cases e2 : r = 4
      · subst e2
        rw [if_pos rfl, if_pos (by rw [hsz]; omega)]
        rfl
      · rw [if_neg (by omega), h0]
        match r, hr5, e2 with
        | 0, _, _ => rfl
        | 1, _, _ => rfl
        | 2, _, _ => rfl
        | 3, _, _ => rfl
        | 4, _, e2 => exact absurd rfl e2
    · rw [if_neg (by omega), List.getElem_set_ne (fun e3 => e e3.symm)]
      exact hx i hi2 r hr
theorem OwnE.w5 {w : World} {B g n cap : Nat} {l : List Wrd} (h : OwnE WrE w B (.slice (some ⟨g, 0, none⟩) n cap) l) {j : Nat} (hj : j < l.length) {y0 y1 y2 y3 y4 : Int} (hy : l[j] = ⟨y0, y1, y2, y3, y4⟩) :
    w.cell? ⟨g, j * 5, none⟩ = some (.int .i64 y0) ∧ w.cell? ⟨g, j * 5 + 1, none⟩ = some (.int .i64 y1) ∧ w.cell? ⟨g, j * 5 + 2, none⟩ = some (.int .i64 y2) ∧ w.cell? ⟨g, j * 5 + 3, none⟩ = some (.int .i64 y3) ∧ w.cell? ⟨g, j * 5 + 4, none⟩ = some (.int .i64 y4) ∧ (∀ o, w.frozen? ⟨g, o, none⟩ = false) ∧ g < w.heap.size := by
  obtain ⟨g', cap', cur, hv, hB, hh, hc, hm, hs, hx⟩ := h.parts WrOk
  cases hv
  have k := fun r hr => hx j hj r hr
  rw [hy] at k
  have c := (cells_of hh).1
  exact ⟨(c _).trans (k 0 (by decide)), (c _).trans (k 1 (by decide)), (c _).trans (k 2 (by decide)), (c _).trans (k 3 (by decide)), (c _).trans (k 4 (by decide)), (cells_of hh).2, (Array.getElem?_eq_some_iff.1 hh).1⟩
end Go.Proofs.YtpkfbabgcinhhaaDoor

/- Lists that a call owns and that may be nil: append of one in a drawn region; as the lists of an image. -/
namespace Go.Proofs.YtpkfbabgcinhhaaDoor
open Go.ChangeShapes Go.WideShapes Go.ChangeAt Go.RowKit
def IntE : Elem Int := { T := 3, ST := 22, sz := 1, bys := 8, z := .int .i64 0, cs := fun x => [.int .i64 x] }
theorem IntOk : IntE.Ok where
  und := Tryd.underlying22
  info := by kernel_rfl
  zs := rfl
  pos := by decide
  few := by decide
  len := fun _ => rfl
  one := fun x u hu => by simp [IntE] at hu; subst hu; rfl
section
variable {α : Type} {E : Elem α}
/-- nil, or a slice in a block of its own from B on. -/
def OwnN (E : Elem α) (w : World) (B : Nat) (v : Value) (l : List α) : Prop := w.ownsRow B E.T E.sz v l.length (l.flatMap E.cs)
theorem OwnN.nil {w : World} {B : Nat} : OwnN E w B (.slice none 0 0) [] := ⟨by simp, Or.inl ⟨rfl, rfl⟩⟩
theorem OwnN.keep {w w' : World} {B : Nat} {v : Value} {l : List α} (h : OwnN E w B v l) (k : ∀ g, B ≤ g → g < w.heap.size → w'.heap[g]? = w.heap[g]?) : OwnN E w' B v l := by
  obtain ⟨hl, h0 | ⟨g, cap, cur, hv, hB, hh, hr⟩⟩ := h
  · exact ⟨hl, Or.inl h0⟩
  · exact ⟨hl, Or.inr ⟨g, cap, cur, hv, hB, (k g hB (Array.getElem?_eq_some_iff.1 hh).1).trans hh, hr⟩⟩
theorem OwnN.own {w : World} {B : Nat} {v : Value} {l : List α} (h : OwnN E w B v l) (hne : l ≠ []) : OwnE E w B v l := by
  obtain ⟨_, ⟨_, h0⟩ | ⟨g, cap, cur, hv, _⟩⟩ := id h
  · exact absurd (List.eq_nil_of_length_eq_zero h0) hne
  · exact ⟨g, cap, hv, h⟩
theorem OwnN.shape {w : World} {B : Nat} {v : Value} {l : List α} (h : OwnN E w B v l) : ∃ a n c, v = .slice a n c := by
  obtain ⟨_, ⟨h0, _⟩ | ⟨g, cap, _, hv, _⟩⟩ := h
  · exact ⟨_, _, _, h0⟩
  · exact ⟨_, _, _, hv⟩
theorem OwnN.low {w : World} {B : Nat} {v : Value} {l : List α} (h : OwnN E w B v l) : ∀ b, v.ownBlock = some b → B ≤ b ∧ b < w.heap.size := fun b hb => World.ownsRow.lt h b hb
theorem run_appN (O : E.Ok) {w : World} {B : Nat} {v1 : Value} {l1 : List α} {x : α} {b o2 cap2 : Nat} (ty : TypeId) (h1 : OwnN E w B v1 l1) (h2 : ∀ r, r < E.sz → w.cell? ⟨b, o2 + r, none⟩ = (E.cs x)[r]?) (hn : l1.length + 1 ≤ 8000000) (hB : B ≤ w.heap.size) :
    ∃ v' w', (Builtin.append_ #[E.ST, E.ST] ty #[v1, .slice (some ⟨b, o2, none⟩) 1 cap2]).run Tryd.prog w = .ok v' w' ∧ OwnN E w' B v' (l1 ++ [x]) ∧ w.grownBy w' v1.ownBlock := by
  obtain ⟨i0, hi, hz0, hz1, hz2⟩ := info_parts O.info
  have hbn : (l1.length + 1) * E.bys ≤ 8000000 * 1000 := Nat.mul_le_mul hn O.few
  obtain ⟨v', w', hr, ho, hg, _, _⟩ := run_append_own_at (P := Tryd.prog) w B E.ST ty E.T i0 E.z E.sz E.bys O.und hi hz0 hz1 hz2 O.zs O.pos v1 l1.length (l1.flatMap E.cs) h1 ⟨b, o2, none⟩ 1 cap2 (E.cs x) (by rw [O.len, Nat.one_mul]) (fun j u hj => by
      have hlt : j < E.sz := by have := (List.getElem?_eq_some_iff.1 hj).1; rwa [O.len] at this
      rw [addr_add']
      exact (h2 j hlt).trans hj) (fun u hu => O.one x u hu) (by unfold maxLen; omega) (by omega) hB
  refine ⟨v', w', hr, ?_, hg⟩
  unfold OwnN
  rw [List.length_append, List.flatMap_append]
  simpa using ho
/-- append of one to such a list, in a region that draws its order. -/
theorem step_appN (O : E.Ok) {ops : Array Oper} {o : Oper} {a : Act} {Q : Exit → Act → World → Prop} {K : Act → World → Prop} {F : Prop} (w : World) (hgd : o.guard = none) (s y : Operand) (ho : o.op = .call { callee := .builtin .append, args := #[s, y], argTypes := #[E.ST, E.ST] })
    (B : Nat) (v1 : Value) (l1 : List α) (x : α) (b o2 cap2 : Nat) (hs : a.eval s = v1) (hx : a.eval y = .slice (some ⟨b, o2, none⟩) 1 cap2) (h1 : OwnN E w B v1 l1) (h2 : ∀ r, r < E.sz → w.cell? ⟨b, o2 + r, none⟩ = (E.cs x)[r]?) (hn : l1.length + 1 ≤ 8000000) (hB : B ≤ w.heap.size)
    (h : ∀ v' w', OwnN E w' B v' (l1 ++ [x]) → w.grownBy w' v1.ownBlock → K (a.put o.dst v') w') :
    if Region.wanted o (yielded ops a.tmps) = true then Oper.wp Tryd.prog o a w K Q else F := by
  have hw : Region.wanted o (yielded ops a.tmps) = true := by simp [Region.wanted, hgd]
  rw [if_pos hw]
  obtain ⟨v', w', hr, r1, r2⟩ := run_appN O (cap2 := cap2) o.type h1 h2 hn hB
  unfold Oper.wp execOp
  simp only [ho, resolve, invoke, builtin, Sem.run_bind, Sem.run_pure, Result.andThen_ok, List.map_toArray, List.map_cons, List.map_nil, hs, hx, hr]
  exact h v' w' r1 r2
end
theorem intE_flat (l : List Int) : l.flatMap IntE.cs = l.map (Value.int .i64) := by
  induction l with
  | nil => rfl
  | cons x r ih => rw [List.flatMap_cons, ih]; rfl
theorem OwnN.ownI {w : World} {B : Nat} {v : Value} {l : List Int} (h : OwnN IntE w B v l) (hne : l ≠ []) : OwnI w B v l := by
  obtain ⟨g, cap, hv, ho⟩ := h.own hne
  refine ⟨g, cap, hv, ?_⟩
  rw [intE_flat] at ho
  exact ho
theorem OwnN.ints {w : World} {B : Nat} {v : Value} {l : List Int} (h : OwnN IntE w B v l) : ∃ u c, v = .slice u l.length c ∧ IntsIs w B u l := by
  cases l with
  | nil =>
    obtain ⟨_, ⟨hv, _⟩ | ⟨g, cap, cur, hv, hB, hh, hc, hm, hs, ht⟩⟩ := h
    · exact ⟨_, _, hv, Nat.zero_le _, Or.inl rfl⟩
    · exact ⟨_, _, hv, Nat.zero_le _, Or.inl rfl⟩
  | cons x r =>
    obtain ⟨g, cap, hv, _⟩ := id (h.ownI (by simp))
    refine ⟨_, _, hv, ?_⟩
    have := h.ownI (by simp)
    rw [hv] at this
    exact this.is.2
theorem OwnN.wrds {w : World} {B : Nat} {v : Value} {l : List Wrd} (h : OwnN WrE w B v l) (hwf : ∀ x ∈ l, x.wf) : ∃ u c, v = .slice u l.length c ∧ SlIs WrdIs 5 w B u l := by
  cases l with
  | nil =>
    obtain ⟨_, ⟨hv, _⟩ | ⟨g, cap, cur, hv, hB, hh, hc, hm, hs, ht⟩⟩ := h
    · exact ⟨_, _, hv, Nat.zero_le _, fun _ => #[], Or.inl rfl, fun i hi => absurd hi (Nat.not_lt_zero _)⟩
    · exact ⟨_, _, hv, Nat.zero_le _, fun _ => #[], Or.inl rfl, fun i hi => absurd hi (Nat.not_lt_zero _)⟩
  | cons x r =>
    obtain ⟨g, cap, hv, _⟩ := id (h.own (by simp))
    refine ⟨_, _, hv, ?_⟩
    have := h.own (by simp)
    rw [hv] at this
    exact wrd_slis this hwf
end Go.Proofs.YtpkfbabgcinhhaaDoor

/- The specification's run as it lies in memory, with its registers: what stays when one of its parts is written. -/
namespace Go.Proofs.YtpkfbabgcinhhaaDoor
open Go.ChangeShapes Go.WideShapes Go.ChangeAt Go.RowKit
theorem keepQ {W W' : World} {b c : Nat} {o : Obj} (h : W.heap[c]? = some o) (k : But b W W') (hne : c ≠ b) : W'.heap[c]? = some o := (k.block c (Array.getElem?_eq_some_iff.1 h).1 hne).trans h
/-- Block b begins with these numbers. -/
def RowZ (w : World) (b : Nat) (l : List Int) : Prop := ∃ cur, w.heap[b]? = some (.cells cur 3 (0, 0)) ∧ l.length ≤ cur.size ∧ ∀ j (h : j < l.length), cur[j]? = some (.int .i64 l[j])
theorem RowZ.lt {w : World} {b : Nat} {l : List Int} (h : RowZ w b l) : b < w.heap.size := by obtain ⟨cur, hh, _⟩ := h; exact (Array.getElem?_eq_some_iff.1 hh).1
theorem RowZ.at {w : World} {b : Nat} {l : List Int} (h : RowZ w b l) (j : Nat) (hj : j < l.length) : w.cell? ⟨b, j, none⟩ = some (.int .i64 l[j]) ∧ w.frozen? ⟨b, j, none⟩ = false := by
  obtain ⟨cur, hh, _, hx⟩ := h
  exact ⟨((cells_of hh).1 j).trans (hx j hj), (cells_of hh).2 j⟩
theorem RowZ.keep {w w' : World} {b : Nat} {l : List Int} (h : RowZ w b l) (k : w'.heap[b]? = w.heap[b]?) : RowZ w' b l := by
  obtain ⟨cur, hh, hr⟩ := h
  exact ⟨cur, k.trans hh, hr⟩
theorem RowZ.set {w : World} {b : Nat} {l : List Int} (h : RowZ w b l) (j : Nat) (z : Int) : RowZ (w.setCell ⟨b, j, none⟩ (.int .i64 z)) b (l.set j z) := by
  obtain ⟨cur, hh, hc, hx⟩ := h
  refine ⟨_, heap_setCell_same w b j cur _ (.int .i64 z) hh, by rw [List.length_set]; simpa using hc, fun i hi => ?_⟩
  rw [List.length_set] at hi
  rw [Array.getElem?_setIfInBounds]
  by_cases e : j = i
  · subst e
    rw [if_pos rfl, if_pos (by omega), List.getElem_set_self]
  · rw [if_neg e, List.getElem_set_ne e]
    exact hx i hi
theorem RowZ.of {w : World} {B g n c : Nat} {l : List Int} (h : OwnI w B (.slice (some ⟨g, 0, none⟩) n c) l) : RowZ w g l := by
  obtain ⟨g', cap, cur, hv, _, hh, hc, _, hs, hx⟩ := h.parts
  cases hv
  exact ⟨cur, hh, by omega, hx⟩
/-- Where its parts lie. -/
structure Lay where
  b : Nat
  r : Nat
  v : Nat
  m : Nat
  mb : Nat → Nat
  cr : Nat
  cv : Nat
  cm : Nat
  mc : Nat → Nat
/-- The run s and the registers g lie so; all that may be written lies from D on. -/
structure MAt (L : Lay) (D : Nat) (ui : Option Addr) (ci : Nat) (vo : Value) (w : World) (s : Mch) (g : List Int) : Prop where
  box : w.heap[L.b]? = some (.cells #[.slice (some ⟨L.m, 0, none⟩) s.mem.length L.cm, .slice (some ⟨L.v, 0, none⟩) s.vars.length L.cv, .slice ui s.input.length ci, .int .i64 s.fuel, .int .i64 s.code, .bool s.over, .int .i64 s.val, vo] 77 (0, 0))
  regs : RowZ w L.r g
  vars : RowZ w L.v s.vars
  rows : ∀ i (h : i < s.mem.length), RowZ w (L.mb i) s.mem[i] ∧ w.cell? ⟨L.m, i, none⟩ = some (.slice (some ⟨L.mb i, 0, none⟩) s.mem[i].length (L.mc i))
  mrow : ∃ cs, w.heap[L.m]? = some (.cells cs 22 (0, 0))
  inp : ∀ j (h : j < s.input.length), ∃ b o, ui = some ⟨b, o, none⟩ ∧ b < D ∧ b < w.heap.size ∧ w.cell? ⟨b, o + j, none⟩ = some (.int .i64 s.input[j])
  icap : s.input.length ≤ ci ∧ s.input.length ≤ 1000000
  out : OwnN IntE w D vo s.out
  lowB : D ≤ L.b
  lowR : D ≤ L.r
  lowV : D ≤ L.v
  lowM : D ≤ L.m
  lowI : ∀ i, i < s.mem.length → D ≤ L.mb i
  rv : L.r ≠ L.v
  ri : ∀ i, i < s.mem.length → L.mb i ≠ L.r ∧ L.mb i ≠ L.v
  ij : ∀ i j, i < s.mem.length → j < s.mem.length → L.mb i = L.mb j → i = j
  oo : ∀ o, vo.ownBlock = some o → o ≠ L.r ∧ o ≠ L.v ∧ ∀ i, i < s.mem.length → o ≠ L.mb i
  low : D ≤ w.heap.size
section
variable {L : Lay} {D : Nat} {ui : Option Addr} {ci : Nat} {vo : Value} {w w' : World} {s : Mch} {g : List Int}
theorem typ_ne2 {w : World} {a b : Nat} {cs cs2 : Array Value} {T T2 : TypeId} {m m2 : Nat × Nat} (h : w.heap[a]? = some (.cells cs T m)) (h2 : w.heap[b]? = some (.cells cs2 T2 m2)) (hT : T ≠ T2) : a ≠ b := fun e => by
  subst e; rw [h] at h2; simp at h2; exact hT h2.2.1
theorem RowZ.ne {w : World} {a b : Nat} {l : List Int} {cs : Array Value} {T : TypeId} {m : Nat × Nat} (h : RowZ w a l) (h2 : w.heap[b]? = some (.cells cs T m)) (hT : 3 ≠ T) : a ≠ b := by
  obtain ⟨cur, hh, _⟩ := h
  exact typ_ne2 hh h2 hT
theorem OwnN.block {v : Value} {l : List Int} (h : OwnN IntE w D v l) {o : Nat} (e : v.ownBlock = some o) : ∃ cur, w.heap[o]? = some (.cells cur 3 (0, 0)) := by
  obtain ⟨_, ⟨h0, _⟩ | ⟨b, cap, cur, hv, _, hh, _⟩⟩ := h
  · rw [h0] at e; simp [Value.ownBlock] at e
  · rw [hv] at e
    have e2 : b = o := by simpa [Value.ownBlock] using e
    subst e2
    exact ⟨cur, hh⟩
/-- One block of numbers is written; it is not the out list's. -/
theorem OwnN.butB {v : Value} {l : List Int} (h : OwnN IntE w D v l) {b : Nat} (k : But b w w') (hne : v.ownBlock ≠ some b) : OwnN IntE w' D v l := by
  obtain ⟨hl, h0 | ⟨o, cap, cur, hv, hB, hh, hr⟩⟩ := h
  · exact ⟨hl, Or.inl h0⟩
  · refine ⟨hl, Or.inr ⟨o, cap, cur, hv, hB, keepQ hh k (fun e => hne (by rw [hv, e]; rfl)), hr⟩⟩
/-- A register is written. -/
theorem MAt.setReg (h : MAt L D ui ci vo w s g) (j : Nat) (z : Int) : MAt L D ui ci vo (w.setCell ⟨L.r, j, none⟩ (.int .i64 z)) s (g.set j z) := by
  have k := (But.refl L.r w).set j (.int .i64 z)
  obtain ⟨cs, hm⟩ := h.mrow
  have nb := h.regs.ne h.box (by decide)
  have nm := h.regs.ne hm (by decide)
  have on : vo.ownBlock ≠ some L.r := fun e => (h.oo _ e).1 rfl
  exact
    { box := keepQ h.box k (Ne.symm nb)
      regs := h.regs.set j z
      vars := h.vars.keep (k.block _ h.vars.lt (Ne.symm h.rv))
      rows := fun i hi => ⟨(h.rows i hi).1.keep (k.block _ (h.rows i hi).1.lt (h.ri i hi).1), (k.cell (Array.getElem?_eq_some_iff.1 hm).1 (Ne.symm nm)).trans (h.rows i hi).2⟩
      mrow := ⟨cs, keepQ hm k (Ne.symm nm)⟩
      inp := fun i hi => by
        obtain ⟨b, o, e, h1, h2, h3⟩ := h.inp i hi
        exact ⟨b, o, e, h1, Nat.lt_of_lt_of_le h2 k.size, (k.cell h2 (by have := h.lowR; omega)).trans h3⟩
      icap := h.icap
      out := h.out.butB k on
      lowB := h.lowB, lowR := h.lowR, lowV := h.lowV, lowM := h.lowM, lowI := h.lowI, rv := h.rv, ri := h.ri, ij := h.ij, oo := h.oo
      low := Nat.le_trans h.low k.size }
/-- A variable is written. -/
theorem MAt.setVar (h : MAt L D ui ci vo w s g) (j : Nat) (z : Int) : MAt L D ui ci vo (w.setCell ⟨L.v, j, none⟩ (.int .i64 z)) { s with vars := s.vars.set j z } g := by
  have k := (But.refl L.v w).set j (.int .i64 z)
  obtain ⟨cs, hm⟩ := h.mrow
  have nb := h.vars.ne h.box (by decide)
  have nm := h.vars.ne hm (by decide)
  have on : vo.ownBlock ≠ some L.v := fun e => (h.oo _ e).2.1 rfl
  exact
    { box := by have := keepQ h.box k (Ne.symm nb); simpa using this
      regs := h.regs.keep (k.block _ h.regs.lt h.rv)
      vars := h.vars.set j z
      rows := fun i hi => ⟨(h.rows i hi).1.keep (k.block _ (h.rows i hi).1.lt (h.ri i hi).2), (k.cell (Array.getElem?_eq_some_iff.1 hm).1 (Ne.symm nm)).trans (h.rows i hi).2⟩
      mrow := ⟨cs, keepQ hm k (Ne.symm nm)⟩
      inp := fun i hi => by
        obtain ⟨b, o, e, h1, h2, h3⟩ := h.inp i hi
        exact ⟨b, o, e, h1, Nat.lt_of_lt_of_le h2 k.size, (k.cell h2 (by have := h.lowV; omega)).trans h3⟩
      icap := h.icap
      out := h.out.butB k on
      lowB := h.lowB, lowR := h.lowR, lowV := h.lowV, lowM := h.lowM, lowI := h.lowI, rv := h.rv, ri := h.ri, ij := h.ij, oo := h.oo
      low := Nat.le_trans h.low k.size }
/-- The box's cells are written anew (the slices as they were, or what is new of them told besides). -/
theorem MAt.setBox (h : MAt L D ui ci vo w s g) {w2 : World} (k : But L.b w w2) {s2 : Mch} {ui2 : Option Addr} {ci2 : Nat} (em : s2.mem = s.mem) (ev : s2.vars = s.vars) (eo : s2.out = s.out)
    (hb : w2.heap[L.b]? = some (.cells #[.slice (some ⟨L.m, 0, none⟩) s2.mem.length L.cm, .slice (some ⟨L.v, 0, none⟩) s2.vars.length L.cv, .slice ui2 s2.input.length ci2, .int .i64 s2.fuel, .int .i64 s2.code, .bool s2.over, .int .i64 s2.val, vo] 77 (0, 0)))
    (hi : ∀ j (h : j < s2.input.length), ∃ b o, ui2 = some ⟨b, o, none⟩ ∧ b < D ∧ b < w.heap.size ∧ w.cell? ⟨b, o + j, none⟩ = some (.int .i64 s2.input[j])) (hc : s2.input.length ≤ ci2 ∧ s2.input.length ≤ 1000000) :
    MAt L D ui2 ci2 vo w2 s2 g := by
  obtain ⟨cs, hm⟩ := h.mrow
  have nr := h.regs.ne h.box (by decide)
  have nv := h.vars.ne h.box (by decide)
  have nm := typ_ne2 hm h.box (by decide)
  have on : vo.ownBlock ≠ some L.b := fun e => by
    obtain ⟨cur, hh⟩ := h.out.block e
    exact absurd rfl (typ_ne2 hh h.box (by decide))
  obtain ⟨mem2, vars2, input2, fuel2, code2, over2, val2, out2⟩ := s2
  simp only at em ev eo hb hi hc
  subst em ev eo
  exact
    { box := hb
      regs := h.regs.keep (k.block _ h.regs.lt nr)
      vars := h.vars.keep (k.block _ h.vars.lt nv)
      rows := fun i hi => ⟨(h.rows i hi).1.keep (k.block _ (h.rows i hi).1.lt ((h.rows i hi).1.ne h.box (by decide))), (k.cell (Array.getElem?_eq_some_iff.1 hm).1 nm).trans (h.rows i hi).2⟩
      mrow := ⟨cs, keepQ hm k nm⟩
      inp := fun i hj => by
        obtain ⟨b, o, e, h1, h2, h3⟩ := hi i hj
        exact ⟨b, o, e, h1, Nat.lt_of_lt_of_le h2 k.size, (k.cell h2 (by have := h.lowB; omega)).trans h3⟩
      icap := hc
      out := h.out.butB k on
      lowB := h.lowB, lowR := h.lowR, lowV := h.lowV, lowM := h.lowM, lowI := h.lowI, rv := h.rv, ri := h.ri, ij := h.ij, oo := h.oo
      low := Nat.le_trans h.low k.size }
end
end Go.Proofs.YtpkfbabgcinhhaaDoor
