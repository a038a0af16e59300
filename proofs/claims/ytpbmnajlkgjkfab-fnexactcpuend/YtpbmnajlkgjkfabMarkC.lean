/- The contracts of the laws' marks on a Cpu: numbers over numbers. -/
import Derived.Test.YtpbmnajlkgjkfabCpuD
import Derived.Test.YtpbmnajlkgjkfabOverB
namespace Go.Proofs.Ytpbmnajlkgjkfab
open Go.ChangeShapes Go.WideShapes Go.ChangeAt Go.RowKit
theorem Over.of_allocC {B T : Nat} {w : World} {o : Obj} {w' : World} (h : Over B T (w.alloc o) w') : Over B T w w' :=
  ((Over.refl B T w).on ((Below.refl _ _).alloc (Nat.le_refl _) o)).trans h
theorem Room.getC {w : World} {B T : Nat} {a : Option Addr} {n sz : Nat} {K : Nat → Nat → Value → Prop} (h : Room w B T a n sz K) {i : Nat} (hi : i < n) : ∃ (b o : Nat) (c : Array Value) (ty : TypeId), a = some ⟨b, o, none⟩ ∧ B ≤ b ∧ b < T ∧ w.heap[b]? = some (.cells c ty (0, 0)) ∧ ∀ (r : Nat), r < sz → ∃ u : Value, c[o + i * sz + r]? = some u ∧ K i r u := by
  rcases h with h | ⟨b, o, c, ty, ha, hB, hT, hh, hx⟩
  · omega
  · exact ⟨b, o, c, ty, ha, hB, hT, hh, fun r hr => hx i r hi hr⟩
set_option maxHeartbeats 1000000 in
theorem markIntS_roomC (n : Nat) (w : World) (B T k : Nat) (a : Option Addr) (cap : Nat) (h : IntRoom w B T a n) (hk : k + n ≤ 100000000) :
    Calls Try.prog 22 #[.slice a n cap, .int .i64 k] w fun en w' => en = .returned (.int .i64 ((k + n : Nat) : Int)) ∧ Over B T w w' := by
  go_enter Try.func22, Try.ntmps22
  go_wp2
  go_loopw [1, 5] (fun q i wr => ∃ j : Nat, j ≤ n ∧ i = .int .i64 j ∧ q = .int .i64 ((k + j : Nat) : Int) ∧ Hid (IntRoom wr B T a n) ∧ Hid (Over B T w wr)) (fun _ i _ => n - (intOf i).toNat)
  case atStart => exact ⟨0, Nat.zero_le _, rfl, rfl, h, Over.refl _ _ _⟩
  case round =>
    obtain ⟨j, hj, rfl, rfl, hr, ho⟩ := hrel
    by_cases hlt : j < n
    · obtain ⟨b, o, c, ty, rfl, hB, hT, hh, hx⟩ := hr.out.getC hlt
      obtain ⟨u0, hu0, k0⟩ := hx 0 (by omega)
      have c0 : wr.cell? ⟨b, o + j, none⟩ = some u0 := by rw [(cells_of hh).1]; simpa using hu0
      have f0 := (cells_of hh).2 (o + j)
      have HH := hideP hh
      have HK := hideP k0
      have HU := hideP hu0
      clear hh hx k0 hu0 h
      go_wp2
      go_roundw
      case rel =>
        have o1 : Over B T wr _ := (Over.refl B T wr).set hB hT HH.out (show c[o + j]? = some u0 by simpa using HU.out) (Like.ints HK.out ((k + j : Nat) : Int))
        exact ⟨j + 1, by omega, by go_num, by go_num, hr.out.over o1, ho.out.trans o1⟩
      case measure => simp [intOf]; omega
    · have hjn : j = n := by omega
      subst hjn
      go_wp2
      go_ret
      exact ⟨rfl, ho.out⟩
/-- A row of lists, the numbers of each within B .. T. -/
def rwK (w : World) (B T : Nat) (xs : List Rw) (i _ : Nat) (u : Value) : Prop := ∃ (hi : i < xs.length) (ur : Option Addr) (cr : Nat), u = .slice ur xs[i].length cr ∧ IntRoom w B T ur xs[i].length
def RwRoom (w : World) (B T : Nat) (a : Option Addr) (xs : List Rw) : Prop := Room w B T a xs.length 1 (rwK w B T xs)
theorem RwRoom.over {w w' : World} {B T : Nat} {a : Option Addr} {xs : List Rw} (h : RwRoom w B T a xs) (ho : Over B T w w') : RwRoom w' B T a xs :=
  Room.over h (fun i r u u' _ _ k l => by
    obtain ⟨hi, ua, ca, rfl, hm⟩ := k
    exact ⟨hi, ua, ca, l.slice, hm.over ho⟩) ho
theorem RwRoom.stays {w w' : World} {B T : Nat} {a : Option Addr} {xs : List Rw} (h : RwRoom w B T a xs) (bel : Below w.heap.size w w') : RwRoom w' B T a xs :=
  Room.stays h (fun i r u _ _ k => by
    obtain ⟨hi, ua, ca, rfl, hm⟩ := k
    exact ⟨hi, ua, ca, rfl, hm.stays bel⟩) bel
theorem RwRoom.of {w : World} {B : Nat} {a : Option Addr} {xs : List Rw} (h : SlIs RwIs 1 w B a xs) (hB : 0 < B) : RwRoom w B w.heap.size a xs := by
  obtain ⟨_, vs, h | ⟨b, o, ha, hb, hl, hp, hc⟩, hx⟩ := h
  · exact Or.inl h
  · obtain ⟨cs, T, hh⟩ := hp hB
    refine Or.inr ⟨b, o, cs, T, ha, hb, hl, hh, fun i r hi hr => ?_⟩
    have h1 := (hc i hi).2 r hr
    obtain ⟨ur, cr, hv, hrow⟩ := hx i hi
    rw [(cells_of hh).1, hv] at h1
    obtain rfl : r = 0 := by omega
    rw [h1]
    exact ⟨_, rfl, hi, ur, cr, rfl, IntRoom.of hrow hB⟩
/-- How many numbers the first j lists have. -/
theorem rw_part (xs : List Rw) (j : Nat) (h : j < xs.length) : slSum Rw.sz (xs.take (j + 1)) = slSum Rw.sz (xs.take j) + xs[j].length := slSum_take Rw.sz xs j h
set_option maxHeartbeats 1000000 in
theorem markIntSS_room (xs : List Rw) (w : World) (B T k : Nat) (a : Option Addr) (cap : Nat) (h : RwRoom w B T a xs) (hl : xs.length ≤ 1048576) (hk : k + slSum Rw.sz xs ≤ 100000000) :
    Calls Try.prog 23 #[.slice a xs.length cap, .int .i64 k] w fun en w' => en = .returned (.int .i64 ((k + slSum Rw.sz xs : Nat) : Int)) ∧ Over B T w w' := by
  have HK := hideP hk
  clear hk
  go_enter Try.func23, Try.ntmps23
  go_wp2
  go_loopw [1, 5] (fun q i wr => ∃ j m : Nat, j ≤ xs.length ∧ i = .int .i64 j ∧ q = .int .i64 m ∧ Hid (m = k + slSum Rw.sz (xs.take j)) ∧ Hid (RwRoom wr B T a xs) ∧ Hid (Over B T w wr)) (fun _ i _ => xs.length - (intOf i).toNat)
  case atStart => exact ⟨0, k, Nat.zero_le _, rfl, rfl, show _ = _ by simp [slSum], h, Over.refl _ _ _⟩
  case round =>
    obtain ⟨j, m, hj, rfl, rfl, hmk, hr, ho⟩ := hrel
    by_cases hlt : j < xs.length
    · obtain ⟨b, o, c, ty, rfl, hB, hT, hh, hx⟩ := hr.out.getC hlt
      obtain ⟨u0, hu0, hi, ur, cr, rfl, rm⟩ := hx 0 (by omega)
      have c0 : wr.cell? ⟨b, o + j, none⟩ = some (.slice ur xs[j].length cr) := by rw [(cells_of hh).1]; simpa using hu0
      have hle : m + xs[j].length ≤ 100000000 := by have h1 := rw_part xs j hlt; have h2 := slSum_le Rw.sz xs (j + 1); have h3 := HK.out; have h4 := hmk.out; omega
      have RM := hideP rm
      clear hh hx hu0 rm h
      go_wp2_with fail
      refine (markIntS_roomC xs[j].length _ B T m ur cr RM.out hle).mono ?_
      rintro e1 w1 ⟨rfl, o1⟩
      have O1 := hideP o1
      clear c0 o1
      go_wp2
      go_roundw
      case rel => exact ⟨j + 1, m + xs[j].length, by omega, by go_num, by go_num, show _ = _ by rw [rw_part xs j hlt]; have := hmk.out; omega, hr.out.over O1.out, ho.out.trans O1.out⟩
      case measure => simp [intOf]; omega
    · have hjn : j = xs.length := by omega
      subst hjn
      go_wp2
      go_ret
      exact ⟨ret_int (by have := hmk.out; rw [List.take_length] at this; rw [this]), ho.out⟩
def CpRoom (w : World) (B T : Nat) (v : Array Value) (x : Cp) : Prop := ∃ (u1 : Option Addr) (c1 : Nat) (u2 : Option Addr) (c2 : Nat) (u3 : Option Addr) (c3 : Nat) (u4 : Option Addr) (c4 : Nat) (u5 : Option Addr) (c5 : Nat),
  v = #[.int .i64 x.pos, .slice u1 x.regs.length c1, .slice u2 x.slots.length c2, .slice u3 x.mem.length c3, .slice u4 x.input.length c4, .slice u5 x.out.length c5, .int .i64 x.code, .bool x.over, .int .i64 x.val] ∧ IntRoom w B T u1 x.regs.length ∧ IntRoom w B T u2 x.slots.length ∧ RwRoom w B T u3 x.mem ∧ IntRoom w B T u4 x.input.length ∧ IntRoom w B T u5 x.out.length
theorem CpRoom.of {w : World} {B : Nat} {v : Array Value} {x : Cp} (h : CpIs w B v x) (hB : 0 < B) : CpRoom w B w.heap.size v x := by
  obtain ⟨u1, c1, u2, c2, u3, c3, u4, c4, u5, c5, e, _, h1, h2, h3, h4, h5⟩ := h
  exact ⟨u1, c1, u2, c2, u3, c3, u4, c4, u5, c5, e, IntRoom.of h1 hB, IntRoom.of h2 hB, RwRoom.of h3 hB, IntRoom.of h4 hB, IntRoom.of h5 hB⟩
theorem CpRoom.stays {w w' : World} {B T : Nat} {v : Array Value} {x : Cp} (h : CpRoom w B T v x) (bel : Below w.heap.size w w') : CpRoom w' B T v x := by
  obtain ⟨u1, c1, u2, c2, u3, c3, u4, c4, u5, c5, e, h1, h2, h3, h4, h5⟩ := h
  exact ⟨u1, c1, u2, c2, u3, c3, u4, c4, u5, c5, e, h1.stays bel, h2.stays bel, h3.stays bel, h4.stays bel, h5.stays bel⟩
set_option maxHeartbeats 2000000 in
/-- Marks from any number on (a law marks several arguments, one behind another). -/
theorem markCpu_roomK (x : Cp) (w : World) (B T k0 : Nat) (v : Array Value) (h : CpRoom w B T v x) (hT : T ≤ w.heap.size) (hs : x.sz ≤ 1048576) (hk0 : k0 ≤ 50000000) :
    Calls Try.prog 10 #[.agg v, .int .i64 k0] w fun en w' => ∃ k : Nat, en = .returned (.int .i64 k) ∧ Over B T w w' := by
  obtain ⟨pos, regs, slots, mem, input, out, code, over, val⟩ := x
  obtain ⟨u1, c1, u2, c2, u3, c3, u4, c4, u5, c5, rfl, h1, h2, h3, h4, h5⟩ := h
  simp only at *
  have hml : mem.length ≤ 1048576 := by simp only [Cp.sz] at hs; unfold slSz at hs; omega
  have hs' : regs.length + slots.length + slSum Rw.sz mem + input.length + out.length ≤ 1048576 := by simp only [Cp.sz] at hs; unfold slSz at hs; omega
  obtain ⟨S, hS⟩ : ∃ S, slSum Rw.sz mem = S := ⟨_, rfl⟩
  have al : Hid (Below w.heap.size w (w.alloc (.cells #[.int .i64 pos, .slice u1 regs.length c1, .slice u2 slots.length c2, .slice u3 mem.length c3, .slice u4 input.length c4, .slice u5 out.length c5, .int .i64 code, .bool over, .int .i64 val] 30))) := (Below.refl _ _).alloc (Nat.le_refl _) _
  have H1 := hideP (h1.stays al.out)
  have H2 := hideP (h2.stays al.out)
  have H3 := hideP (h3.stays al.out)
  have H4 := hideP (h4.stays al.out)
  have H5 := hideP (h5.stays al.out)
  have M3 : Hid (∀ (W : World) (k : Nat), RwRoom W B T u3 mem → k + S ≤ 100000000 → Calls Try.prog 23 #[.slice u3 mem.length c3, .int .i64 k] W fun en w' => en = .returned (.int .i64 ((k + S : Nat) : Int)) ∧ Over B T W w') := fun W k hr hk => by rw [← hS]; exact markIntSS_room mem W B T k u3 c3 hr hml (by rw [hS]; exact hk)
  rw [hS] at hs'
  clear h1 h2 h3 h4 h5 hs hS hml
  go_enter Try.func10, Try.ntmps10
  go_wp2_with fail
  refine (markIntS_roomC regs.length _ B T k0 u1 c1 H1.out (by omega)).mono ?_
  rintro e1 w1 ⟨rfl, o1⟩
  have hv1 := (o1.out w.heap.size (by simp) (Or.inr hT)).trans (show (w.alloc _).heap[w.heap.size]? = _ from Array.getElem?_push_size)
  have hT1 : T ≤ w1.heap.size := by have := o1.size; simp at this; omega
  have b2 := (cells_of hv1).1 2
  simp at b2
  have V1 := hideP hv1
  have O1 := hideP o1
  have TT1 := hideP hT1
  clear o1 hv1 H1 hT1
  go_wp2_with fail
  refine (markIntS_roomC slots.length _ B T (k0 + regs.length) u2 c2 (H2.out.over O1.out) (by omega)).mono ?_
  rintro e2 w2 ⟨rfl, o2⟩
  have hl1 : w.heap.size < w1.heap.size := (Array.getElem?_eq_some_iff.1 V1.out).1
  have hv2 := (o2.out w.heap.size hl1 (Or.inr hT)).trans V1.out
  have O2 := hideP (O1.out.trans o2)
  have b3 := (cells_of hv2).1 3
  simp at b3
  have V2 := hideP hv2
  clear o2 hv2 H2 b2 V1 O1 hl1
  go_wp2_with fail
  refine (M3.out _ (k0 + regs.length + slots.length) (H3.out.over O2.out) (by omega)).mono ?_
  rintro e3 w3 ⟨rfl, o3⟩
  have hl2 : w.heap.size < w2.heap.size := (Array.getElem?_eq_some_iff.1 V2.out).1
  have hv3 := (o3.out w.heap.size hl2 (Or.inr hT)).trans V2.out
  have O3 := hideP (O2.out.trans o3)
  have b4 := (cells_of hv3).1 4
  simp at b4
  have V3 := hideP hv3
  clear o3 hv3 H3 b3 V2 O2 hl2 M3
  go_wp2_with fail
  refine (markIntS_roomC input.length _ B T (k0 + regs.length + slots.length + S) u4 c4 (H4.out.over O3.out) (by omega)).mono ?_
  rintro e4 w4 ⟨rfl, o4⟩
  have hl3 : w.heap.size < w3.heap.size := (Array.getElem?_eq_some_iff.1 V3.out).1
  have hv4 := (o4.out w.heap.size hl3 (Or.inr hT)).trans V3.out
  have O4 := hideP (O3.out.trans o4)
  have b5 := (cells_of hv4).1 5
  simp at b5
  clear o4 hv4 H4 b4 V3 O3 hl3
  go_wp2_with fail
  refine (markIntS_roomC out.length _ B T (k0 + regs.length + slots.length + S + input.length) u5 c5 (H5.out.over O4.out) (by omega)).mono ?_
  rintro e5 w5 ⟨rfl, o5⟩
  have O5 := hideP (O4.out.trans o5)
  clear o5 b5 O4
  go_wp2
  go_ret
  exact ⟨_, rfl, O5.out.of_allocC⟩
theorem markCpu_room (x : Cp) (w : World) (B T : Nat) (v : Array Value) (h : CpRoom w B T v x) (hT : T ≤ w.heap.size) (hs : x.sz ≤ 1048576) :
    Calls Try.prog 10 #[.agg v, .int .i64 1] w fun en w' => ∃ k : Nat, en = .returned (.int .i64 k) ∧ Over B T w w' :=
  markCpu_roomK x w B T 1 v h hT hs (by omega)
end Go.Proofs.Ytpbmnajlkgjkfab
