/- The contracts of the laws' marks on a graph: numbers over numbers, texts over texts. -/
import Derived.Test.YtdkdimklacblaalRROver
import Derived.Test.YtdkdimklacblaalRRMarkT
namespace Go.Proofs.YtdkdimklacblaalRR
open Go.ChangeShapes Go.WideShapes Go.ChangeAt Go.RowKit
theorem Room.get {w : World} {B T : Nat} {a : Option Addr} {n sz : Nat} {K : Nat → Nat → Value → Prop} (h : Room w B T a n sz K) {i : Nat} (hi : i < n) : ∃ (b o : Nat) (c : Array Value) (ty : TypeId), a = some ⟨b, o, none⟩ ∧ B ≤ b ∧ b < T ∧ w.heap[b]? = some (.cells c ty (0, 0)) ∧ ∀ (r : Nat), r < sz → ∃ u : Value, c[o + i * sz + r]? = some u ∧ K i r u := by
  rcases h with h | ⟨b, o, c, ty, ha, hB, hT, hh, hx⟩
  · omega
  · exact ⟨b, o, c, ty, ha, hB, hT, hh, fun r hr => hx i r hi hr⟩
set_option maxHeartbeats 1000000 in
theorem markIntS_room (n : Nat) (w : World) (B T k : Nat) (a : Option Addr) (cap : Nat) (h : IntRoom w B T a n) (hk : k + n ≤ 100000000) :
    Calls Try.prog 14 #[.slice a n cap, .int .i64 k] w fun en w' => en = .returned (.int .i64 ((k + n : Nat) : Int)) ∧ Over B T w w' := by
  go_enter Try.func14, Try.ntmps14
  go_wp2
  go_loopw [1, 5] (fun q i wr => ∃ j : Nat, j ≤ n ∧ i = .int .i64 j ∧ q = .int .i64 ((k + j : Nat) : Int) ∧ Hid (IntRoom wr B T a n) ∧ Hid (Over B T w wr)) (fun _ i _ => n - (intOf i).toNat)
  case atStart => exact ⟨0, Nat.zero_le _, rfl, rfl, h, Over.refl _ _ _⟩
  case round =>
    obtain ⟨j, hj, rfl, rfl, hr, ho⟩ := hrel
    by_cases hlt : j < n
    · obtain ⟨b, o, c, ty, rfl, hB, hT, hh, hx⟩ := hr.out.get hlt
      obtain ⟨u0, hu0, k0⟩ := hx 0 (by omega)
      have c0 : wr.cell? ⟨b, o + j, none⟩ = some u0 := by rw [(cells_of hh).1]; simpa using hu0
      have f0 := (cells_of hh).2 (o + j)
      have HH := hideP hh
      have HK := hideP k0
      have HU := hideP hu0
      clear hh hx k0 hu0 h
      go_wp2
      go_roundw
      case rel =>
        have o1 : Over B T wr _ := (Over.refl B T wr).set hB hT HH.out (show c[o + j]? = some u0 by simpa using HU.out) (Like.ints HK.out ((k + j : Nat) : Int))
        exact ⟨j + 1, by omega, by go_num, by go_num, hr.out.over o1, ho.out.trans o1⟩
      case measure => simp [intOf]; omega
    · have hjn : j = n := by omega
      subst hjn
      go_wp2
      go_ret
      exact ⟨rfl, ho.out⟩
set_option maxHeartbeats 4000000 in
theorem markInstrS_room (n : Nat) (w : World) (B T k : Nat) (a : Option Addr) (cap : Nat) (h : InsRoom w B T a n) (hk0 : 0 < k) (hk : k + n * 7 ≤ 100000000) :
    Calls Try.prog 33 #[.slice a n cap, .int .i64 k] w fun en w' => en = .returned (.int .i64 ((k + n * 7 : Nat) : Int)) ∧ Over B T w w' := by
  go_enter Try.func33, Try.ntmps33
  go_wp2
  go_loopw [1, 5] (fun q i wr => ∃ j m : Nat, j ≤ n ∧ i = .int .i64 j ∧ q = .int .i64 m ∧ Hid (m = k + j * 7) ∧ Hid (InsRoom wr B T a n) ∧ Hid (Over B T w wr)) (fun _ i _ => n - (intOf i).toNat)
  case atStart => exact ⟨0, k, Nat.zero_le _, rfl, rfl, show _ = _ by simp, h, Over.refl _ _ _⟩
  case round =>
    obtain ⟨j, m, hj, rfl, rfl, hmk, hr, ho⟩ := hrel
    by_cases hlt : j < n
    · obtain ⟨b, o, c, ty, rfl, hB, hT, hh, hx⟩ := hr.out.get hlt
      have hm0 : 0 < m := by have := hmk.out; omega
      have hm1 : m + 7 ≤ 100000000 := by have := hmk.out; omega
      obtain ⟨u0, hu0, k0⟩ := hx 0 (by omega)
      obtain ⟨u1, hu1, k1⟩ := hx 1 (by omega)
      obtain ⟨u2, hu2, k2⟩ := hx 2 (by omega)
      obtain ⟨u3, hu3, k3⟩ := hx 3 (by omega)
      obtain ⟨u4, hu4, k4⟩ := hx 4 (by omega)
      obtain ⟨u5, hu5, k5⟩ := hx 5 (by omega)
      obtain ⟨u6, hu6, k6⟩ := hx 6 (by omega)
      have c0 : wr.cell? ⟨b, o + j * 7, none⟩ = some u0 := by rw [(cells_of hh).1]; exact hu0
      have c1 : wr.cell? ⟨b, o + j * 7 + 1, none⟩ = some u1 := by rw [(cells_of hh).1]; exact hu1
      have c2 : wr.cell? ⟨b, o + j * 7 + 2, none⟩ = some u2 := by rw [(cells_of hh).1]; exact hu2
      have c3 : wr.cell? ⟨b, o + j * 7 + 3, none⟩ = some u3 := by rw [(cells_of hh).1]; exact hu3
      have c4 : wr.cell? ⟨b, o + j * 7 + 4, none⟩ = some u4 := by rw [(cells_of hh).1]; exact hu4
      have c5 : wr.cell? ⟨b, o + j * 7 + 5, none⟩ = some u5 := by rw [(cells_of hh).1]; exact hu5
      have f0 := (cells_of hh).2
      have HH := hideP hh
      have K : Hid (∀ (r : Nat) (hr : r < 6), ∃ u : Value, c[o + j * 7 + r]? = some u ∧ isI u) := fun r hr => by
        obtain ⟨u, h1, h2⟩ := hx r (by omega)
        exact ⟨u, h1, by unfold insK at h2; rwa [if_pos hr] at h2⟩
      have K6 : Hid (c[o + j * 7 + 6]? = some u6 ∧ isS u6) := ⟨hu6, by unfold insK at k6; simpa using k6⟩
      clear hh hx k0 k1 k2 k3 k4 k5 k6 hu0 hu1 hu2 hu3 hu4 hu5 hu6 h
      go_wp2_with fail
      have ekj : ((m : Int) + 1 + 1 + 1 + 1 + 1 + 1) = ((m + 6 : Nat) : Int) := by omega
      rw [ekj]
      clear ekj
      refine (markText_any (m + 6) _ (by omega) (by omega)).mono ?_
      rintro e1 w1 ⟨rfl, bel1⟩
      obtain ⟨l, hl⟩ : ∃ l : List Value, [.int .i64 m, .int .i64 ((m : Int) + 1), .int .i64 ((m : Int) + 1 + 1), .int .i64 ((m : Int) + 1 + 1 + 1), .int .i64 ((m : Int) + 1 + 1 + 1 + 1), .int .i64 ((m : Int) + 1 + 1 + 1 + 1 + 1)] = l := ⟨_, rfl⟩
      have hll : l.length = 6 := by rw [← hl]; rfl
      have hli : ∀ (r : Nat) (hr : r < l.length), ∃ u : Value, c[o + j * 7 + r]? = some u ∧ Like u l[r] := fun r hr => by
        obtain ⟨u, h1, h2⟩ := K.out r (by omega)
        refine ⟨u, h1, ?_⟩
        subst hl
        match r, hr with
        | 0, _ => exact Like.ints h2 _
        | 1, _ => exact Like.ints h2 _
        | 2, _ => exact Like.ints h2 _
        | 3, _ => exact Like.ints h2 _
        | 4, _ => exact Like.ints h2 _
        | 5, _ => exact Like.ints h2 _
      have o1 := Over.sets hB hT l wr (o + j * 7) c HH.out hli (Over.refl B T wr)
      have h0 := sets_heap l wr (o + j * 7) c HH.out
      have hbel : Below (sets b wr (o + j * 7) l).heap.size (sets b wr (o + j * 7) l) w1 := by rw [← hl]; exact bel1
      clear bel1
      have o2 := o1.on hbel
      have h1 : w1.heap[b]? = some (.cells (setsA c (o + j * 7) l) ty (0, 0)) := (hbel.block b (Array.getElem?_eq_some_iff.1 h0).1).trans h0
      have h6 : (setsA c (o + j * 7) l)[o + j * 7 + 6]? = some u6 := by rw [setsA_out l c _ _ (by omega)]; exact K6.out.1
      have c6 : w1.cell? ⟨b, o + j * 7 + 6, none⟩ = some u6 := by rw [(cells_of h1).1]; exact h6
      have f6 := (cells_of h1).2 (o + j * 7 + 6)
      have O3 := hideP (o2.set hB hT h1 h6 (Like.texts K6.out.2 (markS (m + 6))))
      clear hl hll hli o1 h0 hbel o2 h1 h6 c0 c1 c2 c3 c4 c5 f0
      go_wp2
      go_roundw
      case rel =>
        exact ⟨j + 1, m + 7, by omega, by go_num, by go_num, show _ = _ by rw [hmk.out]; omega, hr.out.over O3.out, ho.out.trans O3.out⟩
      case measure => simp [intOf]; omega
    · have hjn : j = n := by omega
      subst hjn
      go_wp2
      go_ret
      exact ⟨ret_int (by rw [hmk.out]), ho.out⟩
def bMarks (x : Blk) : Nat := x.code.length * 7 + 4
set_option maxHeartbeats 4000000 in
theorem markBlockS_room (xs : List Blk) (w : World) (B T k : Nat) (a : Option Addr) (cap : Nat) (h : BlkRoom w B T a xs) (hk0 : 0 < k) (hk : k + slSum bMarks xs ≤ 100000000) (hn : xs.length ≤ 100000000) :
    Calls Try.prog 45 #[.slice a xs.length cap, .int .i64 k] w fun en w' => en = .returned (.int .i64 ((k + slSum bMarks xs : Nat) : Int)) ∧ Over B T w w' := by
  go_enter Try.func45, Try.ntmps45
  go_wp2
  go_loopw [1, 5] (fun q i wr => ∃ j m : Nat, j ≤ xs.length ∧ i = .int .i64 j ∧ q = .int .i64 m ∧ Hid (m = k + slSum bMarks (xs.take j)) ∧ Hid (BlkRoom wr B T a xs) ∧ Hid (Over B T w wr)) (fun _ i _ => xs.length - (intOf i).toNat)
  case atStart => exact ⟨0, k, Nat.zero_le _, rfl, rfl, show _ = _ by simp [slSum], h, Over.refl _ _ _⟩
  case round =>
    obtain ⟨j, m, hj, rfl, rfl, hmk, hr, ho⟩ := hrel
    by_cases hlt : j < xs.length
    · obtain ⟨b, o, c, ty, rfl, hB, hT, hh, hx⟩ := hr.out.get hlt
      obtain ⟨u0, hu0, k0⟩ := hx 0 (by omega)
      obtain ⟨_, ua, ca, rfl, hroom⟩ : ∃ (h : j < xs.length) (ua : Option Addr) (ca : Nat), u0 = .slice ua xs[j].code.length ca ∧ InsRoom wr B T ua xs[j].code.length := by unfold blkK at k0; simpa using k0
      obtain ⟨N, hN⟩ : ∃ N, xs[j].code.length = N := ⟨_, rfl⟩
      have hst := slSum_take bMarks xs j hlt
      have hle := slSum_le bMarks xs (j + 1)
      have hbm : bMarks xs[j] = N * 7 + 4 := by unfold bMarks; rw [hN]
      rw [hN] at hu0 hroom
      have hm0 : 0 < m := by have := hmk.out; omega
      have hm1 : m + N * 7 + 4 ≤ 100000000 := by have := hmk.out; omega
      have HM2 : Hid (m + N * 7 + 4 = k + slSum bMarks (xs.take (j + 1))) := by show _ = _; have := hmk.out; omega
      have c0 : wr.cell? ⟨b, o + j * 5, none⟩ = some (.slice ua N ca) := by rw [(cells_of hh).1]; exact hu0
      clear hh hx k0 hu0 h hst hle hbm hN
      go_wp2_with fail
      refine (markInstrS_room N _ B T m ua ca hroom (by omega) (by omega)).mono ?_
      rintro e1 w1 ⟨rfl, o1⟩
      clear c0 hroom
      obtain ⟨M, hM⟩ : ∃ M, m + N * 7 = M := ⟨_, rfl⟩
      rw [hM]
      have hr1 := hr.out.over o1
      obtain ⟨b', o', c1, ty1, he, _, _, hh, hx⟩ := hr1.get hlt
      cases he
      obtain ⟨u1, hu1, k1⟩ := hx 1 (by omega)
      obtain ⟨u2, hu2, k2⟩ := hx 2 (by omega)
      obtain ⟨u3, hu3, k3⟩ := hx 3 (by omega)
      obtain ⟨u4, hu4, k4⟩ := hx 4 (by omega)
      have c1 : w1.cell? ⟨b, o + j * 5 + 1, none⟩ = some u1 := by rw [(cells_of hh).1]; exact hu1
      have c2 : w1.cell? ⟨b, o + j * 5 + 2, none⟩ = some u2 := by rw [(cells_of hh).1]; exact hu2
      have c3 : w1.cell? ⟨b, o + j * 5 + 3, none⟩ = some u3 := by rw [(cells_of hh).1]; exact hu3
      have c4 : w1.cell? ⟨b, o + j * 5 + 4, none⟩ = some u4 := by rw [(cells_of hh).1]; exact hu4
      have f0 := (cells_of hh).2
      have O2 : Hid (Over B T wr (sets b w1 (o + j * 5 + 1) [.int .i64 M, .int .i64 ((M : Int) + 1), .int .i64 ((M : Int) + 1 + 1), .int .i64 ((M : Int) + 1 + 1 + 1)])) := by
        refine Over.sets hB hT _ w1 (o + j * 5 + 1) _ hh (fun r hr => ?_) o1
        match r, hr with
        | 0, _ => exact ⟨u1, hu1, Like.ints (by unfold blkK at k1; simpa using k1) _⟩
        | 1, _ => exact ⟨u2, hu2, Like.ints (by unfold blkK at k2; simpa using k2) _⟩
        | 2, _ => exact ⟨u3, hu3, Like.ints (by unfold blkK at k3; simpa using k3) _⟩
        | 3, _ => exact ⟨u4, hu4, Like.ints (by unfold blkK at k4; simpa using k4) _⟩
      have HM := hideP hM
      have hM1 : M + 4 ≤ 100000000 := by omega
      clear hh hx k1 k2 k3 k4 hu1 hu2 hu3 hu4 hr1 o1 hM
      go_wp2
      go_roundw
      case rel =>
        exact ⟨j + 1, M + 4, by omega, by go_num, by go_num, show _ = _ by rw [← HM2.out, ← HM.out], hr.out.over O2.out, ho.out.trans O2.out⟩
      case measure => simp [intOf]; omega
    · have hjn : j = xs.length := by omega
      subst hjn
      go_wp2
      go_ret
      exact ⟨ret_int (by rw [hmk.out, List.take_length]), ho.out⟩
theorem Over.of_alloc {B T : Nat} {w w' : World} {o : Obj} (h : Over B T (w.alloc o) w') : Over B T w w' := ((Over.refl B T w).on ((Below.refl _ _).alloc (Nat.le_refl _) o)).trans h
theorem marks_le : ∀ (xs : List Blk), slSum bMarks xs ≤ 7 * slSz Blk.sz xs
  | [] => by simp [slSum]
  | x :: xs => by
    have := marks_le xs
    simp only [slSz, slSum, List.length_cons, bMarks, Blk.sz] at *
    omega
set_option maxHeartbeats 1000000 in
theorem markGraph_room (x : Gr) (w : World) (B T : Nat) (v : Array Value) (h : GrRoom w B T v x) (hT : T ≤ w.heap.size) (hs : x.sz ≤ 1048576) :
    Calls Try.prog 21 #[.agg v, .int .i64 1] w fun en w' => ∃ k : Nat, en = .returned (.int .i64 k) ∧ Over B T w w' := by
  obtain ⟨us, cs, ub, cb, rfl, h1, h2⟩ := h
  have hm := marks_le x.blocks
  have hs' : x.sizes.length + slSz Blk.sz x.blocks ≤ 1048576 := hs
  have hbl : x.blocks.length ≤ 1048576 := by unfold slSz at hs'; omega
  have H1 := hideP h1
  have H2 := hideP h2
  clear h1 h2
  go_enter Try.func21, Try.ntmps21
  go_wp2_with fail
  refine (markIntS_room x.sizes.length _ B T 1 us cs (H1.out.stays ((Below.refl _ _).alloc (Nat.le_refl _) _)) (by omega)).mono ?_
  rintro e1 w1 ⟨rfl, o1⟩
  have hv := (o1.out w.heap.size (by simp) (Or.inr hT)).trans (show (w.alloc _).heap[w.heap.size]? = _ from Array.getElem?_push_size)
  have c4 := (cells_of hv).1 4
  simp at c4
  have hb := (H2.out.stays ((Below.refl w.heap.size w).alloc (Nat.le_refl _) (.cells #[.slice us x.sizes.length cs, .int .i64 x.params, .int .i64 x.vars, .int .i64 x.slots, .slice ub x.blocks.length cb] 44))).over o1
  have O1 := hideP o1
  clear o1 hv
  go_wp2_with fail
  refine (markBlockS_room x.blocks _ B T (1 + x.sizes.length) ub cb hb (by omega) (by omega) (by omega)).mono ?_
  rintro e2 w2 ⟨rfl, o2⟩
  clear c4
  go_wp2
  go_ret
  exact ⟨_, rfl, (O1.out.trans o2).of_alloc⟩
end Go.Proofs.YtdkdimklacblaalRR
